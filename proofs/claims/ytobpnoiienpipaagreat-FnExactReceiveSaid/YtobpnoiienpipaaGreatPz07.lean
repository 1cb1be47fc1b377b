/-
  What is proved: sums, differences, products and quotients by powers of two of single floats that are whole multiples of a power of two are exact.
  Conditions: the multiples are of less than 24 binary digits.
-/
import Derived.Test.YtobpnoiienpipaaGreatPz06
import Derived.Test.YtobpnoiienpipaaGreatPz03
import Derived.Test.YtobpnoiienpipaaGreatPz02
import Derived.Test.YtobpnoiienpipaaGreatPz05
namespace Go.Proofs.YtobpnoiienpipaaGreat.Flt
set_option linter.unusedVariables false
open Ieee

/-- The number of a times 2 to the e, counted in units of the least place (e = 149: whole numbers; 145: sixteenths). -/
def Q (e : Nat) (x : Nat) (a : Int) : Prop := x < 2 ^ 32 ∧ ∃ s u, Num single x s u ∧ sg s u = a * 2 ^ e
theorem Sx.q {x : Nat} {a : Int} (h : Sx x a) : Q 145 x a := h
theorem pow_cast (e : Nat) : (2 : Int) ^ e = ((2 ^ e : Nat) : Int) := by simp
theorem q_abs {s : Bool} {u e : Nat} {k : Int} (h : sg s u = k * 2 ^ e) : u = k.natAbs * 2 ^ e := by
  have h1 := congrArg Int.natAbs h
  rw [natAbs_sg, Int.natAbs_mul, pow_cast, Int.natAbs_natCast] at h1
  exact h1
theorem abs_pow (k : Int) (e : Nat) : (k * 2 ^ e).natAbs = k.natAbs * 2 ^ e := by rw [pow_cast, Int.natAbs_mul, Int.natAbs_natCast]
theorem rep_q {n : Nat} (e : Nat) (h : n < 2 ^ 24) : Rep single (n * 2 ^ e) := rep_mul (rep_small (by rw [frac32]; exact h)) e
theorem cap_q {n e : Nat} (h : n < 2 ^ 24) (he : e ≤ 240) : n * 2 ^ e < 2 ^ cap single := by
  obtain ⟨C, hC, hC2⟩ : ∃ C, cap single = C ∧ C = 277 := ⟨_, rfl, cap32⟩
  rw [hC]
  have h1 : n * 2 ^ e < 2 ^ 24 * 2 ^ e := Nat.mul_lt_mul_of_pos_right h (two_pos e)
  rw [← Nat.pow_add] at h1
  exact Nat.lt_of_lt_of_le h1 (Nat.pow_le_pow_right (by decide) (by omega))
theorem wf32 {op : BinOp} {x y r : Nat} (h : floatBits op .f32 x y = some r) : r < 2 ^ 32 := by
  have := floatBits_wf h
  simpa [Lit.wf] using this
theorem Q.add {e x y : Nat} {a b : Int} (hx : Q e x a) (hy : Q e y b) (h : (a + b).natAbs < 2 ^ 24) (he : e ≤ 240) : ∃ r, floatBits .add .f32 x y = some r ∧ Q e r (a + b) := by
  obtain ⟨_, s, u, hx, ha⟩ := hx
  obtain ⟨_, t, v, hy, hb⟩ := hy
  have hs : sg s u + sg t v = (a + b) * 2 ^ e := by rw [ha, hb, Int.add_mul]
  obtain ⟨r, hr, hn⟩ := add_num fine32 hx hy (by rw [hs, abs_pow]; exact rep_q e h) (by rw [hs, abs_pow]; exact cap_q h he)
  rw [hs] at hn
  have hr' : floatBits .add .f32 x y = some r := hr
  exact ⟨r, hr', wf32 hr', _, _, hn, sg_self _ _⟩
theorem Q.sub {e x y : Nat} {a b : Int} (hx : Q e x a) (hy : Q e y b) (h : (a - b).natAbs < 2 ^ 24) (he : e ≤ 240) : ∃ r, floatBits .sub .f32 x y = some r ∧ Q e r (a - b) := by
  obtain ⟨_, s, u, hx, ha⟩ := hx
  obtain ⟨_, t, v, hy, hb⟩ := hy
  have hs : sg s u - sg t v = (a - b) * 2 ^ e := by rw [ha, hb, Int.sub_mul]
  obtain ⟨r, hr, hn⟩ := sub_num fine32 hx hy (by rw [hs, abs_pow]; exact rep_q e h) (by rw [hs, abs_pow]; exact cap_q h he)
  rw [hs] at hn
  have hr' : floatBits .sub .f32 x y = some r := hr
  exact ⟨r, hr', wf32 hr', _, _, hn, sg_self _ _⟩
theorem Q.neg {e x : Nat} {a : Int} (hx : Q e x a) : Q e (Op.negFloat .f32 x) (-a) := by
  obtain ⟨h0, s, u, hx, ha⟩ := hx
  exact ⟨neg_lt32 h0, !s, u, num_neg32 h0 hx, by rw [sg_not, ha, Int.neg_mul]⟩
theorem sg_xor (s t : Bool) (u v : Nat) : sg (s ^^ t) (u * v) = sg s u * sg t v := by
  unfold sg
  cases s <;> cases t <;> simp [Int.natCast_mul, Int.neg_mul, Int.mul_neg]
theorem Q.mul {e f x y : Nat} {a b : Int} (hx : Q e x a) (hy : Q f y b) (h : (a * b).natAbs < 2 ^ 24) (h1 : 149 ≤ e + f) (h2 : e + f ≤ 389) : ∃ r, floatBits .mul .f32 x y = some r ∧ Q (e + f - 149) r (a * b) := by
  obtain ⟨_, s, u, hx, ha⟩ := hx
  obtain ⟨_, t, v, hy, hb⟩ := hy
  obtain ⟨g, hg⟩ : ∃ g, e + f - 149 = g := ⟨_, rfl⟩
  have hef : e + f = g + 149 := by omega
  have hu := q_abs ha
  have hv := q_abs hb
  have hw : u * v = ((a * b).natAbs * 2 ^ g) * 2 ^ unit single := by
    rw [hu, hv, unit32, Int.natAbs_mul, Nat.mul_assoc (a.natAbs * b.natAbs), ← Nat.pow_add, ← hef, Nat.pow_add]
    ac_rfl
  obtain ⟨r, hr, hn⟩ := mul_num fine32 hx hy _ hw (rep_q g h) (cap_q h (by omega))
  have hr' : floatBits .mul .f32 x y = some r := hr
  refine ⟨r, hr', wf32 hr', _, _, hn, ?_⟩
  rw [hg]
  have k1 : sg (s ^^ t) (u * v) = (a * b) * 2 ^ g * 2 ^ 149 := by
    rw [sg_xor, ha, hb, Int.mul_assoc (a * b), pow_cast, pow_cast, pow_cast, pow_cast, ← Int.natCast_mul (2 ^ g), ← Nat.pow_add, ← hef, Nat.pow_add, Int.natCast_mul]
    ac_rfl
  rw [hw, unit32] at k1
  have k2 : sg (s ^^ t) ((a * b).natAbs * 2 ^ g * 2 ^ 149) = sg (s ^^ t) ((a * b).natAbs * 2 ^ g) * 2 ^ 149 := by
    unfold sg
    rw [pow_cast 149]
    cases (s ^^ t) <;> simp [Int.natCast_mul, Int.neg_mul]
  rw [k2] at k1
  exact Int.eq_of_mul_eq_mul_right (by decide +kernel) k1
theorem log_lt24 {m : Nat} (h : m < 2 ^ (23 + 1)) (h0 : m ≠ 0) : m.log2 < 24 := (Nat.log2_lt h0).2 h
theorem div_two_pow {x c : Nat} {s t : Bool} {u w : Nat} {j : Int} (hc : single.read c = .number t 8388608 j) (h : Num single x s u) (hw : u * 2 ^ (-(23 + j)).toNat = w * 2 ^ (23 + j).toNat) (hcap : w < 2 ^ cap single) (hr : Rep single w) : ∃ q, single.div x c = some q ∧ Num single q (s ^^ t) w := by
  obtain ⟨C, hC⟩ : ∃ C, cap single = C := ⟨_, rfl⟩
  obtain ⟨m, i, h1, h2, h3⟩ := h
  have hm := read_bound h1
  rw [frac32] at hm
  rw [place32] at h2 h3
  unfold Format.div
  rw [h1, hc]
  have hn : Nat.log2 8388608 = 23 := by decide +kernel
  have hlog : m.log2 ≤ 23 := by
    by_cases h0 : m = 0
    · subst h0; decide
    · have := log_lt24 hm h0; omega
  obtain ⟨k, hk⟩ : ∃ k, single.fractionBits + 2 + Nat.log2 8388608 - m.log2 = k + 23 := ⟨single.fractionBits + 2 + Nat.log2 8388608 - m.log2 - 23, by rw [hn, frac32]; omega⟩
  have hdiv : m * 2 ^ (k + 23) / 8388608 = m * 2 ^ k := by
    rw [show (8388608 : Nat) = 2 ^ 23 from rfl, Nat.pow_add, ← Nat.mul_assoc, Nat.mul_div_cancel _ (two_pos 23)]
  have hmod : m * 2 ^ (k + 23) % 8388608 = 0 := by
    rw [show (8388608 : Nat) = 2 ^ 23 from rfl, Nat.pow_add, ← Nat.mul_assoc, Nat.mul_mod_left]
  simp only [Datum.quotient, show (8388608 : Nat) ≠ 0 by decide, if_false, Option.map_some, Format.write, hk, shl, hdiv, hmod, bne_self_eq_false, Bool.toNat_false, Nat.add_zero]
  refine ⟨_, rfl, num_of fine32 _ _ w _ ?_ hr hcap⟩
  clear hcap hr
  rw [place32]
  have ha : 2 * (m * 2 ^ k) = m * 2 ^ (k + 1) := by rw [Nat.pow_succ]; ac_rfl
  rw [ha]
  apply Nat.eq_of_mul_eq_mul_right (two_pos (23 + j).toNat)
  have e1 : w * 2 ^ (-149 - (i - j - ((k + 23 : Nat) : Int) - 1)).toNat * 2 ^ (23 + j).toNat = (w * 2 ^ (23 + j).toNat) * 2 ^ (-149 - (i - j - ((k + 23 : Nat) : Int) - 1)).toNat := by ac_rfl
  rw [e1, ← hw, h3]
  clear e1 hw h3 hdiv hmod ha
  have e2 : k + 1 + (i - j - ((k + 23 : Nat) : Int) - 1 - -149).toNat + (23 + j).toNat = (i - -149).toNat + (-(23 + j)).toNat + (-149 - (i - j - ((k + 23 : Nat) : Int) - 1)).toNat := by omega
  have e3 := congrArg (fun n => m * 2 ^ n) e2
  simp only [Nat.pow_add] at e3
  rw [Nat.pow_add]
  calc _ = _ := by ac_rfl
    _ = _ := e3
    _ = _ := by ac_rfl
/-- A quotient by 2 to the p, or by its negative. -/
theorem Q.quo {e f x c : Nat} {a : Int} {t : Bool} {j : Int} (hc : single.read c = .number t 8388608 j) (hx : Q e x a) (h : a.natAbs < 2 ^ 24) (hf : (f : Int) = e - (23 + j)) (hf2 : f ≤ 240) : ∃ r, floatBits .quo .f32 x c = some r ∧ Q f r (if t = true then -a else a) := by
  obtain ⟨h0, s, u, hx, ha⟩ := hx
  have hu := q_abs ha
  have hw : u * 2 ^ (-(23 + j)).toNat = (a.natAbs * 2 ^ f) * 2 ^ (23 + j).toNat := by
    rw [hu, Nat.mul_assoc, Nat.mul_assoc, ← Nat.pow_add, ← Nat.pow_add]
    congr 2
    omega
  obtain ⟨r, hr, hn⟩ := div_two_pow hc hx hw (cap_q h hf2) (rep_q f h)
  have hr' : floatBits .quo .f32 x c = some r := hr
  refine ⟨r, hr', wf32 hr', _, _, hn, ?_⟩
  have k1 : sg s (a.natAbs * 2 ^ f) = a * 2 ^ f := by
    have k2 : sg s (a.natAbs * 2 ^ e) = a * 2 ^ e := by rw [← hu, ha]
    rw [sg_scale] at k2
    have k3 := Int.eq_of_mul_eq_mul_right (by have := two_pos e; rw [pow_cast]; omega) k2
    rw [sg_scale, k3]
  cases t with
  | false => rw [Bool.xor_false, k1]; rfl
  | true => rw [Bool.xor_true, sg_not, k1, ← Int.neg_mul]; rfl
theorem Q.order {e x y : Nat} {a b : Int} (hx : Q e x a) (hy : Q e y b) : single.order x y = some (compare a b) := by
  obtain ⟨_, s, u, hx, ha⟩ := hx
  obtain ⟨_, t, v, hy, hb⟩ := hy
  rw [order_num hx hy, ha, hb, cmp_scale]
theorem Q.eq {e x y : Nat} {a : Int} (hx : Q e x a) (hy : Q e y a) : single.order x y = some .eq := by rw [hx.order hy, cmp_eq rfl]
theorem Q.ok {e x : Nat} {a : Int} (hx : Q e x a) : (single.read x).isNaN = false := by
  obtain ⟨_, s, u, hx, _⟩ := hx
  exact num_read hx
theorem q_word {e x m : Nat} {s : Bool} {i : Int} {a : Int} (h0 : x < 2 ^ 32) (h : single.read x = .number s m i) (ha : sg s (m * 2 ^ (i + 149).toNat) = a * 2 ^ e) : Q e x a := by
  refine ⟨h0, s, _, read_num h, ?_⟩
  rw [place32]
  exact ha
theorem Q.zero (e : Nat) : Q e 0 0 := ⟨by decide, false, 0, by
  have h := read_num read_zero
  rwa [Nat.zero_mul] at h, by unfold sg; simp⟩
end Go.Proofs.YtobpnoiienpipaaGreat.Flt

/-
  What is proved: the walks of the functions that make a cell of four samples, the program's and the model's.
  Conditions: those that each fact names.
-/
namespace Go.Proofs.YtobpnoiienpipaaGreat
set_option linter.unusedVariables false
open Go.RowKit
attribute [local go_sem] run_store_float run_store_complex unary_negf neg256

theorem res_fun (op : BinOp) (ho : arith op) : ∃ f g : Nat → Nat → World → Nat, (∀ x y W, (binOp op 25 (.float .f32 x) (.float .f32 y)).run Tryz.prog W = .ok (.float .f32 (f x y W)) (W.drewN (g x y W))) ∧ ∀ x y W, Res op x y (f x y W) ∧ f x y W < 2 ^ 32 :=
  ⟨fun x y W => (run_res op ho x y W).choose, fun x y W => (run_res op ho x y W).choose_spec.choose, fun x y W => (run_res op ho x y W).choose_spec.choose_spec.1, fun x y W => (run_res op ho x y W).choose_spec.choose_spec.2⟩
theorem drewN_addD (w : World) (a b : Nat) : (w.drewN a).drewN b = w.drewN (a + b) := by simp [World.drewN, Nat.add_assoc]
/-- A cell that four samples may tell. -/
def DecR (s t u v : Nat) (c : C3) : Prop :=
  (∃ r1 r2 r3, Res .add s t r1 ∧ Res .add r1 u r2 ∧ Res .add r2 v r3 ∧ Res .quo r3 1082130432 c.1) ∧ (∃ d, Res .sub s u d ∧ Res .quo d 1073741824 c.2.1) ∧ (∃ d, Res .sub v t d ∧ Res .quo d 1073741824 c.2.2) ∧ (c.1 < 2 ^ 32 ∧ c.2.1 < 2 ^ 32 ∧ c.2.2 < 2 ^ 32)
def CSame (c d : C3) : Prop := Sm c.1 d.1 ∧ Sm c.2.1 d.2.1 ∧ Sm c.2.2 d.2.2
theorem DecR.same {s t u v : Nat} {c d : C3} (h : DecR s t u v c) (h' : DecR s t u v d) : CSame c d := by
  obtain ⟨⟨r1, r2, r3, a1, a2, a3, a4⟩, ⟨d1, b1, b2⟩, ⟨d2, e1, e2⟩, _⟩ := h
  obtain ⟨⟨r1', r2', r3', a1', a2', a3', a4'⟩, ⟨d1', b1', b2'⟩, ⟨d2', e1', e2'⟩, _⟩ := h'
  have k1 := Res.same (Sm.refl _) (Sm.refl _) a1 a1'
  have k2 := Res.same k1 (Sm.refl _) a2 a2'
  have k3 := Res.same k2 (Sm.refl _) a3 a3'
  exact ⟨Res.same k3 (Sm.refl _) a4 a4', Res.same (Res.same (Sm.refl _) (Sm.refl _) b1 b1') (Sm.refl _) b2 b2', Res.same (Res.same (Sm.refl _) (Sm.refl _) e1 e1') (Sm.refl _) e2 e2'⟩
def CellR (R : C3 → Prop) (w : World) (e : Ending) (w' : World) : Prop := ∃ c : C3, e = .returned (.agg #[.float .f32 c.1, .complex .f32 c.2.1 c.2.2]) ∧ R c ∧ Below w.heap.size w w'
theorem CellR.mk {R : C3 → Prop} {w w' : World} {y u v : Nat} (h : R (y, u, v)) (hb : Below w.heap.size w w') : CellR R w (.returned (.agg #[.float .f32 y, .complex .f32 u v])) w' := ⟨(y, u, v), rfl, h, hb⟩
set_option maxHeartbeats 2000000 in
theorem decodedCell_any (s t u v : Nat) (w : World) :
    Calls Tryz.prog 178 #[.agg #[.float .f32 s, .float .f32 t, .float .f32 u, .float .f32 v]] w fun e w' => CellR (DecR s t u v) w e w' := by
  go_enter Tryz.func178, Tryz.ntmps178
  go_wp2
  go_quiet (fail)
  have hbel : Below w.heap.size w (((w.alloc (.cells #[.float .f32 s, .float .f32 t, .float .f32 u, .float .f32 v] 162)).alloc (.cells #[.float .f32 0, .complex .f32 0 0] 61)).drewN nq) := belowDN (((Below.refl _ _).alloc (Nat.le_refl _) _).alloc (by simp) _) nq
  have hnew : (((w.alloc (.cells #[.float .f32 s, .float .f32 t, .float .f32 u, .float .f32 v] 162)).alloc (.cells #[.float .f32 0, .complex .f32 0 0] 61)).drewN nq).heap[w.heap.size + 1]? = some (.cells #[.float .f32 0, .complex .f32 0 0] 61 (0, 0)) := by
    have := heap_alloc_new (w.alloc (.cells #[.float .f32 s, .float .f32 t, .float .f32 u, .float .f32 v] 162)) (.cells #[.float .f32 0, .complex .f32 0 0] 61)
    rw [World.size_alloc] at this
    exact this
  generalize (((w.alloc (.cells #[.float .f32 s, .float .f32 t, .float .f32 u, .float .f32 v] 162)).alloc (.cells #[.float .f32 0, .complex .f32 0 0] 61)).drewN nq) = w1 at *
  have c0 : w1.cell? ⟨w.heap.size + 1, 0, none⟩ = some (.float .f32 0) := by simp [World.cell?, hnew]
  have c1 : w1.cell? ⟨w.heap.size + 1, 1, none⟩ = some (.complex .f32 0 0) := by simp [World.cell?, hnew]
  have f0 : w1.frozen? ⟨w.heap.size + 1, 0, none⟩ = false := by simp [World.frozen?, hnew]
  have f1 : w1.frozen? ⟨w.heap.size + 1, 1, none⟩ = false := by simp [World.frozen?, hnew]
  have HNW := Lib.hid hnew
  have HBL := Lib.hid hbel
  clear hnew hbel
  obtain ⟨r1, n1, e1, R1, B1⟩ := run_res .add (.inl rfl) s t w1
  have HR1 := Lib.hid (And.intro R1 B1)
  clear R1 B1
  obtain ⟨r2, n2, e2, R2, B2⟩ := run_res .add (.inl rfl) r1 u (w1.drewN (n1))
  rw [drewN_addD] at e2
  have HR2 := Lib.hid (And.intro R2 B2)
  clear R2 B2
  obtain ⟨r3, n3, e3, R3, B3⟩ := run_res .add (.inl rfl) r2 v (w1.drewN (n1 + n2))
  rw [drewN_addD] at e3
  have HR3 := Lib.hid (And.intro R3 B3)
  clear R3 B3
  obtain ⟨y, n4, e4, R4, B4⟩ := run_res .quo (.inr (.inr (.inr rfl))) r3 1082130432 (w1.drewN (n1 + n2 + n3))
  rw [drewN_addD] at e4
  have HR4 := Lib.hid (And.intro R4 B4)
  clear R4 B4
  obtain ⟨d1, n5, e5, R5, B5⟩ := run_res .sub (.inr (.inl rfl)) s u (w1.drewN (n1 + n2 + n3 + n4))
  rw [drewN_addD] at e5
  have HR5 := Lib.hid (And.intro R5 B5)
  clear R5 B5
  obtain ⟨p, n6, e6, R6, B6⟩ := run_res .quo (.inr (.inr (.inr rfl))) d1 1073741824 (w1.drewN (n1 + n2 + n3 + n4 + n5))
  rw [drewN_addD] at e6
  have HR6 := Lib.hid (And.intro R6 B6)
  clear R6 B6
  obtain ⟨d2, n7, e7, R7, B7⟩ := run_res .sub (.inr (.inl rfl)) v t (w1.drewN (n1 + n2 + n3 + n4 + n5 + n6))
  rw [drewN_addD] at e7
  have HR7 := Lib.hid (And.intro R7 B7)
  clear R7 B7
  obtain ⟨q, n8, e8, R8, B8⟩ := run_res .quo (.inr (.inr (.inr rfl))) d2 1073741824 (w1.drewN (n1 + n2 + n3 + n4 + n5 + n6 + n7))
  rw [drewN_addD] at e8
  have HR8 := Lib.hid (And.intro R8 B8)
  clear R8 B8
  have hB2 := heap_put (i := 1) (v := .complex .f32 p q) (heap_put (i := 0) (v := .float .f32 y) (w := w1.drewN (n1 + n2 + n3 + n4 + n5 + n6 + n7 + n8)) HNW.out)
  have hz := ((belowDN HBL.out (n1 + n2 + n3 + n4 + n5 + n6 + n7 + n8)).setCell (p := ⟨w.heap.size + 1, 0, none⟩) (by simp) (.float .f32 y)).setCell (p := ⟨w.heap.size + 1, 1, none⟩) (by simp) (.complex .f32 p q)
  have HB2 := Lib.hid hB2
  have HZ := Lib.hid hz
  clear hB2 hz
  go_wp2
  generalize ((((w1.drewN (n1 + n2 + n3 + n4 + n5 + n6 + n7 + n8)).setCell ⟨w.heap.size + 1, 0, none⟩ (.float .f32 y)).setCell ⟨w.heap.size + 1, 1, none⟩ (.complex .f32 p q))) = wz at *
  have d0 : wz.cell? ⟨w.heap.size + 1, 0, none⟩ = some (.float .f32 y) := by have := HB2.out; simp [World.cell?, this]
  have d1' : wz.cell? ⟨w.heap.size + 1, 1, none⟩ = some (.complex .f32 p q) := by have := HB2.out; simp [World.cell?, this]
  refine bodyPost_ret (v := .agg #[.float .f32 y, .complex .f32 p q]) ?_ rfl (CellR.mk ⟨⟨r1, r2, r3, HR1.out.1, HR2.out.1, HR3.out.1, HR4.out.1⟩, ⟨d1, HR5.out.1, HR6.out.1⟩, ⟨d2, HR7.out.1, HR8.out.1⟩, HR4.out.2, HR6.out.2, HR8.out.2⟩ HZ.out)
  simp [results, Tryz.results178, go_sem, d0, d1']
end Go.Proofs.YtobpnoiienpipaaGreat

/-
  What is proved: what four samples become on a channel, as numbers: no NaN is among them, and dyadic numbers come exactly.
  Conditions: the samples and the channel are valid; for the exact facts, of few binary digits.
-/
namespace Go.Proofs.YtobpnoiienpipaaGreat
set_option linter.unusedVariables false
open Go.RowKit
open Flt (Mag sumv subv mulv quov Q)

theorem res_some {op : BinOp} {x y r v : Nat} (h : Res op x y r) (e : floatBits op .f32 x y = some v) : r = v := by
  rcases h with h | ⟨h, _⟩
  · rw [e] at h; cases h; rfl
  · rw [e] at h; cases h
theorem lim_of {x c c1 : Nat} {k : Nat} {s : Bool} {u : Nat} (hc : Flt.Num Ieee.single c false (2 ^ k)) (hn : Flt.Num Ieee.single c1 true (2 ^ k)) (h : (Ieee.single.order c1 x == some .lt || Ieee.single.order c1 x == some .eq) = true) (h2 : (Ieee.single.order x c == some .lt || Ieee.single.order x c == some .eq) = true) :
    ∃ s u, Flt.Num Ieee.single x s u ∧ u ≤ 2 ^ k := by
  cases hr : Ieee.single.read x with
  | nan s p =>
    have : Ieee.single.order x c = none := Flt.order_nan (.inl (by rw [hr]; rfl))
    rw [this] at h2; cases h2
  | infinity s =>
    obtain ⟨m, i, hc1, _, _⟩ := hc
    obtain ⟨m', i', hn1, _, _⟩ := hn
    cases s with
    | false =>
      have : Ieee.single.order x c = some .gt := by unfold Ieee.Format.order; rw [hr, hc1]; rfl
      rw [this] at h2; cases h2
    | true =>
      have : Ieee.single.order c1 x = some .gt := by unfold Ieee.Format.order; rw [hr, hn1]; rfl
      rw [this] at h; cases h
  | number s m i =>
    have hx := Flt.read_num hr
    refine ⟨s, _, hx, ?_⟩
    rw [Flt.le_iff hx hc] at h2
    rw [Flt.le_iff hn hx] at h
    have h2 := of_decide_eq_true h2
    have h := of_decide_eq_true h
    generalize m * 2 ^ (i - Ieee.single.leastPlace).toNat = u at *
    unfold Flt.sg at h h2
    generalize (2 : Nat) ^ k = K at *
    cases s <;> simp at h h2 <;> omega
theorem num_k2 : Flt.Num Ieee.single 1149239296 false (2 ^ 159) := ⟨8388608, -13, by decide +kernel, by decide, by rw [Flt.place32]; decide +kernel⟩
theorem num_nk2 : Flt.Num Ieee.single 3296722944 true (2 ^ 159) := ⟨8388608, -13, by decide +kernel, by decide, by rw [Flt.place32]; decide +kernel⟩
theorem fin1_mag {x : Nat} (h : fin1 x = true) : Mag 160 x := by
  unfold fin1 lo1 hi1 at h
  simp only [Bool.and_eq_true] at h
  obtain ⟨s, u, h1, h2⟩ := lim_of (s := false) (u := 0) num_k2 num_nk2 h.1 h.2
  exact Flt.mag_num h1 h2
/-! ### Dyadic numbers -/
theorem q_sumv {e x y : Nat} {a b : Int} (hx : Q e x a) (hy : Q e y b) (h : (a + b).natAbs < 2 ^ 24) (he : e ≤ 240) : Q e (sumv x y) (a + b) := by
  obtain ⟨r, h1, h2⟩ := hx.add hy h he
  unfold sumv
  rw [h1]
  exact h2
end Go.Proofs.YtobpnoiienpipaaGreat

/-
  What is proved: the walks of Carrier and Carried (the program's and the model's) at every number.
  Conditions: those that each fact names.
-/
namespace Go.Proofs.YtobpnoiienpipaaGreat
set_option linter.unusedVariables false
open Go.RowKit
attribute [local go_sem] run_store_float run_store_complex unary_negf neg256

end Go.Proofs.YtobpnoiienpipaaGreat

/-
  What is proved: the walk of the program's EncodeCells.
  Conditions: the row can be read; its bits fit.
-/
namespace Go.Proofs.YtobpnoiienpipaaGreat
set_option linter.unusedVariables false
open Go.RowKit
attribute [local go_sem] run_store_float run_store_complex unary_negf neg256

def addv (x y : Nat) : Nat := (floatBits .add .f32 x y).getD 0
/-- The samples of a cell. -/
def enc4 (c : C3) : List Nat := [addv c.1 c.2.1, addv c.1 (Op.negFloat .f32 c.2.2), addv c.1 (Op.negFloat .f32 c.2.1), addv c.1 c.2.2]
def enc (cs : List C3) : List Nat := cs.flatMap enc4
/-- Block b is an array of four floats; the first k are those of xs. -/
def ArrF (w : World) (b k : Nat) (xs : List Nat) : Prop :=
  ∃ cur : Array Value, w.heap[b]? = some (.cells cur 162 (0, 0)) ∧ cur.size = 4 ∧ ∀ i (h : i < xs.length), i < k → cur[i]? = some (.float .f32 xs[i])
theorem ArrF.step {w : World} {b k : Nat} {xs : List Nat} (h : ArrF w b k xs) (hn : k < xs.length) (hk : xs.length = 4) : ArrF (w.setCell ⟨b, k, none⟩ (.float .f32 xs[k])) b (k + 1) xs := by
  obtain ⟨cur, h1, h2, h3⟩ := h
  refine ⟨cur.setIfInBounds k (.float .f32 xs[k]), heapF h1, by simpa using h2, fun i hi hik => ?_⟩
  by_cases e : i = k
  · subst e
    rw [Array.getElem?_setIfInBounds, if_pos rfl, if_pos (by omega)]
  · rw [Array.getElem?_setIfInBounds, if_neg (by omega)]
    exact h3 i hi (by omega)
theorem ArrF.kept {w w' : World} {b k : Nat} {xs : List Nat} (h : ArrF w b k xs) (hb : w'.heap[b]? = w.heap[b]?) : ArrF w' b k xs := by
  obtain ⟨cur, h1, h2⟩ := h
  exact ⟨cur, hb.trans h1, h2⟩
theorem ArrF.at {w : World} {b k : Nat} {xs : List Nat} (h : ArrF w b k xs) (i : Nat) (hi : i < 4) : (∃ x, w.cell? ⟨b, i, none⟩ = some x) ∧ w.frozen? ⟨b, i, none⟩ = false := by
  obtain ⟨cur, h1, h2, _⟩ := h
  refine ⟨⟨cur[i]'(by omega), ?_⟩, ?_⟩
  · simp [World.cell?, h1, Array.getElem?_eq_getElem (show i < cur.size by omega)]
  · simp [World.frozen?, h1]
theorem ArrF.get {w : World} {b k : Nat} {xs : List Nat} (h : ArrF w b k xs) (i : Nat) (hi : i < xs.length) (hk : i < k) : w.cell? ⟨b, i, none⟩ = some (.float .f32 xs[i]) := by
  obtain ⟨cur, h1, h2, h3⟩ := h
  simp [World.cell?, h1, h3 i hi hk]
theorem ArrF.start (w : World) (xs : List Nat) : ArrF (w.alloc (.cells #[.float .f32 0, .float .f32 0, .float .f32 0, .float .f32 0] 162)) w.heap.size 0 xs :=
  ⟨_, heap_alloc_new w _, rfl, fun i h hi => by omega⟩
end Go.Proofs.YtobpnoiienpipaaGreat

/-
  What is proved: dyadic cells come through dyadic channels exactly.
  Conditions: the numbers have few binary digits.
-/
namespace Go.Proofs.YtobpnoiienpipaaGreat
set_option linter.unusedVariables false
open Go.RowKit
open Flt (Mag sumv subv mulv quov Q)

/-- The bits of a channel: A, Offset, and the parts of G. -/
structure Chn where
  A : Nat
  O : Nat
  X : Nat
  Y : Nat
def timesRe (a b x y : Nat) : Nat := subv (mulv a x) (mulv b y)
def timesIm (a b x y : Nat) : Nat := sumv (mulv a y) (mulv b x)
theorem enc4_of (c : C3) : enc4 c = [sumv c.1 c.2.1, sumv c.1 (Op.negFloat .f32 c.2.2), sumv c.1 (Op.negFloat .f32 c.2.1), sumv c.1 c.2.2] := rfl
/-- A cell of dyadic numbers. -/
def QC (e : Nat) (c : C3) (y a b : Int) : Prop := Q e c.1 y ∧ Q e c.2.1 a ∧ Q e c.2.2 b
theorem QC.enc {e : Nat} {c : C3} {y a b : Int} (h : QC e c y a b) (he : e ≤ 240) (hy : y.natAbs ≤ 2 ^ 20) (ha : a.natAbs ≤ 2 ^ 20) (hb : b.natAbs ≤ 2 ^ 20) :
    Q e (sumv c.1 c.2.1) (y + a) ∧ Q e (sumv c.1 (Op.negFloat .f32 c.2.2)) (y - b) ∧ Q e (sumv c.1 (Op.negFloat .f32 c.2.1)) (y - a) ∧ Q e (sumv c.1 c.2.2) (y + b) :=
  ⟨q_sumv h.1 h.2.1 (by omega) he, q_sumv h.1 h.2.2.neg (by omega) he, q_sumv h.1 h.2.1.neg (by omega) he, q_sumv h.1 h.2.2 (by omega) he⟩
/-- A channel of dyadic numbers: A and G are multiples of 2 to the g, Offset of 2 to the o. -/
def QH (g o : Nat) (h : Chn) (α ω ξ η : Int) : Prop := Q g h.A α ∧ Q o h.O ω ∧ Q g h.X ξ ∧ Q g h.Y η
theorem q_fin1 {e x : Nat} {a : Int} (h : Q e x a) (hb : a.natAbs * 2 ^ e ≤ 2 ^ 159) : fin1 x = true := by
  obtain ⟨_, s, u, hx, ha⟩ := h
  have hu : u ≤ 2 ^ 159 := by rw [Flt.q_abs ha]; exact hb
  unfold fin1 lo1 hi1
  rw [Flt.le_iff num_nk2 hx, Flt.le_iff hx num_k2]
  have h1 : Flt.sg true (2 ^ 159) ≤ Flt.sg s u := by
    unfold Flt.sg; cases s <;> simp only [Bool.false_eq_true, if_true, if_false] <;> omega
  have h2 : Flt.sg s u ≤ Flt.sg false (2 ^ 159) := by
    unfold Flt.sg; cases s <;> simp only [Bool.false_eq_true, if_true, if_false] <;> omega
  rw [decide_eq_true h1, decide_eq_true h2]; rfl
theorem QC.fins {e : Nat} {c : C3} {y a b : Int} (h : QC e c y a b) (he : e ≤ 240) (hy : y.natAbs ≤ 2 ^ 20) (ha : a.natAbs ≤ 2 ^ 20) (hb : b.natAbs ≤ 2 ^ 20) (hs : (y.natAbs + a.natAbs) * 2 ^ e ≤ 2 ^ 159) (ht : (y.natAbs + b.natAbs) * 2 ^ e ≤ 2 ^ 159) : ∀ x ∈ enc4 c, fin1 x = true := by
  obtain ⟨h1, h2, h3, h4⟩ := h.enc he hy ha hb
  intro x hx
  rw [enc4_of] at hx
  simp only [List.mem_cons, List.not_mem_nil, or_false] at hx
  have up : ∀ {k m : Nat}, k ≤ m → m * 2 ^ e ≤ 2 ^ 159 → k * 2 ^ e ≤ 2 ^ 159 := fun hk hm => Nat.le_trans (Nat.mul_le_mul_right _ hk) hm
  rcases hx with rfl | rfl | rfl | rfl
  · exact q_fin1 h1 (up (by omega) hs)
  · exact q_fin1 h2 (up (by omega) ht)
  · exact q_fin1 h3 (up (by omega) hs)
  · exact q_fin1 h4 (up (by omega) ht)
/-- Cells of the same dyadic numbers have equal samples. -/
theorem QC.same {e : Nat} {c d : C3} {y a b : Int} (h : QC e c y a b) (h' : QC e d y a b) (he : e ≤ 240) (hy : y.natAbs ≤ 2 ^ 20) (ha : a.natAbs ≤ 2 ^ 20) (hb : b.natAbs ≤ 2 ^ 20) :
    ∀ i (hi : i < (enc4 c).length) (hi' : i < (enc4 d).length), Ieee.single.order (enc4 c)[i] (enc4 d)[i] = some .eq := by
  obtain ⟨h1, h2, h3, h4⟩ := h.enc he hy ha hb
  obtain ⟨g1, g2, g3, g4⟩ := h'.enc he hy ha hb
  intro i hi hi'
  have h0 : i < 4 := hi
  rcases (by omega : i = 0 ∨ i = 1 ∨ i = 2 ∨ i = 3) with rfl | rfl | rfl | rfl
  · exact h1.eq g1
  · exact h2.eq g2
  · exact h3.eq g3
  · exact h4.eq g4
end Go.Proofs.YtobpnoiienpipaaGreat
