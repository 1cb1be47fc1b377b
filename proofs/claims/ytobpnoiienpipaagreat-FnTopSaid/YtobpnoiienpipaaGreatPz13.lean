/-
  What is proved: sums, differences, products and quotients by powers of two of single floats that are whole multiples of a power of two are exact.
  Conditions: the multiples are of less than 24 binary digits.
-/
import Derived.Test.YtobpnoiienpipaaGreatPz10
import Derived.Test.YtobpnoiienpipaaGreatPz04
import Derived.Test.YtobpnoiienpipaaGreatPz06
import Derived.Test.YtobpnoiienpipaaGreatPz05
import Derived.Test.YtobpnoiienpipaaGreatPz11
import Derived.Test.YtobpnoiienpipaaGreatPz12
namespace Go.Proofs.YtobpnoiienpipaaGreat.Flt
set_option linter.unusedVariables false
open Ieee

/-- The number of a times 2 to the e, counted in units of the least place (e = 149: whole numbers; 145: sixteenths). -/
def Q (e : Nat) (x : Nat) (a : Int) : Prop := x < 2 ^ 32 ∧ ∃ s u, Num single x s u ∧ sg s u = a * 2 ^ e
theorem Sx.q {x : Nat} {a : Int} (h : Sx x a) : Q 145 x a := h
theorem Q.sx {x : Nat} {a : Int} (h : Q 145 x a) : Sx x a := h
theorem pow_cast (e : Nat) : (2 : Int) ^ e = ((2 ^ e : Nat) : Int) := by simp
theorem q_abs {s : Bool} {u e : Nat} {k : Int} (h : sg s u = k * 2 ^ e) : u = k.natAbs * 2 ^ e := by
  have h1 := congrArg Int.natAbs h
  rw [natAbs_sg, Int.natAbs_mul, pow_cast, Int.natAbs_natCast] at h1
  exact h1
theorem abs_pow (k : Int) (e : Nat) : (k * 2 ^ e).natAbs = k.natAbs * 2 ^ e := by rw [pow_cast, Int.natAbs_mul, Int.natAbs_natCast]
theorem rep_q {n : Nat} (e : Nat) (h : n < 2 ^ 24) : Rep single (n * 2 ^ e) := rep_mul (rep_small (by rw [frac32]; exact h)) e
theorem cap_q {n e : Nat} (h : n < 2 ^ 24) (he : e ≤ 240) : n * 2 ^ e < 2 ^ cap single := by
  obtain ⟨C, hC, hC2⟩ : ∃ C, cap single = C ∧ C = 277 := ⟨_, rfl, cap32⟩
  rw [hC]
  have h1 : n * 2 ^ e < 2 ^ 24 * 2 ^ e := Nat.mul_lt_mul_of_pos_right h (two_pos e)
  rw [← Nat.pow_add] at h1
  exact Nat.lt_of_lt_of_le h1 (Nat.pow_le_pow_right (by decide) (by omega))
theorem wf32 {op : BinOp} {x y r : Nat} (h : floatBits op .f32 x y = some r) : r < 2 ^ 32 := by
  have := floatBits_wf h
  simpa [Lit.wf] using this
theorem Q.add {e x y : Nat} {a b : Int} (hx : Q e x a) (hy : Q e y b) (h : (a + b).natAbs < 2 ^ 24) (he : e ≤ 240) : ∃ r, floatBits .add .f32 x y = some r ∧ Q e r (a + b) := by
  obtain ⟨_, s, u, hx, ha⟩ := hx
  obtain ⟨_, t, v, hy, hb⟩ := hy
  have hs : sg s u + sg t v = (a + b) * 2 ^ e := by rw [ha, hb, Int.add_mul]
  obtain ⟨r, hr, hn⟩ := add_num fine32 hx hy (by rw [hs, abs_pow]; exact rep_q e h) (by rw [hs, abs_pow]; exact cap_q h he)
  rw [hs] at hn
  have hr' : floatBits .add .f32 x y = some r := hr
  exact ⟨r, hr', wf32 hr', _, _, hn, sg_self _ _⟩
theorem Q.sub {e x y : Nat} {a b : Int} (hx : Q e x a) (hy : Q e y b) (h : (a - b).natAbs < 2 ^ 24) (he : e ≤ 240) : ∃ r, floatBits .sub .f32 x y = some r ∧ Q e r (a - b) := by
  obtain ⟨_, s, u, hx, ha⟩ := hx
  obtain ⟨_, t, v, hy, hb⟩ := hy
  have hs : sg s u - sg t v = (a - b) * 2 ^ e := by rw [ha, hb, Int.sub_mul]
  obtain ⟨r, hr, hn⟩ := sub_num fine32 hx hy (by rw [hs, abs_pow]; exact rep_q e h) (by rw [hs, abs_pow]; exact cap_q h he)
  rw [hs] at hn
  have hr' : floatBits .sub .f32 x y = some r := hr
  exact ⟨r, hr', wf32 hr', _, _, hn, sg_self _ _⟩
theorem Q.neg {e x : Nat} {a : Int} (hx : Q e x a) : Q e (Op.negFloat .f32 x) (-a) := by
  obtain ⟨h0, s, u, hx, ha⟩ := hx
  exact ⟨neg_lt32 h0, !s, u, num_neg32 h0 hx, by rw [sg_not, ha, Int.neg_mul]⟩
theorem sg_xor (s t : Bool) (u v : Nat) : sg (s ^^ t) (u * v) = sg s u * sg t v := by
  unfold sg
  cases s <;> cases t <;> simp [Int.natCast_mul, Int.neg_mul, Int.mul_neg]
theorem Q.mul {e f x y : Nat} {a b : Int} (hx : Q e x a) (hy : Q f y b) (h : (a * b).natAbs < 2 ^ 24) (h1 : 149 ≤ e + f) (h2 : e + f ≤ 389) : ∃ r, floatBits .mul .f32 x y = some r ∧ Q (e + f - 149) r (a * b) := by
  obtain ⟨_, s, u, hx, ha⟩ := hx
  obtain ⟨_, t, v, hy, hb⟩ := hy
  obtain ⟨g, hg⟩ : ∃ g, e + f - 149 = g := ⟨_, rfl⟩
  have hef : e + f = g + 149 := by omega
  have hu := q_abs ha
  have hv := q_abs hb
  have hw : u * v = ((a * b).natAbs * 2 ^ g) * 2 ^ unit single := by
    rw [hu, hv, unit32, Int.natAbs_mul, Nat.mul_assoc (a.natAbs * b.natAbs), ← Nat.pow_add, ← hef, Nat.pow_add]
    ac_rfl
  obtain ⟨r, hr, hn⟩ := mul_num fine32 hx hy _ hw (rep_q g h) (cap_q h (by omega))
  have hr' : floatBits .mul .f32 x y = some r := hr
  refine ⟨r, hr', wf32 hr', _, _, hn, ?_⟩
  rw [hg]
  have k1 : sg (s ^^ t) (u * v) = (a * b) * 2 ^ g * 2 ^ 149 := by
    rw [sg_xor, ha, hb, Int.mul_assoc (a * b), pow_cast, pow_cast, pow_cast, pow_cast, ← Int.natCast_mul (2 ^ g), ← Nat.pow_add, ← hef, Nat.pow_add, Int.natCast_mul]
    ac_rfl
  rw [hw, unit32] at k1
  have k2 : sg (s ^^ t) ((a * b).natAbs * 2 ^ g * 2 ^ 149) = sg (s ^^ t) ((a * b).natAbs * 2 ^ g) * 2 ^ 149 := by
    unfold sg
    rw [pow_cast 149]
    cases (s ^^ t) <;> simp [Int.natCast_mul, Int.neg_mul]
  rw [k2] at k1
  exact Int.eq_of_mul_eq_mul_right (by decide +kernel) k1
theorem Q.lift {e x : Nat} {a : Int} (h : Q e x a) (j : Nat) (hj : j ≤ e) : Q (e - j) x (a * 2 ^ j) := by
  obtain ⟨h0, s, u, hx, ha⟩ := h
  refine ⟨h0, s, u, hx, ?_⟩
  obtain ⟨f, rfl⟩ : ∃ f, e = f + j := ⟨e - j, by omega⟩
  rw [Nat.add_sub_cancel, ha, Int.mul_assoc, pow_cast, pow_cast, pow_cast, ← Int.natCast_mul, ← Nat.pow_add, Nat.add_comm j f]
theorem log_lt24 {m : Nat} (h : m < 2 ^ (23 + 1)) (h0 : m ≠ 0) : m.log2 < 24 := (Nat.log2_lt h0).2 h
theorem div_two_pow {x c : Nat} {s t : Bool} {u w : Nat} {j : Int} (hc : single.read c = .number t 8388608 j) (h : Num single x s u) (hw : u * 2 ^ (-(23 + j)).toNat = w * 2 ^ (23 + j).toNat) (hcap : w < 2 ^ cap single) (hr : Rep single w) : ∃ q, single.div x c = some q ∧ Num single q (s ^^ t) w := by
  obtain ⟨C, hC⟩ : ∃ C, cap single = C := ⟨_, rfl⟩
  obtain ⟨m, i, h1, h2, h3⟩ := h
  have hm := read_bound h1
  rw [frac32] at hm
  rw [place32] at h2 h3
  unfold Format.div
  rw [h1, hc]
  have hn : Nat.log2 8388608 = 23 := by decide +kernel
  have hlog : m.log2 ≤ 23 := by
    by_cases h0 : m = 0
    · subst h0; decide
    · have := log_lt24 hm h0; omega
  obtain ⟨k, hk⟩ : ∃ k, single.fractionBits + 2 + Nat.log2 8388608 - m.log2 = k + 23 := ⟨single.fractionBits + 2 + Nat.log2 8388608 - m.log2 - 23, by rw [hn, frac32]; omega⟩
  have hdiv : m * 2 ^ (k + 23) / 8388608 = m * 2 ^ k := by
    rw [show (8388608 : Nat) = 2 ^ 23 from rfl, Nat.pow_add, ← Nat.mul_assoc, Nat.mul_div_cancel _ (two_pos 23)]
  have hmod : m * 2 ^ (k + 23) % 8388608 = 0 := by
    rw [show (8388608 : Nat) = 2 ^ 23 from rfl, Nat.pow_add, ← Nat.mul_assoc, Nat.mul_mod_left]
  simp only [Datum.quotient, show (8388608 : Nat) ≠ 0 by decide, if_false, Option.map_some, Format.write, hk, shl, hdiv, hmod, bne_self_eq_false, Bool.toNat_false, Nat.add_zero]
  refine ⟨_, rfl, num_of fine32 _ _ w _ ?_ hr hcap⟩
  clear hcap hr
  rw [place32]
  have ha : 2 * (m * 2 ^ k) = m * 2 ^ (k + 1) := by rw [Nat.pow_succ]; ac_rfl
  rw [ha]
  apply Nat.eq_of_mul_eq_mul_right (two_pos (23 + j).toNat)
  have e1 : w * 2 ^ (-149 - (i - j - ((k + 23 : Nat) : Int) - 1)).toNat * 2 ^ (23 + j).toNat = (w * 2 ^ (23 + j).toNat) * 2 ^ (-149 - (i - j - ((k + 23 : Nat) : Int) - 1)).toNat := by ac_rfl
  rw [e1, ← hw, h3]
  clear e1 hw h3 hdiv hmod ha
  have e2 : k + 1 + (i - j - ((k + 23 : Nat) : Int) - 1 - -149).toNat + (23 + j).toNat = (i - -149).toNat + (-(23 + j)).toNat + (-149 - (i - j - ((k + 23 : Nat) : Int) - 1)).toNat := by omega
  have e3 := congrArg (fun n => m * 2 ^ n) e2
  simp only [Nat.pow_add] at e3
  rw [Nat.pow_add]
  calc _ = _ := by ac_rfl
    _ = _ := e3
    _ = _ := by ac_rfl
/-- A quotient by 2 to the p, or by its negative. -/
theorem Q.quo {e f x c : Nat} {a : Int} {t : Bool} {j : Int} (hc : single.read c = .number t 8388608 j) (hx : Q e x a) (h : a.natAbs < 2 ^ 24) (hf : (f : Int) = e - (23 + j)) (hf2 : f ≤ 240) : ∃ r, floatBits .quo .f32 x c = some r ∧ Q f r (if t = true then -a else a) := by
  obtain ⟨h0, s, u, hx, ha⟩ := hx
  have hu := q_abs ha
  have hw : u * 2 ^ (-(23 + j)).toNat = (a.natAbs * 2 ^ f) * 2 ^ (23 + j).toNat := by
    rw [hu, Nat.mul_assoc, Nat.mul_assoc, ← Nat.pow_add, ← Nat.pow_add]
    congr 2
    omega
  obtain ⟨r, hr, hn⟩ := div_two_pow hc hx hw (cap_q h hf2) (rep_q f h)
  have hr' : floatBits .quo .f32 x c = some r := hr
  refine ⟨r, hr', wf32 hr', _, _, hn, ?_⟩
  have k1 : sg s (a.natAbs * 2 ^ f) = a * 2 ^ f := by
    have k2 : sg s (a.natAbs * 2 ^ e) = a * 2 ^ e := by rw [← hu, ha]
    rw [sg_scale] at k2
    have k3 := Int.eq_of_mul_eq_mul_right (by have := two_pos e; rw [pow_cast]; omega) k2
    rw [sg_scale, k3]
  cases t with
  | false => rw [Bool.xor_false, k1]; rfl
  | true => rw [Bool.xor_true, sg_not, k1, ← Int.neg_mul]; rfl
theorem Q.order {e x y : Nat} {a b : Int} (hx : Q e x a) (hy : Q e y b) : single.order x y = some (compare a b) := by
  obtain ⟨_, s, u, hx, ha⟩ := hx
  obtain ⟨_, t, v, hy, hb⟩ := hy
  rw [order_num hx hy, ha, hb, cmp_scale]
theorem Q.eq {e x y : Nat} {a : Int} (hx : Q e x a) (hy : Q e y a) : single.order x y = some .eq := by rw [hx.order hy, cmp_eq rfl]
theorem Q.ok {e x : Nat} {a : Int} (hx : Q e x a) : (single.read x).isNaN = false := by
  obtain ⟨_, s, u, hx, _⟩ := hx
  exact num_read hx
/-- Numbers that are not 0 are told by their value. -/
theorem Q.unique {e x y : Nat} {a : Int} (hx : Q e x a) (hy : Q e y a) (h0 : a ≠ 0) : x = y := by
  obtain ⟨h1, s, u, hx, ha⟩ := hx
  obtain ⟨h2, t, v, hy, hb⟩ := hy
  have hu := q_abs ha
  have hv := q_abs hb
  have huv : u = v := by rw [hu, hv]
  subst huv
  have hpos : 0 < u := by rw [hu]; exact Nat.mul_pos (by omega) (two_pos e)
  have hst : s = t := by
    rw [← hb] at ha
    unfold sg at ha
    cases s <;> cases t <;> simp at ha ⊢ <;> omega
  subst hst
  exact num_inj h1 h2 hx hy
theorem q_word {e x m : Nat} {s : Bool} {i : Int} {a : Int} (h0 : x < 2 ^ 32) (h : single.read x = .number s m i) (ha : sg s (m * 2 ^ (i + 149).toNat) = a * 2 ^ e) : Q e x a := by
  refine ⟨h0, s, _, read_num h, ?_⟩
  rw [place32]
  exact ha
theorem Q.zero (e : Nat) : Q e 0 0 := ⟨by decide, false, 0, by
  have h := read_num read_zero
  rwa [Nat.zero_mul] at h, by unfold sg; simp⟩
end Go.Proofs.YtobpnoiienpipaaGreat.Flt

/-
  What is proved: what four samples become on a channel, as numbers: no NaN is among them, and dyadic numbers come exactly.
  Conditions: the samples and the channel are valid; for the exact facts, of few binary digits.
-/
namespace Go.Proofs.YtobpnoiienpipaaGreat
set_option linter.unusedVariables false
open Go.RowKit
open Flt (Mag sumv subv mulv quov Q)

theorem res_some {op : BinOp} {x y r v : Nat} (h : Res op x y r) (e : floatBits op .f32 x y = some v) : r = v := by
  rcases h with h | ⟨h, _⟩
  · rw [e] at h; cases h; rfl
  · rw [e] at h; cases h
theorem lim_of {x c c1 : Nat} {k : Nat} {s : Bool} {u : Nat} (hc : Flt.Num Ieee.single c false (2 ^ k)) (hn : Flt.Num Ieee.single c1 true (2 ^ k)) (h : (Ieee.single.order c1 x == some .lt || Ieee.single.order c1 x == some .eq) = true) (h2 : (Ieee.single.order x c == some .lt || Ieee.single.order x c == some .eq) = true) :
    ∃ s u, Flt.Num Ieee.single x s u ∧ u ≤ 2 ^ k := by
  cases hr : Ieee.single.read x with
  | nan s p =>
    have : Ieee.single.order x c = none := Flt.order_nan (.inl (by rw [hr]; rfl))
    rw [this] at h2; cases h2
  | infinity s =>
    obtain ⟨m, i, hc1, _, _⟩ := hc
    obtain ⟨m', i', hn1, _, _⟩ := hn
    cases s with
    | false =>
      have : Ieee.single.order x c = some .gt := by unfold Ieee.Format.order; rw [hr, hc1]; rfl
      rw [this] at h2; cases h2
    | true =>
      have : Ieee.single.order c1 x = some .gt := by unfold Ieee.Format.order; rw [hr, hn1]; rfl
      rw [this] at h; cases h
  | number s m i =>
    have hx := Flt.read_num hr
    refine ⟨s, _, hx, ?_⟩
    rw [Flt.le_iff hx hc] at h2
    rw [Flt.le_iff hn hx] at h
    have h2 := of_decide_eq_true h2
    have h := of_decide_eq_true h
    generalize m * 2 ^ (i - Ieee.single.leastPlace).toNat = u at *
    unfold Flt.sg at h h2
    generalize (2 : Nat) ^ k = K at *
    cases s <;> simp at h h2 <;> omega
theorem num_k2 : Flt.Num Ieee.single 1149239296 false (2 ^ 159) := ⟨8388608, -13, by decide +kernel, by decide, by rw [Flt.place32]; decide +kernel⟩
theorem num_nk2 : Flt.Num Ieee.single 3296722944 true (2 ^ 159) := ⟨8388608, -13, by decide +kernel, by decide, by rw [Flt.place32]; decide +kernel⟩
theorem fin1_mag {x : Nat} (h : fin1 x = true) : Mag 160 x := by
  unfold fin1 lo1 hi1 at h
  simp only [Bool.and_eq_true] at h
  obtain ⟨s, u, h1, h2⟩ := lim_of (s := false) (u := 0) num_k2 num_nk2 h.1 h.2
  exact Flt.mag_num h1 h2
/-- The cell that four samples tell. -/
def decOf (s t u v : Nat) : C3 := (quov (sumv (sumv (sumv s t) u) v) 1082130432, quov (subv s u) 1073741824, quov (subv v t) 1073741824)
theorem read_two2 : Ieee.single.read 1073741824 = .number false 8388608 (-22) := by decide +kernel
theorem dec_mag {s t u v : Nat} (hs : Mag 160 s) (ht : Mag 160 t) (hu : Mag 160 u) (hv : Mag 160 v) {c : C3} (h : DecR s t u v c) : c = decOf s t u v := by
  obtain ⟨⟨r1, r2, r3, a1, a2, a3, a4⟩, ⟨d1, b1, b2⟩, ⟨d2, e1, e2⟩, _⟩ := h
  have m1 := hs.add ht (by decide)
  have m2 := m1.2.add (hu.mono (by decide)) (by decide)
  have m3 := m2.2.add (hv.mono (by decide)) (by decide)
  have m4 := m3.2.quarter (by decide)
  have n1 := hs.sub hu (by decide)
  have n2 := Mag.quo read_two2 (by decide) n1.2 (by decide)
  have o1 := hv.sub ht (by decide)
  have o2 := Mag.quo read_two2 (by decide) o1.2 (by decide)
  obtain rfl := res_some a1 m1.1
  obtain rfl := res_some a2 m2.1
  obtain rfl := res_some a3 m3.1
  have k := res_some a4 m4.1
  obtain rfl := res_some b1 n1.1
  have l := res_some b2 n2.1
  obtain rfl := res_some e1 o1.1
  have n := res_some e2 o2.1
  exact Prod.ext k (Prod.ext l n)
theorem decOf_mag {s t u v : Nat} (hs : Mag 160 s) (ht : Mag 160 t) (hu : Mag 160 u) (hv : Mag 160 v) : Mag 167 (decOf s t u v).1 ∧ Mag 163 (decOf s t u v).2.1 ∧ Mag 163 (decOf s t u v).2.2 := by
  have m1 := hs.add ht (by decide)
  have m2 := m1.2.add (hu.mono (by decide)) (by decide)
  have m3 := m2.2.add (hv.mono (by decide)) (by decide)
  have m4 := m3.2.quarter (by decide)
  have n1 := hs.sub hu (by decide)
  have n2 := Mag.quo read_two2 (by decide) n1.2 (by decide)
  have o1 := hv.sub ht (by decide)
  have o2 := Mag.quo read_two2 (by decide) o1.2 (by decide)
  exact ⟨m4.2, n2.2, o2.2⟩
/-! ### Dyadic numbers -/
theorem q_sumv {e x y : Nat} {a b : Int} (hx : Q e x a) (hy : Q e y b) (h : (a + b).natAbs < 2 ^ 24) (he : e ≤ 240) : Q e (sumv x y) (a + b) := by
  obtain ⟨r, h1, h2⟩ := hx.add hy h he
  unfold sumv
  rw [h1]
  exact h2
theorem q_subv {e x y : Nat} {a b : Int} (hx : Q e x a) (hy : Q e y b) (h : (a - b).natAbs < 2 ^ 24) (he : e ≤ 240) : Q e (subv x y) (a - b) := by
  obtain ⟨r, h1, h2⟩ := hx.sub hy h he
  unfold subv
  rw [h1]
  exact h2
theorem q_mulv {e f x y : Nat} {a b : Int} (hx : Q e x a) (hy : Q f y b) (h : (a * b).natAbs < 2 ^ 24) (h1 : 149 ≤ e + f) (h2 : e + f ≤ 389) : Q (e + f - 149) (mulv x y) (a * b) := by
  obtain ⟨r, h3, h4⟩ := hx.mul hy h h1 h2
  unfold mulv
  rw [h3]
  exact h4
theorem q_quov {e f x c : Nat} {a : Int} {j : Int} (hc : Ieee.single.read c = .number false 8388608 j) (hx : Q e x a) (h : a.natAbs < 2 ^ 24) (hf : (f : Int) = e - (23 + j)) (hf2 : f ≤ 240) : Q f (quov x c) a := by
  obtain ⟨r, h3, h4⟩ := hx.quo hc h hf hf2
  unfold quov
  rw [h3]
  exact h4
theorem q_drop {e x : Nat} {a : Int} {j : Nat} (h : Q e x (a * 2 ^ j)) : Q (e + j) x a := by
  obtain ⟨h0, s, u, hx, ha⟩ := h
  refine ⟨h0, s, u, hx, ?_⟩
  rw [ha, Int.mul_assoc, Flt.pow_cast, Flt.pow_cast, Flt.pow_cast, ← Int.natCast_mul, ← Nat.pow_add, Nat.add_comm j e]
/-- The cell of four samples that were encoded of dyadic numbers is exact. -/
theorem q_dec {e s t u v : Nat} {y a b : Int} (he : 2 ≤ e) (he2 : e ≤ 240) (hy : y.natAbs ≤ 2 ^ 20) (ha : a.natAbs ≤ 2 ^ 20) (hb : b.natAbs ≤ 2 ^ 20) (hs : Q e s (y + a)) (ht : Q e t (y - b)) (hu : Q e u (y - a)) (hv : Q e v (y + b)) :
    Q e (decOf s t u v).1 y ∧ Q e (decOf s t u v).2.1 a ∧ Q e (decOf s t u v).2.2 b := by
  obtain ⟨f, rfl⟩ : ∃ f, e = f + 2 := ⟨e - 2, by omega⟩
  have k1 := q_sumv hs ht (by omega) he2
  have k2 := q_sumv k1 hu (by omega) he2
  have k3 := q_sumv k2 hv (by omega) he2
  have k4 := q_quov (f := f) Flt.read_four' k3 (by omega) (by omega) (by omega)
  have l1 := q_subv hs hu (by omega) he2
  have l2 := q_quov (f := f + 1) read_two2 l1 (by omega) (by omega) (by omega)
  have n1 := q_subv hv ht (by omega) he2
  have n2 := q_quov (f := f + 1) read_two2 n1 (by omega) (by omega) (by omega)
  refine ⟨q_drop (j := 2) ?_, q_drop (e := f + 1) (j := 1) ?_, q_drop (e := f + 1) (j := 1) ?_⟩
  · have : y + a + (y - b) + (y - a) + (y + b) = y * 2 ^ 2 := by omega
    rw [← this]; exact k4
  · have : y + a - (y - a) = a * 2 ^ 1 := by omega
    rw [← this]; exact l2
  · have : y + b - (y - b) = b * 2 ^ 1 := by omega
    rw [← this]; exact n2
end Go.Proofs.YtobpnoiienpipaaGreat

/-
  What is proved: dyadic cells come through dyadic channels exactly.
  Conditions: the numbers have few binary digits.
-/
namespace Go.Proofs.YtobpnoiienpipaaGreat
set_option linter.unusedVariables false
open Go.RowKit
open Flt (Mag sumv subv mulv quov Q)

/-- The bits of a channel: A, Offset, and the parts of G. -/
structure Chn where
  A : Nat
  O : Nat
  X : Nat
  Y : Nat
def timesRe (a b x y : Nat) : Nat := subv (mulv a x) (mulv b y)
def timesIm (a b x y : Nat) : Nat := sumv (mulv a y) (mulv b x)
/-- What a cell becomes on a channel. -/
def txC (h : Chn) (c : C3) : C3 := (sumv (mulv h.A c.1) h.O, timesRe c.2.1 c.2.2 h.X h.Y, timesIm c.2.1 c.2.2 h.X h.Y)
def tx4 (h : Chn) (s t u v : Nat) : List Nat := enc4 (txC h (decOf s t u v))
/-- What samples become on a channel. -/
def txs (h : Chn) : List Nat → List Nat
  | s :: t :: u :: v :: rest => tx4 h s t u v ++ txs h rest
  | _ => []
theorem enc4_of (c : C3) : enc4 c = [sumv c.1 c.2.1, sumv c.1 (Op.negFloat .f32 c.2.2), sumv c.1 (Op.negFloat .f32 c.2.1), sumv c.1 c.2.2] := rfl
/-- The cell that is told of a cell's own samples. -/
def back (c : C3) : C3 := decOf (sumv c.1 c.2.1) (sumv c.1 (Op.negFloat .f32 c.2.2)) (sumv c.1 (Op.negFloat .f32 c.2.1)) (sumv c.1 c.2.2)
theorem txs_enc (h : Chn) : ∀ cs : List C3, txs h (enc cs) = enc (cs.map fun c => txC h (back c))
  | [] => rfl
  | c :: cs => by
    show txs h (enc4 c ++ enc cs) = enc4 (txC h (back c)) ++ enc (cs.map fun c => txC h (back c))
    rw [enc4_of]
    show tx4 h _ _ _ _ ++ txs h (enc cs) = _
    rw [txs_enc h cs]
    rfl
/-- A cell of dyadic numbers. -/
def QC (e : Nat) (c : C3) (y a b : Int) : Prop := Q e c.1 y ∧ Q e c.2.1 a ∧ Q e c.2.2 b
theorem QC.enc {e : Nat} {c : C3} {y a b : Int} (h : QC e c y a b) (he : e ≤ 240) (hy : y.natAbs ≤ 2 ^ 20) (ha : a.natAbs ≤ 2 ^ 20) (hb : b.natAbs ≤ 2 ^ 20) :
    Q e (sumv c.1 c.2.1) (y + a) ∧ Q e (sumv c.1 (Op.negFloat .f32 c.2.2)) (y - b) ∧ Q e (sumv c.1 (Op.negFloat .f32 c.2.1)) (y - a) ∧ Q e (sumv c.1 c.2.2) (y + b) :=
  ⟨q_sumv h.1 h.2.1 (by omega) he, q_sumv h.1 h.2.2.neg (by omega) he, q_sumv h.1 h.2.1.neg (by omega) he, q_sumv h.1 h.2.2 (by omega) he⟩
theorem QC.back {e : Nat} {c : C3} {y a b : Int} (h : QC e c y a b) (he0 : 2 ≤ e) (he : e ≤ 240) (hy : y.natAbs ≤ 2 ^ 20) (ha : a.natAbs ≤ 2 ^ 20) (hb : b.natAbs ≤ 2 ^ 20) : QC e (back c) y a b := by
  obtain ⟨h1, h2, h3, h4⟩ := h.enc he hy ha hb
  exact q_dec he0 he hy ha hb h1 h2 h3 h4
theorem mul_le {a b : Int} {m n : Nat} (ha : a.natAbs ≤ m) (hb : b.natAbs ≤ n) : (a * b).natAbs ≤ m * n := by
  rw [Int.natAbs_mul]; exact Nat.mul_le_mul ha hb
/-- A channel of dyadic numbers: A and G are multiples of 2 to the g, Offset of 2 to the o. -/
def QH (g o : Nat) (h : Chn) (α ω ξ η : Int) : Prop := Q g h.A α ∧ Q o h.O ω ∧ Q g h.X ξ ∧ Q g h.Y η
theorem q_tx {e g o j : Nat} {h : Chn} {c : C3} {α ω ξ η y a b : Int} (hh : QH g o h α ω ξ η) (hc : QC e c y a b) (h1 : 149 ≤ g + e) (h2 : g + e ≤ 389) (ho : o = g + e - 149 + j)
    (b1 : (α * y).natAbs ≤ 2 ^ 20) (b2 : (ω * 2 ^ j).natAbs ≤ 2 ^ 20) (b3 : (a * ξ).natAbs ≤ 2 ^ 20) (b4 : (b * η).natAbs ≤ 2 ^ 20) (b5 : (a * η).natAbs ≤ 2 ^ 20) (b6 : (b * ξ).natAbs ≤ 2 ^ 20) :
    QC (g + e - 149) (txC h c) (α * y + ω * 2 ^ j) (a * ξ - b * η) (a * η + b * ξ) := by
  obtain ⟨hA, hO, hX, hY⟩ := hh
  obtain ⟨cy, ca, cb⟩ := hc
  have k1 := q_mulv hA cy (by omega) h1 h2
  have k2 := hO.lift j (by omega)
  rw [show o - j = g + e - 149 by omega] at k2
  have f1 := q_mulv ca hX (by omega) (by omega) (by omega)
  have f2 := q_mulv cb hY (by omega) (by omega) (by omega)
  have f3 := q_mulv ca hY (by omega) (by omega) (by omega)
  have f4 := q_mulv cb hX (by omega) (by omega) (by omega)
  rw [show e + g - 149 = g + e - 149 by omega] at f1 f2 f3 f4
  exact ⟨q_sumv k1 k2 (by omega) (by omega), q_subv f1 f2 (by omega) (by omega), q_sumv f3 f4 (by omega) (by omega)⟩
theorem q_fin1 {e x : Nat} {a : Int} (h : Q e x a) (hb : a.natAbs * 2 ^ e ≤ 2 ^ 159) : fin1 x = true := by
  obtain ⟨_, s, u, hx, ha⟩ := h
  have hu : u ≤ 2 ^ 159 := by rw [Flt.q_abs ha]; exact hb
  unfold fin1 lo1 hi1
  rw [Flt.le_iff num_nk2 hx, Flt.le_iff hx num_k2]
  have h1 : Flt.sg true (2 ^ 159) ≤ Flt.sg s u := by
    unfold Flt.sg; cases s <;> simp only [Bool.false_eq_true, if_true, if_false] <;> omega
  have h2 : Flt.sg s u ≤ Flt.sg false (2 ^ 159) := by
    unfold Flt.sg; cases s <;> simp only [Bool.false_eq_true, if_true, if_false] <;> omega
  rw [decide_eq_true h1, decide_eq_true h2]; rfl
theorem QC.fins {e : Nat} {c : C3} {y a b : Int} (h : QC e c y a b) (he : e ≤ 240) (hy : y.natAbs ≤ 2 ^ 20) (ha : a.natAbs ≤ 2 ^ 20) (hb : b.natAbs ≤ 2 ^ 20) (hs : (y.natAbs + a.natAbs) * 2 ^ e ≤ 2 ^ 159) (ht : (y.natAbs + b.natAbs) * 2 ^ e ≤ 2 ^ 159) : ∀ x ∈ enc4 c, fin1 x = true := by
  obtain ⟨h1, h2, h3, h4⟩ := h.enc he hy ha hb
  intro x hx
  rw [enc4_of] at hx
  simp only [List.mem_cons, List.not_mem_nil, or_false] at hx
  have up : ∀ {k m : Nat}, k ≤ m → m * 2 ^ e ≤ 2 ^ 159 → k * 2 ^ e ≤ 2 ^ 159 := fun hk hm => Nat.le_trans (Nat.mul_le_mul_right _ hk) hm
  rcases hx with rfl | rfl | rfl | rfl
  · exact q_fin1 h1 (up (by omega) hs)
  · exact q_fin1 h2 (up (by omega) ht)
  · exact q_fin1 h3 (up (by omega) hs)
  · exact q_fin1 h4 (up (by omega) ht)
/-- Cells of the same dyadic numbers have equal samples. -/
theorem QC.same {e : Nat} {c d : C3} {y a b : Int} (h : QC e c y a b) (h' : QC e d y a b) (he : e ≤ 240) (hy : y.natAbs ≤ 2 ^ 20) (ha : a.natAbs ≤ 2 ^ 20) (hb : b.natAbs ≤ 2 ^ 20) :
    ∀ i (hi : i < (enc4 c).length) (hi' : i < (enc4 d).length), Ieee.single.order (enc4 c)[i] (enc4 d)[i] = some .eq := by
  obtain ⟨h1, h2, h3, h4⟩ := h.enc he hy ha hb
  obtain ⟨g1, g2, g3, g4⟩ := h'.enc he hy ha hb
  intro i hi hi'
  have h0 : i < 4 := hi
  rcases (by omega : i = 0 ∨ i = 1 ∨ i = 2 ∨ i = 3) with rfl | rfl | rfl | rfl
  · exact h1.eq g1
  · exact h2.eq g2
  · exact h3.eq g3
  · exact h4.eq g4
end Go.Proofs.YtobpnoiienpipaaGreat

/-
  What is proved: samples of plain rows come through two plain channels as through their chain; no sample is too large on the way.
  Conditions: none beyond plainness.
-/
namespace Go.Proofs.YtobpnoiienpipaaGreat
set_option linter.unusedVariables false
open Go.RowKit
open Flt (Mag sumv subv mulv quov Q)

/-- Lists of equal numbers. -/
def EqL (xs ys : List Nat) : Prop := xs.length = ys.length ∧ ∀ i (h : i < xs.length) (h' : i < ys.length), Ieee.single.order xs[i] ys[i] = some .eq
theorem EqL.append {a b c d : List Nat} (h : EqL a b) (h' : EqL c d) : EqL (a ++ c) (b ++ d) := by
  obtain ⟨l1, e1⟩ := h
  obtain ⟨l2, e2⟩ := h'
  refine ⟨by rw [List.length_append, List.length_append, l1, l2], fun i hi hi' => ?_⟩
  by_cases hlt : i < a.length
  · rw [List.getElem_append_left hlt, List.getElem_append_left (by omega)]
    exact e1 i hlt (by omega)
  · rw [List.length_append] at hi hi'
    rw [List.getElem_append_right (by omega), List.getElem_append_right (by omega)]
    have := e2 (i - a.length) (by omega) (by omega)
    simp only [l1] at this ⊢
    exact this
theorem EqL.enc {f g : C3 → C3} : ∀ {cs : List C3}, (∀ c ∈ cs, EqL (enc4 (f c)) (enc4 (g c))) → EqL (enc (cs.map f)) (enc (cs.map g))
  | [], _ => ⟨rfl, fun i hi => absurd hi (by simp [Proofs.YtobpnoiienpipaaGreat.enc])⟩
  | c :: cs, h => by
    show EqL (enc4 (f c) ++ Proofs.YtobpnoiienpipaaGreat.enc (cs.map f)) (enc4 (g c) ++ Proofs.YtobpnoiienpipaaGreat.enc (cs.map g))
    exact EqL.append (h c (by simp)) (EqL.enc fun d hd => h d (by simp [hd]))
/-- A plain channel. -/
def PlainH (h : Chn) (α ω ξ η : Int) : Prop := QH 147 146 h α ω ξ η ∧ (1 ≤ α ∧ α ≤ 8) ∧ ω.natAbs ≤ 32 ∧ ξ.natAbs ≤ 8 ∧ η.natAbs ≤ 8
theorem PC.qc {c : C3} {a b d : Int} (h : PC c a b d) : QC 145 c a b d := ⟨h.1.q, h.2.1.q, h.2.2.1.q⟩
end Go.Proofs.YtobpnoiienpipaaGreat

/-
  What is proved: products of complex singles: their order, the factors 1 and i; powers.
  Conditions: those that each fact names.
-/
namespace Go.Proofs.YtobpnoiienpipaaGreat
set_option linter.unusedVariables false
open Go.RowKit
open Flt (Mag sumv subv mulv quov Q)

/-- What the product of a + bi and x + yi may be. -/
def TimesR (a b x y re im : Nat) : Prop := ∃ m1 m2 m3 m4, Res .mul a x m1 ∧ Res .mul b y m2 ∧ Res .sub m1 m2 re ∧ Res .mul a y m3 ∧ Res .mul b x m4 ∧ Res .add m3 m4 im
theorem TimesR.is {a b x y re im : Nat} {k l : Nat} (ha : Mag k a) (hb : Mag k b) (hx : Mag l x) (hy : Mag l y) (hkl : k + l ≤ 400) (hl : 149 ≤ k + l) (h : TimesR a b x y re im) : re = timesRe a b x y ∧ im = timesIm a b x y := by
  obtain ⟨m1, m2, m3, m4, h1, h2, h3, h4, h5, h6⟩ := h
  have e1 := ha.mul hx (by omega) hl
  have e2 := hb.mul hy (by omega) hl
  have e3 := ha.mul hy (by omega) hl
  have e4 := hb.mul hx (by omega) hl
  have e5 := e1.2.sub e2.2 (by omega)
  have e6 := e3.2.add e4.2 (by omega)
  obtain rfl := res_some h1 e1.1
  obtain rfl := res_some h2 e2.1
  obtain rfl := res_some h4 e3.1
  obtain rfl := res_some h5 e4.1
  exact ⟨res_some h3 e5.1, res_some h6 e6.1⟩
/-! ### Zeros -/
theorem zero_add {x z : Nat} {s t : Bool} {u : Nat} (hx : Flt.Num Ieee.single x s u) (hz : Flt.Num Ieee.single z t 0) (hr : Flt.Rep Ieee.single u) (hc : u < 2 ^ Flt.cap Ieee.single) : floatBits .add .f32 x z = some (sumv x z) ∧ Ieee.single.order (sumv x z) x = some .eq := by
  have e : Flt.sg s u + Flt.sg t 0 = Flt.sg s u := by have : Flt.sg t 0 = 0 := by cases t <;> rfl
                                                      omega
  obtain ⟨r, h1, h2⟩ := Flt.add_num Flt.fine32 hx hz (by rw [e, Flt.natAbs_sg]; exact hr) (by rw [e, Flt.natAbs_sg]; exact hc)
  have h1' : floatBits .add .f32 x z = some r := h1
  unfold sumv
  rw [h1']
  refine ⟨rfl, ?_⟩
  rw [e] at h2
  show Ieee.single.order r x = _
  rw [Flt.order_num h2 hx, Flt.sg_self, Flt.cmp_eq rfl]
end Go.Proofs.YtobpnoiienpipaaGreat
