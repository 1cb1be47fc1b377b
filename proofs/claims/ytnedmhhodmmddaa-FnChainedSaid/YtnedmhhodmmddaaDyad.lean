/-
  What is proved: sums, differences, products and quotients by powers of two of single floats that are whole multiples of a power of two are exact.
  Conditions: the multiples are of less than 24 binary digits.
-/
import Derived.Test.YtnedmhhodmmddaaDy
namespace Go.Proofs.Ytnedmhhodmmddaa.Flt
set_option linter.unusedVariables false
open Ieee

/-- The number of a times 2 to the e, counted in units of the least place (e = 149: whole numbers; 145: sixteenths). -/
def Q (e : Nat) (x : Nat) (a : Int) : Prop := x < 2 ^ 32 ∧ ∃ s u, Num single x s u ∧ sg s u = a * 2 ^ e
theorem Sx.q {x : Nat} {a : Int} (h : Sx x a) : Q 145 x a := h
theorem Q.sx {x : Nat} {a : Int} (h : Q 145 x a) : Sx x a := h
theorem pow_cast (e : Nat) : (2 : Int) ^ e = ((2 ^ e : Nat) : Int) := by simp
theorem q_abs {s : Bool} {u e : Nat} {k : Int} (h : sg s u = k * 2 ^ e) : u = k.natAbs * 2 ^ e := by
  have h1 := congrArg Int.natAbs h
  rw [natAbs_sg, Int.natAbs_mul, pow_cast, Int.natAbs_natCast] at h1
  exact h1
theorem abs_pow (k : Int) (e : Nat) : (k * 2 ^ e).natAbs = k.natAbs * 2 ^ e := by rw [pow_cast, Int.natAbs_mul, Int.natAbs_natCast]
theorem rep_q {n : Nat} (e : Nat) (h : n < 2 ^ 24) : Rep single (n * 2 ^ e) := rep_mul (rep_small (by rw [frac32]; exact h)) e
theorem cap_q {n e : Nat} (h : n < 2 ^ 24) (he : e ≤ 240) : n * 2 ^ e < 2 ^ cap single := by
  obtain ⟨C, hC, hC2⟩ : ∃ C, cap single = C ∧ C = 277 := ⟨_, rfl, cap32⟩
  rw [hC]
  have h1 : n * 2 ^ e < 2 ^ 24 * 2 ^ e := Nat.mul_lt_mul_of_pos_right h (two_pos e)
  rw [← Nat.pow_add] at h1
  exact Nat.lt_of_lt_of_le h1 (Nat.pow_le_pow_right (by decide) (by omega))
theorem wf32 {op : BinOp} {x y r : Nat} (h : floatBits op .f32 x y = some r) : r < 2 ^ 32 := by
  have := floatBits_wf h
  simpa [Lit.wf] using this
theorem Q.add {e x y : Nat} {a b : Int} (hx : Q e x a) (hy : Q e y b) (h : (a + b).natAbs < 2 ^ 24) (he : e ≤ 240) : ∃ r, floatBits .add .f32 x y = some r ∧ Q e r (a + b) := by
  obtain ⟨_, s, u, hx, ha⟩ := hx
  obtain ⟨_, t, v, hy, hb⟩ := hy
  have hs : sg s u + sg t v = (a + b) * 2 ^ e := by rw [ha, hb, Int.add_mul]
  obtain ⟨r, hr, hn⟩ := add_num fine32 hx hy (by rw [hs, abs_pow]; exact rep_q e h) (by rw [hs, abs_pow]; exact cap_q h he)
  rw [hs] at hn
  have hr' : floatBits .add .f32 x y = some r := hr
  exact ⟨r, hr', wf32 hr', _, _, hn, sg_self _ _⟩
theorem Q.sub {e x y : Nat} {a b : Int} (hx : Q e x a) (hy : Q e y b) (h : (a - b).natAbs < 2 ^ 24) (he : e ≤ 240) : ∃ r, floatBits .sub .f32 x y = some r ∧ Q e r (a - b) := by
  obtain ⟨_, s, u, hx, ha⟩ := hx
  obtain ⟨_, t, v, hy, hb⟩ := hy
  have hs : sg s u - sg t v = (a - b) * 2 ^ e := by rw [ha, hb, Int.sub_mul]
  obtain ⟨r, hr, hn⟩ := sub_num fine32 hx hy (by rw [hs, abs_pow]; exact rep_q e h) (by rw [hs, abs_pow]; exact cap_q h he)
  rw [hs] at hn
  have hr' : floatBits .sub .f32 x y = some r := hr
  exact ⟨r, hr', wf32 hr', _, _, hn, sg_self _ _⟩
theorem Q.neg {e x : Nat} {a : Int} (hx : Q e x a) : Q e (Op.negFloat .f32 x) (-a) := by
  obtain ⟨h0, s, u, hx, ha⟩ := hx
  exact ⟨neg_lt32 h0, !s, u, num_neg32 h0 hx, by rw [sg_not, ha, Int.neg_mul]⟩
theorem sg_xor (s t : Bool) (u v : Nat) : sg (s ^^ t) (u * v) = sg s u * sg t v := by
  unfold sg
  cases s <;> cases t <;> simp [Int.natCast_mul, Int.neg_mul, Int.mul_neg]
theorem Q.mul {e f x y : Nat} {a b : Int} (hx : Q e x a) (hy : Q f y b) (h : (a * b).natAbs < 2 ^ 24) (h1 : 149 ≤ e + f) (h2 : e + f ≤ 389) : ∃ r, floatBits .mul .f32 x y = some r ∧ Q (e + f - 149) r (a * b) := by
  obtain ⟨_, s, u, hx, ha⟩ := hx
  obtain ⟨_, t, v, hy, hb⟩ := hy
  obtain ⟨g, hg⟩ : ∃ g, e + f - 149 = g := ⟨_, rfl⟩
  have hef : e + f = g + 149 := by omega
  have hu := q_abs ha
  have hv := q_abs hb
  have hw : u * v = ((a * b).natAbs * 2 ^ g) * 2 ^ unit single := by
    rw [hu, hv, unit32, Int.natAbs_mul, Nat.mul_assoc (a.natAbs * b.natAbs), ← Nat.pow_add, ← hef, Nat.pow_add]
    ac_rfl
  obtain ⟨r, hr, hn⟩ := mul_num fine32 hx hy _ hw (rep_q g h) (cap_q h (by omega))
  have hr' : floatBits .mul .f32 x y = some r := hr
  refine ⟨r, hr', wf32 hr', _, _, hn, ?_⟩
  rw [hg]
  have k1 : sg (s ^^ t) (u * v) = (a * b) * 2 ^ g * 2 ^ 149 := by
    rw [sg_xor, ha, hb, Int.mul_assoc (a * b), pow_cast, pow_cast, pow_cast, pow_cast, ← Int.natCast_mul (2 ^ g), ← Nat.pow_add, ← hef, Nat.pow_add, Int.natCast_mul]
    ac_rfl
  rw [hw, unit32] at k1
  have k2 : sg (s ^^ t) ((a * b).natAbs * 2 ^ g * 2 ^ 149) = sg (s ^^ t) ((a * b).natAbs * 2 ^ g) * 2 ^ 149 := by
    unfold sg
    rw [pow_cast 149]
    cases (s ^^ t) <;> simp [Int.natCast_mul, Int.neg_mul]
  rw [k2] at k1
  exact Int.eq_of_mul_eq_mul_right (by decide +kernel) k1
theorem Q.lift {e x : Nat} {a : Int} (h : Q e x a) (j : Nat) (hj : j ≤ e) : Q (e - j) x (a * 2 ^ j) := by
  obtain ⟨h0, s, u, hx, ha⟩ := h
  refine ⟨h0, s, u, hx, ?_⟩
  obtain ⟨f, rfl⟩ : ∃ f, e = f + j := ⟨e - j, by omega⟩
  rw [Nat.add_sub_cancel, ha, Int.mul_assoc, pow_cast, pow_cast, pow_cast, ← Int.natCast_mul, ← Nat.pow_add, Nat.add_comm j f]
theorem log_lt24 {m : Nat} (h : m < 2 ^ (23 + 1)) (h0 : m ≠ 0) : m.log2 < 24 := (Nat.log2_lt h0).2 h
theorem div_two_pow {x c : Nat} {s t : Bool} {u w : Nat} {j : Int} (hc : single.read c = .number t 8388608 j) (h : Num single x s u) (hw : u * 2 ^ (-(23 + j)).toNat = w * 2 ^ (23 + j).toNat) (hcap : w < 2 ^ cap single) (hr : Rep single w) : ∃ q, single.div x c = some q ∧ Num single q (s ^^ t) w := by
  obtain ⟨C, hC⟩ : ∃ C, cap single = C := ⟨_, rfl⟩
  obtain ⟨m, i, h1, h2, h3⟩ := h
  have hm := read_bound h1
  rw [frac32] at hm
  rw [place32] at h2 h3
  unfold Format.div
  rw [h1, hc]
  have hn : Nat.log2 8388608 = 23 := by decide +kernel
  have hlog : m.log2 ≤ 23 := by
    by_cases h0 : m = 0
    · subst h0; decide
    · have := log_lt24 hm h0; omega
  obtain ⟨k, hk⟩ : ∃ k, single.fractionBits + 2 + Nat.log2 8388608 - m.log2 = k + 23 := ⟨single.fractionBits + 2 + Nat.log2 8388608 - m.log2 - 23, by rw [hn, frac32]; omega⟩
  have hdiv : m * 2 ^ (k + 23) / 8388608 = m * 2 ^ k := by
    rw [show (8388608 : Nat) = 2 ^ 23 from rfl, Nat.pow_add, ← Nat.mul_assoc, Nat.mul_div_cancel _ (two_pos 23)]
  have hmod : m * 2 ^ (k + 23) % 8388608 = 0 := by
    rw [show (8388608 : Nat) = 2 ^ 23 from rfl, Nat.pow_add, ← Nat.mul_assoc, Nat.mul_mod_left]
  simp only [Datum.quotient, show (8388608 : Nat) ≠ 0 by decide, if_false, Option.map_some, Format.write, hk, shl, hdiv, hmod, bne_self_eq_false, Bool.toNat_false, Nat.add_zero]
  refine ⟨_, rfl, num_of fine32 _ _ w _ ?_ hr hcap⟩
  clear hcap hr
  rw [place32]
  have ha : 2 * (m * 2 ^ k) = m * 2 ^ (k + 1) := by rw [Nat.pow_succ]; ac_rfl
  rw [ha]
  apply Nat.eq_of_mul_eq_mul_right (two_pos (23 + j).toNat)
  have e1 : w * 2 ^ (-149 - (i - j - ((k + 23 : Nat) : Int) - 1)).toNat * 2 ^ (23 + j).toNat = (w * 2 ^ (23 + j).toNat) * 2 ^ (-149 - (i - j - ((k + 23 : Nat) : Int) - 1)).toNat := by ac_rfl
  rw [e1, ← hw, h3]
  clear e1 hw h3 hdiv hmod ha
  have e2 : k + 1 + (i - j - ((k + 23 : Nat) : Int) - 1 - -149).toNat + (23 + j).toNat = (i - -149).toNat + (-(23 + j)).toNat + (-149 - (i - j - ((k + 23 : Nat) : Int) - 1)).toNat := by omega
  have e3 := congrArg (fun n => m * 2 ^ n) e2
  simp only [Nat.pow_add] at e3
  rw [Nat.pow_add]
  calc _ = _ := by ac_rfl
    _ = _ := e3
    _ = _ := by ac_rfl
/-- A quotient by 2 to the p, or by its negative. -/
theorem Q.quo {e f x c : Nat} {a : Int} {t : Bool} {j : Int} (hc : single.read c = .number t 8388608 j) (hx : Q e x a) (h : a.natAbs < 2 ^ 24) (hf : (f : Int) = e - (23 + j)) (hf2 : f ≤ 240) : ∃ r, floatBits .quo .f32 x c = some r ∧ Q f r (if t = true then -a else a) := by
  obtain ⟨h0, s, u, hx, ha⟩ := hx
  have hu := q_abs ha
  have hw : u * 2 ^ (-(23 + j)).toNat = (a.natAbs * 2 ^ f) * 2 ^ (23 + j).toNat := by
    rw [hu, Nat.mul_assoc, Nat.mul_assoc, ← Nat.pow_add, ← Nat.pow_add]
    congr 2
    omega
  obtain ⟨r, hr, hn⟩ := div_two_pow hc hx hw (cap_q h hf2) (rep_q f h)
  have hr' : floatBits .quo .f32 x c = some r := hr
  refine ⟨r, hr', wf32 hr', _, _, hn, ?_⟩
  have k1 : sg s (a.natAbs * 2 ^ f) = a * 2 ^ f := by
    have k2 : sg s (a.natAbs * 2 ^ e) = a * 2 ^ e := by rw [← hu, ha]
    rw [sg_scale] at k2
    have k3 := Int.eq_of_mul_eq_mul_right (by have := two_pos e; rw [pow_cast]; omega) k2
    rw [sg_scale, k3]
  cases t with
  | false => rw [Bool.xor_false, k1]; rfl
  | true => rw [Bool.xor_true, sg_not, k1, ← Int.neg_mul]; rfl
theorem Q.order {e x y : Nat} {a b : Int} (hx : Q e x a) (hy : Q e y b) : single.order x y = some (compare a b) := by
  obtain ⟨_, s, u, hx, ha⟩ := hx
  obtain ⟨_, t, v, hy, hb⟩ := hy
  rw [order_num hx hy, ha, hb, cmp_scale]
theorem Q.eq {e x y : Nat} {a : Int} (hx : Q e x a) (hy : Q e y a) : single.order x y = some .eq := by rw [hx.order hy, cmp_eq rfl]
theorem Q.ok {e x : Nat} {a : Int} (hx : Q e x a) : (single.read x).isNaN = false := by
  obtain ⟨_, s, u, hx, _⟩ := hx
  exact num_read hx
/-- Numbers that are not 0 are told by their value. -/
theorem Q.unique {e x y : Nat} {a : Int} (hx : Q e x a) (hy : Q e y a) (h0 : a ≠ 0) : x = y := by
  obtain ⟨h1, s, u, hx, ha⟩ := hx
  obtain ⟨h2, t, v, hy, hb⟩ := hy
  have hu := q_abs ha
  have hv := q_abs hb
  have huv : u = v := by rw [hu, hv]
  subst huv
  have hpos : 0 < u := by rw [hu]; exact Nat.mul_pos (by omega) (two_pos e)
  have hst : s = t := by
    rw [← hb] at ha
    unfold sg at ha
    cases s <;> cases t <;> simp at ha ⊢ <;> omega
  subst hst
  exact num_inj h1 h2 hx hy
theorem q_word {e x m : Nat} {s : Bool} {i : Int} {a : Int} (h0 : x < 2 ^ 32) (h : single.read x = .number s m i) (ha : sg s (m * 2 ^ (i + 149).toNat) = a * 2 ^ e) : Q e x a := by
  refine ⟨h0, s, _, read_num h, ?_⟩
  rw [place32]
  exact ha
theorem Q.zero (e : Nat) : Q e 0 0 := ⟨by decide, false, 0, by
  have h := read_num read_zero
  rwa [Nat.zero_mul] at h, by unfold sg; simp⟩
end Go.Proofs.Ytnedmhhodmmddaa.Flt
