/-
  What is proved: sums, differences, halves and quarters of single floats that are whole numbers of sixteenths are exact.
  Conditions: the numbers are small.
-/
import Derived.Test.YtnedmhhodmmddaaF32
namespace Go.Proofs.Ytnedmhhodmmddaa.Flt
set_option linter.unusedVariables false
open Ieee

theorem div_pow {x c p : Nat} {s : Bool} {u : Nat} (hc : single.read c = .number false 8388608 (-23 + (p : Int))) (h : Num single x s (2 ^ p * u)) (hu : 4 * u < 2 ^ cap single) (hr : Rep single u) : ∃ q, single.div x c = some q ∧ Num single q s u := by
  obtain ⟨m, i, h1, h2, h3⟩ := h
  have hm := read_bound h1
  rw [frac32] at hm
  rw [place32] at h2 h3
  unfold Format.div
  rw [h1, hc]
  have hn : Nat.log2 8388608 = 23 := by decide +kernel
  have hlog : m.log2 ≤ 23 := by
    by_cases h0 : m = 0
    · subst h0; decide
    · have := (Nat.log2_lt h0).2 hm; omega
  obtain ⟨k, hk⟩ : ∃ k, single.fractionBits + 2 + Nat.log2 8388608 - m.log2 = k + 23 := ⟨single.fractionBits + 2 + Nat.log2 8388608 - m.log2 - 23, by rw [hn, frac32]; omega⟩
  have hdiv : m * 2 ^ (k + 23) / 8388608 = m * 2 ^ k := by
    rw [show (8388608 : Nat) = 2 ^ 23 from rfl, Nat.pow_add, ← Nat.mul_assoc, Nat.mul_div_cancel _ (two_pos 23)]
  have hmod : m * 2 ^ (k + 23) % 8388608 = 0 := by
    rw [show (8388608 : Nat) = 2 ^ 23 from rfl, Nat.pow_add, ← Nat.mul_assoc, Nat.mul_mod_left]
  simp only [Datum.quotient, show (8388608 : Nat) ≠ 0 by decide, if_false, Option.map_some, Format.write, hk, shl, hdiv, hmod, bne_self_eq_false, Bool.toNat_false, Nat.add_zero, Bool.bne_false]
  refine ⟨_, rfl, num_of fine32 s _ u _ ?_ hr (by omega)⟩
  rw [place32]
  have h4 : 2 ^ p * u = m * 2 ^ (i + 149).toNat := by rw [h3]; congr 2
  have ha : 2 * (m * 2 ^ k) = m * 2 ^ (k + 1) := by rw [Nat.pow_succ]; ac_rfl
  rw [ha]
  rcases Int.le_total (-149) (i - (-23 + (p : Int)) - ((k + 23 : Nat) : Int) - 1) with hp | hp
  · rw [show (-149 - (i - (-23 + (p : Int)) - ((k + 23 : Nat) : Int) - 1)).toNat = 0 by omega, Nat.pow_zero, Nat.mul_one, Nat.mul_assoc, ← Nat.pow_add]
    apply Nat.eq_of_mul_eq_mul_left (two_pos p)
    rw [h4, show (i + 149).toNat = p + (k + 1 + (i - (-23 + (p : Int)) - ((k + 23 : Nat) : Int) - 1 - -149).toNat) by omega, Nat.pow_add 2 p]
    ac_rfl
  · rw [show (i - (-23 + (p : Int)) - ((k + 23 : Nat) : Int) - 1 - -149).toNat = 0 by omega, Nat.pow_zero, Nat.mul_one]
    apply Nat.eq_of_mul_eq_mul_left (two_pos p)
    rw [← Nat.mul_assoc (2 ^ p) u, h4, Nat.mul_assoc m, ← Nat.pow_add, show (i + 149).toNat + (-149 - (i - (-23 + (p : Int)) - ((k + 23 : Nat) : Int) - 1)).toNat = p + (k + 1) by omega, Nat.pow_add 2 p]
    ac_rfl
theorem read_two' : single.read 1073741824 = .number false 8388608 (-23 + ((1 : Nat) : Int)) := by decide +kernel
theorem read_four : single.read 1082130432 = .number false 8388608 (-23 + ((2 : Nat) : Int)) := by decide +kernel
theorem read_sixteen : single.read 1098907648 = .number false 8388608 (-23 + ((4 : Nat) : Int)) := by decide +kernel

/-- The number of k sixteenths. -/
def Sx (x : Nat) (k : Int) : Prop := x < 2 ^ 32 ∧ ∃ s u, Num single x s u ∧ sg s u = k * 2 ^ 145
theorem sx_abs {s : Bool} {u : Nat} {k : Int} (h : sg s u = k * 2 ^ 145) : u = k.natAbs * 2 ^ 145 := by
  have h1 := congrArg Int.natAbs h
  rw [natAbs_sg, Int.natAbs_mul] at h1
  rw [h1]
  rfl
theorem pow145 : (2 : Int) ^ 145 = ((2 ^ 145 : Nat) : Int) := by decide +kernel
theorem abs145 (k : Int) : (k * 2 ^ 145).natAbs = k.natAbs * 2 ^ 145 := by rw [pow145, Int.natAbs_mul]; rfl
theorem rep145 {n : Nat} (h : n < 2 ^ 24) : Rep single (n * 2 ^ 145) := rep_mul (rep_small (by rw [frac32]; exact h)) 145
theorem cap145 {n : Nat} (h : n < 2 ^ 24) : n * 2 ^ 145 < 2 ^ cap single := by
  obtain ⟨C, hC, hC2⟩ : ∃ C, cap single = C ∧ C = 277 := ⟨_, rfl, cap32⟩
  rw [hC]
  have h1 : n * 2 ^ 145 < 2 ^ 24 * 2 ^ 145 := Nat.mul_lt_mul_of_pos_right h (two_pos 145)
  rw [← Nat.pow_add] at h1
  exact Nat.lt_of_lt_of_le h1 (Nat.pow_le_pow_right (by decide) (by omega))
theorem cap145' {n : Nat} (h : n < 2 ^ 24) : 4 * (n * 2 ^ 145) < 2 ^ cap single := by
  obtain ⟨C, hC, hC2⟩ : ∃ C, cap single = C ∧ C = 277 := ⟨_, rfl, cap32⟩
  rw [hC]
  have h1 : n * 2 ^ 145 < 2 ^ 24 * 2 ^ 145 := Nat.mul_lt_mul_of_pos_right h (two_pos 145)
  rw [← Nat.pow_add] at h1
  have h2 : 4 * 2 ^ (24 + 145) ≤ 2 ^ C := by
    rw [show (4 : Nat) = 2 ^ 2 from rfl, ← Nat.pow_add]
    exact Nat.pow_le_pow_right (by decide) (by omega)
  exact Nat.lt_of_lt_of_le (Nat.mul_lt_mul_of_pos_left h1 (by decide)) h2
theorem Sx.add {x y : Nat} {a b : Int} (hx : Sx x a) (hy : Sx y b) (h : (a + b).natAbs < 2 ^ 24) : ∃ r, floatBits .add .f32 x y = some r ∧ Sx r (a + b) := by
  obtain ⟨_, s, u, hx, ha⟩ := hx
  obtain ⟨_, t, v, hy, hb⟩ := hy
  have hs : sg s u + sg t v = (a + b) * 2 ^ 145 := by rw [ha, hb, Int.add_mul]
  obtain ⟨r, hr, hn⟩ := add_num fine32 hx hy (by rw [hs, abs145]; exact rep145 h) (by rw [hs, abs145]; exact cap145 h)
  rw [hs] at hn
  refine ⟨r, hr, ?_, _, _, hn, sg_self _ _⟩
  have := floatBits_wf (op := .add) (k := .f32) (show floatBits .add .f32 x y = some r from hr)
  simpa [Lit.wf] using this
theorem Sx.sub {x y : Nat} {a b : Int} (hx : Sx x a) (hy : Sx y b) (h : (a - b).natAbs < 2 ^ 24) : ∃ r, floatBits .sub .f32 x y = some r ∧ Sx r (a - b) := by
  obtain ⟨_, s, u, hx, ha⟩ := hx
  obtain ⟨_, t, v, hy, hb⟩ := hy
  have hs : sg s u - sg t v = (a - b) * 2 ^ 145 := by rw [ha, hb, Int.sub_mul]
  obtain ⟨r, hr, hn⟩ := sub_num fine32 hx hy (by rw [hs, abs145]; exact rep145 h) (by rw [hs, abs145]; exact cap145 h)
  rw [hs] at hn
  refine ⟨r, hr, ?_, _, _, hn, sg_self _ _⟩
  have := floatBits_wf (op := .sub) (k := .f32) (show floatBits .sub .f32 x y = some r from hr)
  simpa [Lit.wf] using this
theorem Sx.neg {x : Nat} {a : Int} (hx : Sx x a) : Sx (Op.negFloat .f32 x) (-a) := by
  obtain ⟨h0, s, u, hx, ha⟩ := hx
  exact ⟨neg_lt32 h0, !s, u, num_neg32 h0 hx, by rw [sg_not, ha, Int.neg_mul]⟩
theorem sg_mul (s : Bool) (n u : Nat) : sg s (n * u) = n * sg s u := by
  unfold sg
  cases s <;> simp [Int.natCast_mul, Int.mul_neg]
theorem Sx.quo {x c p : Nat} {a : Int} (hc : single.read c = .number false 8388608 (-23 + (p : Int))) (hx : Sx x ((2 ^ p : Nat) * a)) (h : a.natAbs < 2 ^ 24) : ∃ r, floatBits .quo .f32 x c = some r ∧ Sx r a := by
  obtain ⟨h0, s, u, hx, ha⟩ := hx
  have hu : u = 2 ^ p * (a.natAbs * 2 ^ 145) := by
    have h1 := sx_abs ha
    rw [Int.natAbs_mul] at h1
    rw [h1, Int.natAbs_natCast, Nat.mul_assoc]
  rw [hu] at hx ha
  obtain ⟨r, hr, hn⟩ := div_pow hc hx (cap145' h) (rep145 h)
  refine ⟨r, hr, ?_, s, _, hn, ?_⟩
  · have := floatBits_wf (op := .quo) (k := .f32) (show floatBits .quo .f32 x c = some r from hr)
    simpa [Lit.wf] using this
  · rw [sg_mul, Int.mul_assoc] at ha
    exact Int.eq_of_mul_eq_mul_left (by have := two_pos p; omega) ha
theorem Sx.eq {x y : Nat} {a : Int} (hx : Sx x a) (hy : Sx y a) : single.order x y = some .eq := by
  obtain ⟨_, s, u, hx, ha⟩ := hx
  obtain ⟨_, t, v, hy, hb⟩ := hy
  rw [order_num hx hy, ha, hb, cmp_eq rfl]
theorem Sx.zero : Sx 0 0 := ⟨by decide, false, 0, by
  have h := read_num read_zero
  rwa [Nat.zero_mul] at h, by unfold sg; simp⟩
theorem Sx.fin {x : Nat} {a : Int} (hx : Sx x a) (h : a.natAbs ≤ 4096) : Flt.fin x = true := by
  obtain ⟨_, s, u, hx, ha⟩ := hx
  rw [fin_num hx, decide_eq_true_iff, sx_abs ha]
  have h1 : a.natAbs * 2 ^ 145 ≤ 4096 * 2 ^ 145 := Nat.mul_le_mul_right _ h
  have h2 : (4096 * 2 ^ 145 : Nat) = LIM := by unfold LIM; decide +kernel
  omega
theorem Sx.ofInt {n : Int} (h : n.natAbs < 2 ^ 20) : Sx (floatOfInt .f32 n) (16 * n) := by
  have h1 : Num single (single.nearest (n < 0) n.natAbs 0) (decide (n < 0)) (n.natAbs * 2 ^ unit single) := int_num fine32 _ _ (rep_small (by rw [frac32]; exact Nat.lt_of_lt_of_le h (by decide))) (by
    obtain ⟨C, hC, hC2⟩ : ∃ C, cap single = C ∧ C = 277 := ⟨_, rfl, cap32⟩
    rw [unit32, hC]
    have h2 : n.natAbs * 2 ^ 149 < 2 ^ 20 * 2 ^ 149 := Nat.mul_lt_mul_of_pos_right h (two_pos 149)
    rw [← Nat.pow_add] at h2
    exact Nat.lt_of_lt_of_le h2 (Nat.pow_le_pow_right (by decide) (by omega)))
  refine ⟨by have := floatOfInt_wf .f32 n; simpa [Lit.wf] using this, _, _, h1, ?_⟩
  rw [unit32]
  have h3 : sg (decide (n < 0)) (n.natAbs * 2 ^ 149) = n * 2 ^ 149 := by
    unfold sg
    have e : (2 : Int) ^ 149 = ((2 ^ 149 : Nat) : Int) := by decide +kernel
    by_cases hn : n < 0
    · rw [decide_eq_true hn, if_pos rfl, Int.natCast_mul, Int.ofNat_natAbs_of_nonpos (by omega), e, Int.neg_mul, Int.neg_neg]
    · rw [decide_eq_false hn, if_neg (by decide), Int.natCast_mul, Int.natAbs_of_nonneg (by omega), e]
  rw [h3]
  have h4 : (2 : Int) ^ 149 = 16 * 2 ^ 145 := by decide +kernel
  rw [h4, ← Int.mul_assoc, Int.mul_comm n 16]
theorem Sx.sixteenth {n : Int} (h : n.natAbs < 2 ^ 20) : ∃ r, floatBits .quo .f32 (floatOfInt .f32 n) 1098907648 = some r ∧ Sx r n :=
  Sx.quo (p := 4) read_sixteen (Sx.ofInt h) (by omega)
end Go.Proofs.Ytnedmhhodmmddaa.Flt
