/-
  What is proved: facts about singles: a number of at most 256; its product with 1, its negative, its sum with another, half of it, its double.
  Conditions: those that each fact names.
-/
import Derived.Test.YtnedmhhodmmddaaFlt
import Derived.Test.YtnedmhhodmmddaaRnd

import Derived.WalkLawsBesides
namespace Go.Proofs.Ytnedmhhodmmddaa.Flt
set_option linter.unusedVariables false
open Ieee

theorem unit32 : unit single = 149 := by decide
theorem bin32 : single.binade = 2 ^ 23 := rfl
theorem inf32 : single.infRung = 255 * 2 ^ 23 := by decide +kernel
theorem sw32 : single.signWeight = 2 ^ 31 := rfl
theorem cap32 : cap single = 277 := by decide
theorem place32 : single.leastPlace = -149 := by decide
theorem plc64 : double.leastPlace = -1074 := by decide
theorem frc64 : double.fractionBits = 52 := rfl
theorem frac32 : single.fractionBits = 23 := rfl

theorem word_parts32 (p : Nat) (h : p < 2 ^ 32) : ∃ s r, p = single.word s r ∧ r < 2 ^ 31 := by
  refine ⟨decide (2 ^ 31 ≤ p), p % 2 ^ 31, ?_, Nat.mod_lt _ (by decide)⟩
  unfold Format.word
  rw [sw32]
  by_cases h1 : 2 ^ 31 ≤ p
  · rw [decide_eq_true h1, if_pos rfl]; omega
  · rw [decide_eq_false h1, if_neg (by simp)]; omega
theorem word_lt32 (s : Bool) (r : Nat) (h : r < 2 ^ 31) : single.word s r < 2 ^ 32 := by
  unfold Format.word; rw [sw32]; cases s <;> simp <;> omega

theorem xor_hi (r : Nat) (h : r < 2 ^ 31) : r ^^^ 2 ^ 31 = 2 ^ 31 + r := by
  have e := Nat.two_pow_add_eq_or_of_lt h 1
  rw [Nat.mul_one] at e
  rw [e]
  apply Nat.eq_of_testBit_eq
  intro i
  rw [Nat.testBit_xor, Nat.testBit_or, Nat.testBit_two_pow]
  by_cases hi : 31 = i
  · subst hi
    rw [Nat.testBit_lt_two_pow h]; simp
  · rw [decide_eq_false hi]; simp
theorem neg_word32 (s : Bool) (r : Nat) (h : r < 2 ^ 31) : Op.negFloat .f32 (single.word s r) = single.word (!s) r := by
  show (single.word s r) ^^^ 2 ^ 31 = _
  unfold Format.word
  rw [sw32]
  cases s
  · simp only [Bool.false_eq_true, if_false, Bool.not_false, if_true]; exact xor_hi r h
  · simp only [Bool.not_true, if_true, Bool.false_eq_true, if_false]
    rw [← xor_hi r h, Nat.xor_assoc, Nat.xor_self, Nat.xor_zero]
theorem neg_neg32 (x : Nat) : Op.negFloat .f32 (Op.negFloat .f32 x) = x := by
  show x ^^^ 2 ^ 31 ^^^ 2 ^ 31 = x
  rw [Nat.xor_assoc, Nat.xor_self, Nat.xor_zero]
theorem neg_lt32 {x : Nat} (h : x < 2 ^ 32) : Op.negFloat .f32 x < 2 ^ 32 := by
  obtain ⟨s, r, rfl, hr⟩ := word_parts32 x h
  rw [neg_word32 s r hr]; exact word_lt32 _ _ hr

/-- The parts of a number. -/
theorem read_num {f : Format} {b : Nat} {s : Bool} {m : Nat} {e : Int} (h : f.read b = .number s m e) : Num f b s (m * 2 ^ (e - f.leastPlace).toNat) := by
  refine ⟨m, e, h, ?_, rfl⟩
  unfold Format.read at h
  dsimp only at h
  split at h
  · injection h with h1 h2 h3; omega
  · split at h
    · injection h with h1 h2 h3; omega
    · split at h <;> cases h
theorem num_neg32 {x : Nat} {s : Bool} {u : Nat} (hx : x < 2 ^ 32) (h : Num single x s u) : Num single (Op.negFloat .f32 x) (!s) u := by
  obtain ⟨t, r, rfl, hr⟩ := word_parts32 x hx
  rw [neg_word32 t r hr]
  obtain ⟨m, e, h1, h2, h3⟩ := h
  have hr1 : r < single.signWeight := hr
  rw [read_word _ _ _ hr1] at h1
  refine ⟨m, e, ?_, h2, h3⟩
  rw [read_word _ _ _ hr1]
  split at h1
  · rw [if_pos (by assumption)]; injection h1 with e1 e2 e3; rw [e1, e2, e3]
  · split at h1
    · rw [if_neg (by assumption), if_pos (by assumption)]; injection h1 with e1 e2 e3; rw [e1, e2, e3]
    · split at h1 <;> cases h1

/-- The units of 256. -/
def LIM : Nat := 2 ^ 157
/-- Is the number at most 256, whatever its sign? -/
def lo (x : Nat) : Bool := single.order 3279945728 x == some .lt || single.order 3279945728 x == some .eq
def hi (x : Nat) : Bool := single.order x 1132462080 == some .lt || single.order x 1132462080 == some .eq
def fin (x : Nat) : Bool := lo x && hi x
theorem num_lim : Num single 1132462080 false LIM := by
  refine ⟨8388608, -15, by decide +kernel, by decide, ?_⟩
  unfold LIM; rw [place32]; decide +kernel
theorem num_nlim : Num single 3279945728 true LIM := by
  refine ⟨8388608, -15, by decide +kernel, by decide, ?_⟩
  unfold LIM; rw [place32]; decide +kernel
theorem num_one : Num single 1065353216 false (2 ^ 149) := by
  refine ⟨8388608, -23, by decide +kernel, by decide, ?_⟩
  rw [place32]; decide +kernel
theorem read_two : single.read 1073741824 = .number false 8388608 (-22) := by decide +kernel
theorem read_zero : single.read 0 = .number false 0 (-149) := by decide +kernel
theorem le_iff {f : Format} {x y : Nat} {s t : Bool} {u v : Nat} (hx : Num f x s u) (hy : Num f y t v) : (f.order x y == some .lt || f.order x y == some .eq) = decide (sg s u ≤ sg t v) := by
  rw [order_num hx hy]
  rcases Int.lt_trichotomy (sg s u) (sg t v) with h | h | h
  · rw [cmp_lt h]; simp; omega
  · rw [cmp_eq h]; simp; omega
  · rw [cmp_gt h]; simp; omega
theorem fin_num {x : Nat} {s : Bool} {u : Nat} (h : Num single x s u) : fin x = decide (u ≤ LIM) := by
  unfold fin lo hi
  rw [le_iff num_nlim h, le_iff h num_lim]
  unfold sg
  by_cases hu : u ≤ LIM <;> cases s <;> simp [hu] <;> omega
theorem fin_of {x : Nat} (h : fin x = true) : ∃ s u, Num single x s u ∧ u ≤ LIM := by
  cases hr : single.read x with
  | number s m e =>
    have hn := read_num hr
    refine ⟨s, _, hn, ?_⟩
    rw [fin_num hn] at h
    exact of_decide_eq_true h
  | infinity s =>
    exfalso
    unfold fin lo hi Format.order at h
    obtain ⟨_, _, h1, _⟩ := num_lim
    obtain ⟨_, _, h2, _⟩ := num_nlim
    rw [hr, h1, h2] at h
    cases s <;> simp [Datum.order] at h
  | nan s t =>
    exfalso
    unfold fin lo hi Format.order at h
    rw [hr] at h
    cases single.read 1132462080 <;> simp [Datum.order] at h
theorem fin_neg {x : Nat} (hx : x < 2 ^ 32) (h : fin x = true) : fin (Op.negFloat .f32 x) = true := by
  obtain ⟨s, u, hn, hu⟩ := fin_of h
  rw [fin_num (num_neg32 hx hn)]
  exact decide_eq_true hu
theorem fin_ok {x : Nat} (h : fin x = true) : (single.read x).isNaN = false := by
  obtain ⟨s, u, hn, hu⟩ := fin_of h
  exact num_read hn
theorem lim_cap {u : Nat} (h : u ≤ LIM) : 4 * u < 2 ^ cap single := by
  rw [cap32]; unfold LIM at h; omega

/-- A word is told by its sign and its units. -/
theorem num_inj {x y : Nat} {s : Bool} {u : Nat} (hx : x < 2 ^ 32) (hy : y < 2 ^ 32) (h : Num single x s u) (g : Num single y s u) : x = y := by
  obtain ⟨s1, r1, rfl, h1⟩ := word_parts32 x hx
  obtain ⟨s2, r2, rfl, h2⟩ := word_parts32 y hy
  have key : ∀ (s' : Bool) (r : Nat), r < 2 ^ 31 → Num single (single.word s' r) s u → s' = s ∧ ∃ q M, r = q * 2 ^ 23 + M ∧ u = M * 2 ^ q ∧ M < 2 * 2 ^ 23 ∧ (q = 0 ∨ 2 ^ 23 ≤ M) := by
    intro s' r hr hn
    obtain ⟨m, e, e1, e2, e3⟩ := hn
    have hr1 : r < single.signWeight := hr
    rw [read_word _ _ _ hr1, bin32] at e1
    split at e1
    · injection e1 with f1 f2 f3
      subst f1 f2 f3
      refine ⟨rfl, 0, r, by omega, ?_, by omega, .inl rfl⟩
      rw [e3]; simp
    · split at e1
      · injection e1 with f1 f2 f3
        subst f1 f2 f3
        refine ⟨rfl, r / 2 ^ 23 - 1, 2 ^ 23 + r % 2 ^ 23, by omega, ?_, by omega, .inr (by omega)⟩
        rw [e3]; congr 2; omega
      · split at e1 <;> cases e1
  obtain ⟨rfl, q1, M1, rfl, hu1, hm1, hq1⟩ := key s1 r1 h1 h
  obtain ⟨rfl, q2, M2, rfl, hu2, hm2, hq2⟩ := key s2 r2 h2 g
  have hlt : ∀ q q' M M' : Nat, M * 2 ^ q = M' * 2 ^ q' → M < 2 * 2 ^ 23 → (q' = 0 ∨ 2 ^ 23 ≤ M') → ¬ q < q' := by
    intro q q' M M' e hM hq' hlt
    have h2 : 2 ^ 23 ≤ M' := by
      rcases hq' with h | h
      · omega
      · exact h
    obtain ⟨d, rfl⟩ : ∃ d, q' = q + 1 + d := ⟨q' - q - 1, by omega⟩
    have h3 : 2 ^ (q + 1 + d) = 2 * (2 ^ d * 2 ^ q) := by rw [Nat.pow_add, Nat.pow_succ', Nat.mul_assoc, Nat.mul_comm (2 ^ q) (2 ^ d)]
    rw [h3] at e
    have hp : 0 < 2 ^ q := two_pos q
    have hd : 0 < 2 ^ d := two_pos d
    have e4 : M * 2 ^ q = (M' * 2 * 2 ^ d) * 2 ^ q := by rw [e]; simp only [Nat.mul_assoc]
    have e5 := Nat.eq_of_mul_eq_mul_right hp e4
    have e6 : M' * 2 * 1 ≤ M' * 2 * 2 ^ d := Nat.mul_le_mul_left _ hd
    omega
  have hqq : q1 = q2 := by
    have a1 := hlt q1 q2 M1 M2 (hu1.symm.trans hu2) hm1 hq2
    have a2 := hlt q2 q1 M2 M1 (hu2.symm.trans hu1) hm2 hq1
    omega
  subst hqq
  have hmm : M1 = M2 := Nat.eq_of_mul_eq_mul_right (two_pos q1) (hu1.symm.trans hu2)
  rw [hmm]

theorem mul_one32 {x : Nat} (hx : x < 2 ^ 32) (h : fin x = true) : floatBits .mul .f32 x 1065353216 = some x := by
  obtain ⟨s, u, hn, hu⟩ := fin_of h
  obtain ⟨r, hr, hn2⟩ := mul_num fine32 hn num_one u (by rw [unit32]) (rep_num hn) (by have := lim_cap hu; omega)
  have hr' : single.mul x 1065353216 = some r := hr
  show single.mul x 1065353216 = some x
  rw [hr', num_inj hx (single.mul_lt hr) hn (by simpa using hn2)]

theorem add_comm32 (x y : Nat) : floatBits .add .f32 x y = floatBits .add .f32 y x := by
  show single.add x y = single.add y x
  unfold Format.add
  cases single.read x <;> cases single.read y <;> simp only [Datum.sum]
  · rename_i s m i t n j
    rw [Int.min_comm, Int.add_comm, Bool.and_comm]
  · rename_i s t
    by_cases h : s = t
    · subst h; rfl
    · rw [if_neg h, if_neg (fun e => h e.symm)]

/-- Half of a sum. -/
def half (x y : Nat) : Nat := ((floatBits .add .f32 x y).bind fun r => floatBits .quo .f32 r 1073741824).getD 0
theorem half_comm (x y : Nat) : half x y = half y x := by unfold half; rw [add_comm32]
theorem add_fin {x y : Nat} (hx : fin x = true) (hy : fin y = true) : ∃ r, floatBits .add .f32 x y = some r ∧ (single.read r).isNaN = false := by
  obtain ⟨s, u, ⟨m, i, h1, _, _⟩, hu⟩ := fin_of hx
  obtain ⟨t, v, ⟨n, j, h2, _, _⟩, hv⟩ := fin_of hy
  show ∃ r, single.add x y = some r ∧ _
  unfold Format.add
  rw [h1, h2]
  exact ⟨_, rfl, nearest_ok _ _ _ _⟩
theorem half_fin {x y : Nat} (hx : fin x = true) (hy : fin y = true) : ∃ r, floatBits .add .f32 x y = some r ∧ floatBits .quo .f32 r 1073741824 = some (half x y) ∧ (single.read (half x y)).isNaN = false := by
  obtain ⟨r, hr, hk⟩ := add_fin hx hy
  obtain ⟨q, hq, hk2⟩ := div_some hk read_two (by decide)
  have hq' : floatBits .quo .f32 r 1073741824 = some q := hq
  have e : half x y = q := by unfold half; rw [hr]; simp [hq']
  rw [e]
  exact ⟨r, hr, hq', hk2⟩

theorem div_two {x : Nat} {s : Bool} {u : Nat} (h : Num single x s (2 * u)) (hu : 4 * u < 2 ^ cap single) (hr : Rep single u) : ∃ q, single.div x 1073741824 = some q ∧ Num single q s u := by
  obtain ⟨m, i, h1, h2, h3⟩ := h
  have hm := read_bound h1
  rw [frac32] at hm
  rw [place32] at h2 h3
  unfold Format.div
  rw [h1, read_two]
  have hn : Nat.log2 8388608 = 23 := by decide +kernel
  have hlog : m.log2 ≤ 23 := by
    by_cases h0 : m = 0
    · subst h0; decide
    · have := (Nat.log2_lt h0).2 hm; omega
  obtain ⟨k, hk⟩ : ∃ k, single.fractionBits + 2 + Nat.log2 8388608 - m.log2 = k + 23 := ⟨single.fractionBits + 2 + Nat.log2 8388608 - m.log2 - 23, by rw [hn, frac32]; omega⟩
  have hdiv : m * 2 ^ (k + 23) / 8388608 = m * 2 ^ k := by
    rw [show (8388608 : Nat) = 2 ^ 23 from rfl, Nat.pow_add, ← Nat.mul_assoc, Nat.mul_div_cancel _ (two_pos 23)]
  have hmod : m * 2 ^ (k + 23) % 8388608 = 0 := by
    rw [show (8388608 : Nat) = 2 ^ 23 from rfl, Nat.pow_add, ← Nat.mul_assoc, Nat.mul_mod_left]
  simp only [Datum.quotient, show (8388608 : Nat) ≠ 0 by decide, if_false, Option.map_some, Format.write, hk, shl, hdiv, hmod, bne_self_eq_false, Bool.toNat_false, Nat.add_zero, Bool.bne_false]
  refine ⟨_, rfl, num_of fine32 s _ u _ ?_ hr (by omega)⟩
  rw [place32]
  have h4 : 2 * u = m * 2 ^ (i + 149).toNat := by rw [h3]; congr 2
  have ha : 2 * (m * 2 ^ k) = m * 2 ^ (k + 1) := by rw [Nat.pow_succ]; ac_rfl
  rw [ha]
  rcases Int.le_total (-149) (i - -22 - ((k + 23 : Nat) : Int) - 1) with hp | hp
  · rw [show (-149 - (i - -22 - ((k + 23 : Nat) : Int) - 1)).toNat = 0 by omega, Nat.pow_zero, Nat.mul_one, Nat.mul_assoc, ← Nat.pow_add]
    apply Nat.eq_of_mul_eq_mul_left (show 0 < 2 by decide)
    rw [h4, show (i + 149).toNat = k + 1 + (i - -22 - ((k + 23 : Nat) : Int) - 1 - -149).toNat + 1 by omega, Nat.pow_succ 2 (k + 1 + _)]
    ac_rfl
  · rw [show (i - -22 - ((k + 23 : Nat) : Int) - 1 - -149).toNat = 0 by omega, Nat.pow_zero, Nat.mul_one]
    apply Nat.eq_of_mul_eq_mul_left (show 0 < 2 by decide)
    rw [← Nat.mul_assoc 2 u, h4, Nat.mul_assoc m, ← Nat.pow_add, show (i + 149).toNat + (-149 - (i - -22 - ((k + 23 : Nat) : Int) - 1)).toNat = k + 1 + 1 by omega, Nat.pow_succ 2 (k + 1), ← Nat.mul_assoc m, Nat.mul_comm 2]

theorem half_self {x : Nat} (hx : fin x = true) : single.order (half x x) x = some .eq := by
  obtain ⟨s, u, hn, hu⟩ := fin_of hx
  have e : sg s u + sg s u = sg s (2 * u) := by unfold sg; cases s <;> simp <;> omega
  have hcap := lim_cap hu
  obtain ⟨r, hr, hn2⟩ := add_num fine32 hn hn (by rw [e, natAbs_sg, Nat.mul_comm]; exact rep_mul (rep_num hn) 1) (by rw [e, natAbs_sg]; omega)
  rw [e, natAbs_sg] at hn2
  have hs : (if sg s (2 * u) = 0 then s && s else decide (sg s (2 * u) < 0)) = s := by
    unfold sg
    cases s
    · simp; intro h; omega
    · simp; omega
  rw [hs] at hn2
  obtain ⟨q, hq, hn3⟩ := div_two hn2 hcap (rep_num hn)
  have e2 : half x x = q := by
    unfold half
    rw [show floatBits .add .f32 x x = some r from hr]
    simp only [Option.bind_some]
    rw [show floatBits .quo .f32 r 1073741824 = some q from hq]
    rfl
  rw [e2, order_num hn3 hn, cmp_eq rfl]

/-- A finite single as a double. -/
theorem conv_fin {x : Nat} (hx : fin x = true) : ∃ r, floatToFloatBits .f32 x .f64 = some r ∧ (double.read r).isNaN = false := by
  obtain ⟨s, u, ⟨m, i, h1, h2, h3⟩, hu⟩ := fin_of hx
  have hm := read_bound h1
  rw [frac32] at hm
  rw [place32] at h2 h3
  have hi : m = 0 ∨ i ≤ 8 := by
    by_cases h0 : m = 0
    · exact .inl h0
    · right
      apply Classical.byContradiction
      intro hc
      have h4 : 2 ^ 158 ≤ 2 ^ (i - -149).toNat := Nat.pow_le_pow_right (by decide) (by omega)
      have h5 : 1 * 2 ^ (i - -149).toNat ≤ m * 2 ^ (i - -149).toNat := Nat.mul_le_mul_right _ (by omega)
      unfold LIM at hu
      omega
  have hn : Num double (double.nearest s m i) s (m * 2 ^ (i + 1074).toNat) := by
    rcases hi with rfl | hi
    · refine num_of fine64 s 0 (0 * 2 ^ (i + 1074).toNat) i (by simp) (by simpa using rep_zero _) (by simpa using two_pos _)
    · refine num_of fine64 s m _ i ?_ (rep_mul (rep_small (by rw [frc64]; omega)) _) ?_
      · rw [plc64, show (-1074 - i).toNat = 0 by omega, Nat.pow_zero, Nat.mul_one]; rfl
      · obtain ⟨C, hC, hC2⟩ : ∃ C, cap double = C ∧ C = 2098 := ⟨_, rfl, cap64⟩
        rw [hC]
        obtain ⟨j, hj, hj2⟩ : ∃ j, (i + 1074).toNat = j ∧ 24 + j ≤ 2098 := ⟨_, rfl, by omega⟩
        rw [hj]
        have h5 : m * 2 ^ j < 2 ^ 24 * 2 ^ j := Nat.mul_lt_mul_of_pos_right hm (two_pos j)
        rw [← Nat.pow_add] at h5
        exact Nat.lt_of_lt_of_le h5 (Nat.pow_le_pow_right (by decide) (by omega))
  refine ⟨double.nearest s m i, ?_, num_read hn⟩
  obtain ⟨m', e', hr', _, _⟩ := hn
  unfold floatToFloatBits
  rw [if_neg (by decide)]
  have hdec : FloatKind.f32.decode x = .number s m i := h1
  have henc : FloatKind.f64.encode (.number s m i) = double.nearest s m i := rfl
  have hdec2 : FloatKind.f64.decode (double.nearest s m i) = .number s m' e' := hr'
  simp only [hdec, henc, hdec2, Datum.isInfinity]
  rfl
end Go.Proofs.Ytnedmhhodmmddaa.Flt
