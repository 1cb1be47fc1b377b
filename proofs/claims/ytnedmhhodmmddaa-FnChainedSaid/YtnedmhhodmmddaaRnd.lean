/-
  What is proved: plain facts on doubles: what rounding to the nearest whole number does to a word, and when the thousandths of a float are in range.
  Conditions: none beyond those that each fact names.
-/
import Derived.Test.YtnedmhhodmmddaaFlt
import Derived.Laws.BitsAllLaws
namespace Go.Proofs.Ytnedmhhodmmddaa.Flt
set_option linter.unusedVariables false
open Ieee

def B52 : Nat := 2 ^ 52
/-- The rung of the nearest whole number (of two, the one with the greater amount). -/
def rndRung (r : Nat) : Nat :=
  if r / 2 ^ 52 < 1022 then 0 else if r / 2 ^ 52 = 1022 then 1023 * 2 ^ 52
  else if r / 2 ^ 52 < 1075 then (r + 2 ^ (1074 - r / 2 ^ 52)) / 2 ^ (1075 - r / 2 ^ 52) * 2 ^ (1075 - r / 2 ^ 52) else r

theorem unit64 : unit double = 1074 := by decide
theorem bin64 : double.binade = 2 ^ 52 := rfl
theorem inf64 : double.infRung = 2047 * 2 ^ 52 := by decide +kernel
theorem sw64 : double.signWeight = 2 ^ 63 := rfl

/-- One, and a half, in units. -/
def E73 : Nat := 1073
theorem e73 : E73 = 1073 := rfl
def ONE : Nat := 2 ^ (E73 + 1)
def HALF : Nat := 2 ^ E73
theorem one_two : ONE = 2 * HALF := by unfold ONE HALF; rw [← Nat.pow_succ']
theorem half_pos : 0 < HALF := two_pos _
theorem one_unit : 2 ^ unit double = ONE := congrArg (fun n => 2 ^ n) (show unit double = E73 + 1 from unit64)

theorem pow_le {a b : Nat} (h : a ≤ b) : 2 ^ a ≤ 2 ^ b := Nat.pow_le_pow_right (by decide) h

theorem rung_parts (r : Nat) (h : 2 ^ 52 ≤ r) : ∃ q M, r = q * 2 ^ 52 + M ∧ 2 ^ 52 ≤ M ∧ M < 2 * 2 ^ 52 ∧ r / 2 ^ 52 = q + 1 := by
  refine ⟨r / 2 ^ 52 - 1, 2 ^ 52 + r % 2 ^ 52, ?_, ?_, ?_, ?_⟩ <;> omega
theorem num_parts (s : Bool) (q M : Nat) (h1 : 2 ^ 52 ≤ M) (h2 : M ≤ 2 * 2 ^ 52) (h3 : q * 2 ^ 52 + M < 2047 * 2 ^ 52) : Num double (double.word s (q * 2 ^ 52 + M)) s (M * 2 ^ q) :=
  num_word double s q M h2 (.inr h1) (by rw [inf64]; exact h3)
theorem num_small (s : Bool) (r : Nat) (h : r < 2 ^ 52) : Num double (double.word s r) s r := by
  have := num_word double s 0 r (by rw [bin64]; omega) (.inl rfl) (by rw [inf64]; omega)
  simpa using this

/-- What rounding gives, in units. -/
def rnd (u : Nat) : Nat := (u + HALF) / ONE
theorem rnd_num (r : Nat) (h : r / 2 ^ 52 < 1075) : ∃ u, ∀ s, Num double (double.word s r) s u ∧ Num double (double.word s (rndRung r)) s (rnd u * ONE) := by
  have hone : 0 < ONE := two_pos _
  rcases Nat.lt_or_ge r (2 ^ 52) with h0 | h0
  · refine ⟨r, fun s => ⟨num_small s r h0, ?_⟩⟩
    have e1 : rndRung r = 0 := by unfold rndRung; rw [if_pos (by omega)]
    have hb : 2 ^ 52 ≤ HALF := pow_le (by have := e73; omega)
    have e2 : rnd r = 0 := by unfold rnd; rw [Nat.div_eq_of_lt (by rw [one_two]; omega)]
    rw [e1, e2, Nat.zero_mul]
    exact num_zero double s (by rw [inf64]; decide)
  · obtain ⟨q, M, hr, hM1, hM2, hq⟩ := rung_parts r h0
    rw [hq] at h
    refine ⟨M * 2 ^ q, fun s => ⟨by rw [hr]; exact num_parts s q M hM1 (by omega) (by omega), ?_⟩⟩
    rcases Nat.lt_or_ge q 1021 with hlo | hlo
    · have e1 : rndRung r = 0 := by unfold rndRung; rw [hq, if_pos (by omega)]
      have hlt : M * 2 ^ q < HALF := by
        have h1 : M * 2 ^ q < 2 ^ 53 * 2 ^ q := Nat.mul_lt_mul_of_pos_right (by omega) (two_pos q)
        rw [← Nat.pow_add] at h1
        exact Nat.lt_of_lt_of_le h1 (pow_le (by have := e73; omega))
      have e2 : rnd (M * 2 ^ q) = 0 := by unfold rnd; rw [Nat.div_eq_of_lt (by rw [one_two]; omega)]
      rw [e1, e2, Nat.zero_mul]
      exact num_zero double s (by rw [inf64]; decide)
    · rcases Nat.lt_or_ge q 1022 with hm | hm
      · have hq2 : q = 1021 := by omega
        have e1 : rndRung r = (q + 1) * 2 ^ 52 + 2 ^ 52 := by unfold rndRung; rw [hq, if_neg (by omega), if_pos (by omega), hq2]
        have hE : HALF = 2 ^ 52 * 2 ^ q := by unfold HALF; rw [← Nat.pow_add]; exact congrArg (fun n => 2 ^ n) (by have := e73; omega)
        have h1 : HALF ≤ M * 2 ^ q := by rw [hE]; exact Nat.mul_le_mul_right _ hM1
        have h2 : M * 2 ^ q < 2 * HALF := by rw [hE, ← Nat.mul_assoc]; exact Nat.mul_lt_mul_of_pos_right hM2 (two_pos _)
        have e2 : rnd (M * 2 ^ q) = 1 := by
          unfold rnd
          rw [one_two]
          apply Nat.div_eq_of_lt_le <;> omega
        rw [e1, e2, Nat.one_mul]
        have e4 : ONE = 2 ^ 52 * 2 ^ (q + 1) := by rw [one_two, hE, Nat.pow_succ, ← Nat.mul_assoc]; omega
        rw [e4]
        exact num_parts s (q + 1) (2 ^ 52) (Nat.le_refl _) (by omega) (by omega)
      · obtain ⟨j, hj⟩ : ∃ j, j = 1074 - q := ⟨_, rfl⟩
        have hj1 : 1 ≤ j := by omega
        have hj2 : j ≤ 52 := by omega
        have hpj := two_pos j
        have h52 : 2 ^ (52 - j) * 2 ^ j = 2 ^ 52 := by rw [← Nat.pow_add]; congr 1; omega
        have hhj : 2 * 2 ^ (j - 1) = 2 ^ j := by rw [← Nat.pow_succ']; congr 1; omega
        obtain ⟨X, hX⟩ : ∃ X, X = (M + 2 ^ (j - 1)) / 2 ^ j := ⟨_, rfl⟩
        have e1 : rndRung r = q * 2 ^ 52 + X * 2 ^ j := by
          unfold rndRung
          rw [hq, if_neg (by omega), if_neg (by omega), if_pos (by omega), show 1074 - (q + 1) = j - 1 by omega, show 1075 - (q + 1) = j by omega, hr]
          have e3 : q * 2 ^ 52 + M + 2 ^ (j - 1) = (M + 2 ^ (j - 1)) + (q * 2 ^ (52 - j)) * 2 ^ j := by rw [Nat.mul_assoc, h52]; omega
          rw [e3, Nat.add_mul_div_right _ _ hpj, Nat.add_mul, Nat.mul_assoc q, h52, hX]
          omega
        have hX1 : 2 ^ (52 - j) ≤ X := by
          rw [hX]
          apply (Nat.le_div_iff_mul_le hpj).2
          rw [h52]; omega
        have hX2 : X ≤ 2 * 2 ^ (52 - j) := by
          rw [hX]
          apply Nat.le_of_lt_succ
          apply (Nat.div_lt_iff_lt_mul hpj).2
          rw [Nat.succ_mul, Nat.mul_assoc, h52]
          omega
        have hk1 : 2 ^ 52 ≤ X * 2 ^ j := by rw [← h52]; exact Nat.mul_le_mul_right _ hX1
        have hk2 : X * 2 ^ j ≤ 2 * 2 ^ 52 := by rw [← h52, ← Nat.mul_assoc]; exact Nat.mul_le_mul_right _ hX2
        have e2 : rnd (M * 2 ^ q) = X := by
          unfold rnd ONE HALF
          have a1 : (2 : Nat) ^ E73 = 2 ^ (j - 1) * 2 ^ q := by rw [← Nat.pow_add]; exact congrArg (fun n => 2 ^ n) (by have := e73; omega)
          have a2 : (2 : Nat) ^ (E73 + 1) = 2 ^ j * 2 ^ q := by rw [← Nat.pow_add]; exact congrArg (fun n => 2 ^ n) (by have := e73; omega)
          rw [a1, a2, ← Nat.add_mul, Nat.mul_div_mul_right _ _ (two_pos q), hX]
        rw [e1, e2]
        have := num_parts s q (X * 2 ^ j) hk1 hk2 (by omega)
        rw [Nat.mul_assoc, ← Nat.pow_add, show j + q = E73 + 1 from by have := e73; omega] at this
        exact this

/-- The thousandths that a float (times 1000) stands for. -/
def toFix (p : Nat) : Option Int := match double.read p with
  | .number s m e => if m * 2 ^ (e - double.leastPlace).toNat < 2000000001 * HALF then some (sg s (rnd (m * 2 ^ (e - double.leastPlace).toNat))) else none
  | _ => none
theorem toFix_num {p : Nat} {s : Bool} {u : Nat} (h : Num double p s u) : toFix p = if u < 2000000001 * HALF then some (sg s (rnd u)) else none := by
  obtain ⟨m, e, h, _, rfl⟩ := h
  unfold toFix
  rw [h]

/-- A word, taken apart. -/
theorem word_parts (p : Nat) (h : p < 2 ^ 64) : ∃ s r, p = double.word s r ∧ r < 2 ^ 63 := by
  rcases Nat.lt_or_ge p (2 ^ 63) with h1 | h1
  · exact ⟨false, p, by unfold Format.word; simp, h1⟩
  · exact ⟨true, p - 2 ^ 63, by unfold Format.word; rw [sw64]; simp; omega, by omega⟩
/-- A great number is beyond every bound. -/
theorem big_num (s : Bool) (r : Nat) (h : 1075 ≤ r / 2 ^ 52) (h1 : r < 2047 * 2 ^ 52) : ∃ u, Num double (double.word s r) s u ∧ 2000000001 * HALF ≤ u := by
  obtain ⟨q, M, hr, hM1, hM2, hq⟩ := rung_parts r (by omega)
  refine ⟨M * 2 ^ q, by rw [hr]; exact num_parts s q M hM1 (by omega) (by omega), ?_⟩
  have h2 : 2 ^ 52 * HALF ≤ M * 2 ^ q := Nat.mul_le_mul hM1 (pow_le (by have := e73; omega))
  have h3 : 2000000001 * HALF ≤ 2 ^ 52 * HALF := Nat.mul_le_mul_right _ (by omega)
  exact Nat.le_trans h3 h2

/-! ### Bits -/
theorem word_val (s : Bool) (r : Nat) : double.word s r = s.toNat * 2 ^ 63 + r := by unfold Format.word; rw [sw64]; cases s <;> simp
theorem word_lt64 (s : Bool) (r : Nat) (h : r < 2 ^ 63) : double.word s r < 18446744073709551616 := by rw [word_val]; cases s <;> simp <;> omega
theorem bit_sign (s : Bool) (r : Nat) (h : r < 2 ^ 63) : bits BinOp.and IntKind.u64 (double.word s r : Nat) 9223372036854775808 = ((double.word s 0 : Nat) : Int) := by
  have h1 := u64_and_nat (double.word s r) 9223372036854775808 (word_lt64 s r h) (by decide)
  rw [show ((9223372036854775808 : Nat) : Int) = 9223372036854775808 from rfl] at h1
  rw [h1, show (9223372036854775808 : Nat) = 2 ^ 63 from rfl]
  congr 1
  have h2 : (double.word s r).testBit 63 = s := by
    rw [Nat.testBit_eq_decide_div_mod_eq, word_val]
    cases s
    · simp; omega
    · simp; omega
  apply Nat.eq_of_testBit_eq
  intro i
  rw [Nat.testBit_and, Nat.testBit_two_pow, word_val s 0, Nat.add_zero]
  by_cases hi : 63 = i
  · subst hi
    rw [h2]
    cases s
    · simp
    · simp only [Bool.toNat_true, Nat.one_mul, Bool.true_and]
      rw [Nat.testBit_two_pow]
      simp
  · cases s
    · simp [hi]
    · simp only [hi, decide_false, Bool.and_false, Bool.toNat_true, Nat.one_mul]
      rw [Nat.testBit_two_pow]
      simp [hi]
theorem bit_exp (s : Bool) (r : Nat) (h : r < 2 ^ 63) : bits BinOp.and IntKind.u64 ((double.word s r : Nat) / 4503599627370496) 2047 = ((r / 2 ^ 52 : Nat) : Int) := by
  have hlt := word_lt64 s r h
  have h1 := u64_and_nat (double.word s r / 4503599627370496) 2047 (by omega) (by decide)
  rw [show ((double.word s r / 4503599627370496 : Nat) : Int) = (double.word s r : Nat) / 4503599627370496 by omega, show ((2047 : Nat) : Int) = 2047 from rfl] at h1
  rw [h1, show (2047 : Nat) = 2 ^ 11 - 1 from rfl, Nat.and_two_pow_sub_one_eq_mod]
  congr 1
  rw [word_val]
  cases s <;> simp <;> omega
theorem bit_one (s : Bool) : bits BinOp.or IntKind.u64 (double.word s 0 : Nat) 4607182418800017408 = ((double.word s (1023 * 2 ^ 52) : Nat) : Int) := by
  cases s <;> decide +kernel
theorem bit_abs (s : Bool) (r : Nat) (h : r < 2 ^ 63) : bits BinOp.andNot IntKind.u64 (double.word s r : Nat) 9223372036854775808 = ((r : Nat) : Int) := by
  have h1 := u64_andNot_nat (double.word s r) 9223372036854775808 (word_lt64 s r h) (by decide)
  rw [show ((9223372036854775808 : Nat) : Int) = 9223372036854775808 from rfl] at h1
  rw [h1, show (18446744073709551615 - 9223372036854775808 : Nat) = 2 ^ 63 - 1 from rfl, Nat.and_two_pow_sub_one_eq_mod]
  congr 1
  rw [word_val]
  cases s <;> simp <;> omega
theorem clear_low (a k : Nat) (ha : a < 18446744073709551616) (hk : k ≤ 63) : a &&& (18446744073709551615 - (2 ^ k - 1)) = a / 2 ^ k * 2 ^ k := by
  apply Nat.eq_of_testBit_eq
  intro i
  have hkp := two_pos k
  have hk2 : 2 ^ k ≤ 2 ^ 63 := pow_le hk
  rw [Nat.testBit_and, show 18446744073709551615 - (2 ^ k - 1) = 2 ^ 64 - ((2 ^ k - 1) + 1) by omega, Nat.testBit_two_pow_sub_succ (by omega), Nat.testBit_two_pow_sub_one, Nat.testBit_mul_two_pow, Nat.testBit_div_two_pow]
  by_cases h1 : i < k
  · have h2 : ¬ k ≤ i := by omega
    simp [h1, h2]
  · have h2 : k ≤ i := by omega
    simp only [h1, h2, decide_false, decide_true, Bool.not_false, Bool.and_true, Bool.true_and, ge_iff_le]
    rw [show i - k + k = i by omega]
    by_cases h3 : i < 64
    · simp [h3]
    · have h4 : a.testBit i = false := Nat.testBit_lt_two_pow (Nat.lt_of_lt_of_le ha (pow_le (a := 64) (by omega)))
      simp [h4]
theorem sh_half : ∀ x : Fin 52, (2251799813685248 : Int) / 2 ^ x.val = ((2 ^ (51 - x.val) : Nat) : Int) := by decide +kernel
theorem sh_mask : ∀ x : Fin 52, (4503599627370495 : Int) / 2 ^ x.val = ((2 ^ (52 - x.val) - 1 : Nat) : Int) := by decide +kernel
/-- The bits of the rounded word, as Go's text makes them. -/
theorem bit_mid (s : Bool) (r : Nat) (h : r < 2 ^ 63) (h1 : 1023 ≤ r / 2 ^ 52) (h2 : r / 2 ^ 52 < 1075) :
    bits BinOp.andNot IntKind.u64 (IntKind.u64.wrap ((double.word s r : Nat) + 2251799813685248 / 2 ^ (r / 2 ^ 52 - 1023))) (4503599627370495 / 2 ^ (r / 2 ^ 52 - 1023)) = ((double.word s (rndRung r) : Nat) : Int) := by
  generalize hE : r / 2 ^ 52 = E at h1 h2
  have a1 := sh_half ⟨E - 1023, by omega⟩
  have a2 := sh_mask ⟨E - 1023, by omega⟩
  simp only at a1 a2
  rw [a1, a2, show 51 - (E - 1023) = 1074 - E by omega, show 52 - (E - 1023) = 1075 - E by omega]
  obtain ⟨j, hj⟩ : ∃ j, j = 1075 - E := ⟨_, rfl⟩
  have hj52 : j ≤ 52 := by omega
  rw [show 1074 - E = j - 1 by omega, ← hj]
  have hh : 2 ^ (j - 1) ≤ 2 ^ 51 := pow_le (by omega)
  have hr2 : r < 1075 * 2 ^ 52 := by omega
  have hw := word_val s r
  have hlt : double.word s r + 2 ^ (j - 1) < 18446744073709551616 := by rw [hw]; cases s <;> simp <;> omega
  have hwrap : IntKind.u64.wrap ((double.word s r : Nat) + ((2 ^ (j - 1) : Nat) : Int)) = ((double.word s r + 2 ^ (j - 1) : Nat) : Int) := by
    rw [← Int.natCast_add]
    have hu : ∀ x : Int, IntKind.u64.wrap x = x % 18446744073709551616 := fun x => by simp [IntKind.wrap, IntKind.bits, IntKind.signed]
    rw [hu]
    exact Int.emod_eq_of_lt (Int.natCast_nonneg _) (Int.ofNat_lt.2 hlt)
  have hp := two_pos j
  have hp2 : 2 ^ j ≤ 2 ^ 52 := pow_le hj52
  rw [hwrap, u64_andNot_nat _ _ hlt (by omega), clear_low _ _ hlt (by omega)]
  congr 1
  have e1 : rndRung r = (r + 2 ^ (j - 1)) / 2 ^ j * 2 ^ j := by
    unfold rndRung
    rw [hE, if_neg (by omega), if_neg (by omega), if_pos h2, show 1074 - E = j - 1 by omega, ← hj]
  have h63 : 2 ^ (63 - j) * 2 ^ j = 2 ^ 63 := by rw [← Nat.pow_add]; congr 1; omega
  rw [e1, hw, word_val, Nat.add_assoc, Nat.add_comm (s.toNat * 2 ^ 63), ← h63, ← Nat.mul_assoc, Nat.add_mul_div_right _ _ hp, Nat.add_mul]
  omega

/-! ### Constants, and what is left over -/
theorem num_halves (b : Nat) (s : Bool) (k j : Nat) (h : double.read b = .number s (k * 2 ^ j) (-((j : Int) + 1))) (hj : j ≤ 1073) : Num double b s (k * HALF) := by
  have hL : double.leastPlace = -1074 := by decide
  refine ⟨_, _, h, by omega, ?_⟩
  unfold HALF
  rw [Nat.mul_assoc, ← Nat.pow_add]
  exact congrArg (fun n => k * 2 ^ n) (by have := e73; omega)
theorem c_max : Num double 4741671816366391296 false (2000000000 * HALF) := num_halves _ _ _ 22 (by decide +kernel) (by omega)
theorem c_hi : Num double 4741671816370585600 false (2000000001 * HALF) := num_halves _ _ _ 22 (by decide +kernel) (by omega)
theorem c_lo : Num double 13965043853225361408 true (2000000001 * HALF) := num_halves _ _ _ 22 (by decide +kernel) (by omega)
theorem c_half : Num double 4602678819172646912 false (1 * HALF) := num_halves _ _ _ 52 (by decide +kernel) (by omega)
theorem c_neg : Num double 13826050856027422720 true (1 * HALF) := num_halves _ _ _ 52 (by decide +kernel) (by omega)

theorem read_bound {f : Format} {b : Nat} {s : Bool} {m : Nat} {e : Int} (h : f.read b = .number s m e) : m < 2 ^ (f.fractionBits + 1) := by
  have hb : 0 < f.binade := two_pos _
  have h2 : 2 ^ (f.fractionBits + 1) = 2 * f.binade := Nat.pow_succ'
  unfold Format.read at h
  simp only at h
  split at h
  · simp only [Datum.number.injEq] at h; omega
  · split at h
    · simp only [Datum.number.injEq] at h
      have := Nat.mod_lt (b % f.signWeight) hb
      omega
    · split at h <;> cases h
theorem rep_num {f : Format} {b : Nat} {s : Bool} {u : Nat} (h : Num f b s u) : Rep f u := by
  obtain ⟨m, e, h, _, rfl⟩ := h
  exact ⟨m, _, rfl, read_bound h⟩
theorem rep_mod {f : Format} {u : Nat} (h : Rep f u) (t : Nat) : Rep f (u % 2 ^ t) := by
  obtain ⟨n, k, rfl, hn⟩ := h
  rcases Nat.le_total t k with hk | hk
  · have : n * 2 ^ k % 2 ^ t = 0 := by
      rw [show k = (k - t) + t by omega, Nat.pow_add, ← Nat.mul_assoc, Nat.mul_mod_left]
    rw [this]; exact rep_zero f
  · refine ⟨n % 2 ^ (t - k), k, ?_, ?_⟩
    · conv => lhs; rw [show t = (t - k) + k by omega, Nat.pow_add]
      rw [Nat.mul_mod_mul_right]
    · exact Nat.lt_of_le_of_lt (Nat.mod_le _ _) hn
theorem sg_self (T : Int) (b : Bool) : sg (if T = 0 then b else decide (T < 0)) T.natAbs = T := by
  unfold sg
  by_cases h : T = 0
  · subst h; simp
  · rw [if_neg h]
    by_cases h2 : T < 0
    · simp [h2]; omega
    · simp [h2]; omega
theorem cmp_lt {a b : Int} (h : a < b) : compare a b = .lt := Int.compare_eq_lt.2 h
theorem cmp_gt {a b : Int} (h : b < a) : compare a b = .gt := Int.compare_eq_gt.2 h
theorem cmp_eq {a b : Int} (h : a = b) : compare a b = .eq := Int.compare_eq_eq.2 h
theorem rnd_parts (u : Nat) : rnd u = u / ONE + (if u % ONE < HALF then 0 else 1) := by
  have ho := one_two
  have hp := half_pos
  have hd := Nat.div_add_mod u ONE
  have hm := Nat.mod_lt u (show 0 < ONE by omega)
  unfold rnd
  generalize u / ONE = q at *
  generalize u % ONE = r at *
  have hc : ONE * q = q * ONE := Nat.mul_comm _ _
  by_cases h : r < HALF
  · rw [if_pos h, Nat.add_zero]
    apply Nat.div_eq_of_lt_le
    · omega
    · rw [Nat.succ_mul]; omega
  · rw [if_neg h]
    apply Nat.div_eq_of_lt_le
    · rw [Nat.add_mul]; omega
    · rw [Nat.succ_mul, Nat.add_mul]; omega
theorem rnd_le {u : Nat} (h : u < 2000000001 * HALF) : rnd u ≤ 1000000000 := by
  have ho := one_two
  unfold rnd
  apply Nat.le_of_lt_succ
  apply (Nat.div_lt_iff_lt_mul (by have := half_pos; omega)).2
  rw [ho]; omega
theorem rnd_gt {u : Nat} (h : ¬ u < 2000000001 * HALF) : 1000000001 ≤ rnd u := by
  have ho := one_two
  unfold rnd
  apply (Nat.le_div_iff_mul_le (by have := half_pos; omega)).2
  rw [ho]; omega

theorem whole_sg (s : Bool) (q one : Nat) : sg (decide (sg s q < 0)) (q * one) = sg s (q * one) := by
  by_cases hq0 : q = 0
  · subst hq0
    rw [Nat.zero_mul]
    cases s <;> rfl
  · have hb : decide (sg s q < 0) = s := by
      cases s
      · show decide ((q : Int) < 0) = false
        simp
      · show decide (-(q : Int) < 0) = true
        simp; omega
    rw [hb]
theorem left_core (p : Nat) (s : Bool) (u one half C : Nat) (hp : Num double p s u) (hu : u < 2000000001 * half) (ho : one = 2 * half) (hh : 0 < half) (hunit : 2 ^ unit double = one) (hcapO : one * 2000000000 < 2 ^ C) (hC : C = cap double)
    (hrep : Rep double (u % one)) (ch : Num double 4602678819172646912 false half) (cn : Num double 13826050856027422720 true half) :
    ∃ f, double.sub p (double.nearest (decide (sg s (u / one) < 0)) (u / one) 0) = some f ∧
      double.order f 4602678819172646912 = some (compare (sg s (u % one)) (half : Int)) ∧ double.order f 13826050856027422720 = some (compare (sg s (u % one)) (-(half : Int))) := by
  have hd := Nat.div_add_mod u one
  have hm := Nat.mod_lt u (show 0 < one by omega)
  have hq : u / one ≤ 1000000000 := by
    apply Nat.le_of_lt_succ
    apply (Nat.div_lt_iff_lt_mul (by omega)).2
    rw [ho]; omega
  generalize u / one = q at *
  generalize u % one = r at *
  have hc : one * q = q * one := Nat.mul_comm _ _
  have hqone : q * one ≤ 2000000000 * one := Nat.mul_le_mul_right _ (by omega)
  have h53 : q < 2 ^ (double.fractionBits + 1) := by
    have h54 : 2 ^ (double.fractionBits + 1) = 9007199254740992 := by decide
    omega
  have hint := int_num fine64 (decide (sg s q < 0)) q (rep_small h53) (by rw [hunit, ← hC]; omega)
  rw [hunit] at hint
  have hT : sg s u - sg (decide (sg s q < 0)) (q * one) = sg s r := by
    rw [whole_sg]
    have hu2 : u = q * one + r := by omega
    generalize q * one = Z at hu2
    rw [hu2]
    cases s
    · show ((Z + r : Nat) : Int) - (Z : Int) = (r : Int)
      omega
    · show -((Z + r : Nat) : Int) - -(Z : Int) = -(r : Int)
      omega
  obtain ⟨f, hf, hnum⟩ := sub_num fine64 hp hint (by rw [hT, natAbs_sg]; exact hrep) (by rw [hT, natAbs_sg, ← hC]; omega)
  refine ⟨f, hf, ?_, ?_⟩
  · have := order_num hnum ch
    rw [sg_self, hT] at this
    exact this
  · have := order_num hnum cn
    rw [sg_self, hT] at this
    exact this
theorem cap64 : cap double = 2098 := by decide
theorem one_cap (C : Nat) (hC : C = cap double) : ONE * 2000000000 < 2 ^ C := by
  have h1 : ONE * 2000000000 < ONE * 2 ^ 31 := Nat.mul_lt_mul_of_pos_left (by decide) (two_pos _)
  have h2 : ONE * 2 ^ 31 = 2 ^ (E73 + 1 + 31) := by unfold ONE; rw [← Nat.pow_add]
  have hle : E73 + 1 + 31 ≤ C := by
    have h3 := cap64
    have := e73
    omega
  rw [h2] at h1
  exact Nat.lt_of_lt_of_le h1 (pow_le hle)
theorem c_half1 : Num double 4602678819172646912 false HALF := by have := c_half; rwa [Nat.one_mul] at this
theorem c_neg1 : Num double 13826050856027422720 true HALF := by have := c_neg; rwa [Nat.one_mul] at this
/-- What the whole part leaves over, and how it stands to a half. -/
theorem left_over (p : Nat) (s : Bool) (u : Nat) (hp : Num double p s u) (hu : u < 2000000001 * HALF) :
    ∃ f, double.sub p (double.nearest (decide (sg s (u / ONE) < 0)) (u / ONE) 0) = some f ∧
      double.order f 4602678819172646912 = some (compare (sg s (u % ONE)) (HALF : Int)) ∧ double.order f 13826050856027422720 = some (compare (sg s (u % ONE)) (-(HALF : Int))) :=
  left_core p s u ONE HALF (cap double) hp hu one_two half_pos one_unit (one_cap _ rfl) rfl (rep_mod (rep_num hp) (E73 + 1)) c_half1 c_neg1
end Go.Proofs.Ytnedmhhodmmddaa.Flt
