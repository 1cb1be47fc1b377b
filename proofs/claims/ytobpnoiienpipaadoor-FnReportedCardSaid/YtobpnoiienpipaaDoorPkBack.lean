/-
  What is proved: the walks of FromFixed and of what compares floats, and that of the law FnExactFromFixed.
  Conditions: the argument is a number of 64 bits.
-/
import Derived.Test.YtobpnoiienpipaaDoorRows
import Derived.Test.YtobpnoiienpipaaDoorPkNum
import Derived.WalkKit
import Derived.WalkSpells
import Derived.WalkLawsBesides
import Derived.Lib.Hide
namespace Go.Proofs.YtobpnoiienpipaaDoor
set_option linter.unusedVariables false
open Go.RowKit

theorem read1000 : Ieee.double.read 4652007308841189376 = .number false 8796093022208000 (-43) := by decide +kernel
theorem read1 : Ieee.double.read 4607182418800017408 = .number false 4503599627370496 (-52) := by decide +kernel
theorem read0 : Ieee.double.read 0 = .number false 0 (-1074) := by decide +kernel
theorem int_ok (n : Int) : (Ieee.double.read (floatOfInt .f64 n)).isNaN = false := Flt.nearest_ok Ieee.double _ _ _
/-- What FromFixed answers. -/
def ffBits (n : Int) : Nat := if -1000000000 ≤ n ∧ n ≤ 1000000000 then (Ieee.double.div (floatOfInt .f64 n) 4652007308841189376).getD 0 else 0
theorem ffBits_in {n : Int} (h0 : -1000000000 ≤ n) (h1 : n ≤ 1000000000) : floatBits .quo .f64 (floatOfInt .f64 n) 4652007308841189376 = some (ffBits n) := by
  obtain ⟨r, hr, _⟩ := Flt.div_some (int_ok n) read1000 (by decide)
  show Ieee.double.div _ _ = _
  unfold ffBits
  rw [if_pos ⟨h0, h1⟩, hr]; rfl
theorem ffBits_out {n : Int} (h : ¬ (-1000000000 ≤ n ∧ n ≤ 1000000000)) : ffBits n = 0 := by unfold ffBits; rw [if_neg h]
theorem ffBits_ok (n : Int) : (Ieee.double.read (ffBits n)).isNaN = false := by
  unfold ffBits
  split
  · obtain ⟨r, hr, hk⟩ := Flt.div_some (int_ok n) read1000 (by decide)
    rw [hr]; exact hk
  · rw [read0]; rfl
def FromPost (n : Int) (w : World) (e : Ending) (w' : World) : Prop := e = .returned (.float .f64 (ffBits n)) ∧ w = w'

set_option maxHeartbeats 400000 in
theorem fromFixed_any (n : Int) (w : World) (h0 : -9223372036854775808 ≤ n) (h1 : n ≤ 9223372036854775807) :
    Calls Tryd.prog 118 #[.int .i64 n] w fun e w' => FromPost n w e w' := by
  by_cases hin : -1000000000 ≤ n ∧ n ≤ 1000000000
  · have hd := fun wx => run_float_arith (P := Tryd.prog) wx .quo 76 .f64 _ _ _ (ffBits_in hin.1 hin.2)
    obtain ⟨h2, h3⟩ := hin
    go_enter Tryd.func118, Tryd.ntmps118
    go_wp2
    go_ret
    exact ⟨rfl, rfl⟩
  · have hz := ffBits_out hin
    have HZ := Lib.hid hz
    clear hz
    rcases (by omega : n < -1000000000 ∨ 1000000000 < n) with h2 | h2
    · clear hin
      go_enter Tryd.func118, Tryd.ntmps118
      go_wp2
      go_ret
      exact ⟨by rw [HZ.out]; rfl, rfl⟩
    · clear hin
      have hdd : decide (n ≤ 1000000000) = false := by simp; omega
      go_enter Tryd.func118, Tryd.ntmps118
      go_wp2
      go_ret
      exact ⟨by rw [HZ.out]; rfl, rfl⟩

set_option maxHeartbeats 400000 in
theorem specFromFixed_any (n : Int) (w : World) (h0 : -9223372036854775808 ≤ n) (h1 : n ≤ 9223372036854775807) :
    Calls Tryd.prog 94 #[.int .i64 n] w fun e w' => FromPost n w e w' := by
  by_cases hin : -1000000000 ≤ n ∧ n ≤ 1000000000
  · have hd := fun wx => run_float_arith (P := Tryd.prog) wx .quo 76 .f64 _ _ _ (ffBits_in hin.1 hin.2)
    obtain ⟨h2, h3⟩ := hin
    go_enter Tryd.func94, Tryd.ntmps94
    go_wp2
    go_ret
    exact ⟨rfl, rfl⟩
  · have hz := ffBits_out hin
    have HZ := Lib.hid hz
    clear hz
    rcases (by omega : n < -1000000000 ∨ 1000000000 < n) with h2 | h2
    · clear hin
      go_enter Tryd.func94, Tryd.ntmps94
      go_wp2
      go_ret
      exact ⟨by rw [HZ.out]; rfl, rfl⟩
    · clear hin
      have hdd : decide (n ≤ 1000000000) = false := by simp; omega
      go_enter Tryd.func94, Tryd.ntmps94
      go_wp2
      go_ret
      exact ⟨by rw [HZ.out]; rfl, rfl⟩

set_option maxHeartbeats 400000 in
/-- Two floats of the same bits, no NaN, are the same. -/
theorem sameFloat_self (a : Nat) (w : World) (ha : (Ieee.double.read a).isNaN = false) :
    Calls Tryd.prog 65 #[.float .f64 a, .float .f64 a] w fun e w' => e = .returned (.bool true) ∧ w = w' := by
  have hs : (FloatKind.f64.format.order a a) = some .eq := Flt.order_self ha
  cases hz : FloatKind.f64.format.order a 0 == some .eq
  · go_enter Tryd.func65, Tryd.ntmps65
    go_wp2
    go_ret
    exact ⟨rfl, rfl⟩
  · obtain ⟨s, i, he⟩ := Flt.eq_zero read0 (eq_of_beq hz)
    obtain ⟨r, hr⟩ := Flt.div_zero read1 (by decide) he
    have hd := fun wx => run_float_arith (P := Tryd.prog) wx .quo 76 .f64 _ _ r (show floatBits .quo .f64 _ _ = _ from hr)
    clear he hr
    go_enter Tryd.func65, Tryd.ntmps65
    go_wp2
    go_ret
    exact ⟨by simp, rfl⟩

end Go.Proofs.YtobpnoiienpipaaDoor

/-
  What is proved: a number of thousandths, as a float, is that number again: the error of the two roundings.
  Conditions: none.
-/
namespace Go.Proofs.YtobpnoiienpipaaDoor.Flt
set_option linter.unusedVariables false
open Ieee

theorem place64 : double.leastPlace = -1074 := by decide
theorem frac64 : double.fractionBits = 52 := rfl
theorem one_pow (k : Nat) : ONE * 2 ^ k = 2 ^ (E73 + 1 + k) := by unfold ONE; rw [← Nat.pow_add]
theorem pow_lt {a b : Nat} (h : 2 ^ a < 2 ^ b) : a < b := (Nat.pow_lt_pow_iff_right (by decide : 1 < 2)).1 h

/-- Rounding a number below 2^K: off by at most half a unit of its last place. -/
theorem near64 (s : Bool) (mag : Nat) (place : Int) (hm : mag ≠ 0) (hp : -1074 ≤ place) (K : Nat) (hK : K ≤ 53) (v : Nat) (hv : v = mag * 2 ^ (place + 1074).toNat) (hlt : v < ONE * 2 ^ K) :
    ∃ u e, Num double (double.nearest s mag place) s u ∧ e * 2 ^ (53 - K) ≤ ONE ∧ 2 * u ≤ 2 * v + e ∧ 2 * v ≤ 2 * u + e := by
  have he := e73
  have hl2 : 2 ^ mag.log2 ≤ mag := Nat.log2_self_le hm
  have hlog : mag.log2 + (place + 1074).toNat < E73 + 1 + K := by
    apply pow_lt
    rw [← one_pow, Nat.pow_add]
    refine Nat.lt_of_le_of_lt ?_ hlt
    rw [hv]
    exact Nat.mul_le_mul_right _ hl2
  obtain ⟨last, hlast⟩ : ∃ last, last = max (place + mag.log2 - double.fractionBits) double.leastPlace := ⟨_, rfl⟩
  obtain ⟨c, hc⟩ : ∃ c, c = (place - last).toNat := ⟨_, rfl⟩
  obtain ⟨d, hd⟩ : ∃ d, d = (last - place).toNat := ⟨_, rfl⟩
  have hlast2 : last = max (place + mag.log2 - (52 : Nat)) (-1074) := by rw [hlast, place64, frac64]
  have hcut : Toward.even.cut s (mag * 2 ^ c) d ≤ 2 ^ 53 := by
    apply cut_le
    have h1 : mag.log2 + 1 + c ≤ 53 + d := by omega
    have h2 : 2 ^ (mag.log2 + 1 + c) ≤ 2 ^ (53 + d) := pow_le h1
    have h3 : mag * 2 ^ c ≤ 2 ^ (mag.log2 + 1) * 2 ^ c := Nat.mul_le_mul_right _ (Nat.le_of_lt (lt_log mag))
    rw [← Nat.pow_add] at h3
    rw [← Nat.pow_add]
    exact Nat.le_trans h3 h2
  have hq : (last - double.leastPlace).toNat ≤ 1074 := by rw [place64]; omega
  have hn := num_nearest double s mag place hm last hlast c d hc hd (by
    rw [bin64, inf64]
    have := Nat.mul_le_mul_right (2 ^ 52) hq
    omega)
  have hnear := cut_near s (mag * 2 ^ c) d
  generalize Toward.even.cut s (mag * 2 ^ c) d = k at hn hnear
  rw [place64] at hn
  refine ⟨_, 2 ^ (last - -1074).toNat, hn, ?_, ?_, ?_⟩
  · unfold ONE
    rw [← Nat.pow_add]
    exact pow_le (by omega)
  all_goals
    by_cases hpl : last ≤ place
    · have hd0 : d = 0 := by omega
      subst hd0
      rw [Nat.pow_zero, Nat.mul_one] at hnear
      have hk : k = mag * 2 ^ c := by omega
      have : k * 2 ^ (last - -1074).toNat = v := by
        rw [hk, Nat.mul_assoc, ← Nat.pow_add, hv]
        congr 2
        omega
      rw [this]
      exact Nat.le_add_right _ _
    · have hc0 : c = 0 := by omega
      subst hc0
      rw [Nat.pow_zero, Nat.mul_one] at hnear
      have e1 : k * 2 ^ (last - -1074).toNat = k * 2 ^ d * 2 ^ (place + 1074).toNat := by
        rw [Nat.mul_assoc, ← Nat.pow_add]
        congr 2
        omega
      have e2 : 2 ^ (last - -1074).toNat = 2 ^ d * 2 ^ (place + 1074).toNat := by
        rw [← Nat.pow_add]
        congr 1
        omega
      rw [e1, hv]
      have h1 := Nat.mul_le_mul_right (2 ^ (place + 1074).toNat) hnear.1
      have h2 := Nat.mul_le_mul_right (2 ^ (place + 1074).toNat) hnear.2
      rw [e2]
      first | simpa only [Nat.add_mul, Nat.mul_assoc] using h1 | simpa only [Nat.add_mul, Nat.mul_assoc] using h2

theorem nearly (O a v1 G u e1 p e2 : Nat) (ha : 1 ≤ a) (h : a ≤ 1000000000) (hG : G * 17179869184 ≤ O) (k1 : a * O ≤ 1000 * v1 + 1000 * G) (k2 : 1000 * v1 ≤ a * O + 1000 * G)
    (he1 : e1 * 8589934592 ≤ O) (k3 : 2 * u ≤ 2 * v1 + e1) (k4 : 2 * v1 ≤ 2 * u + e1) (he2 : e2 * 8388608 ≤ O) (k5 : 2 * p ≤ 2 * (1000 * u) + e2) (k6 : 2 * (1000 * u) ≤ 2 * p + e2) (hO : 0 < O) :
    2 * p < 2 * (a * O) + O ∧ 2 * (a * O) < 2 * p + O := by omega

theorem mul_pow_congr {m a b : Nat} (h : a = b) : m * 2 ^ a = m * 2 ^ b := by rw [h]
theorem log_le {a k : Nat} (ha : a ≠ 0) (h : a < 2 ^ (k + 1)) : a.log2 ≤ k := by
  have h1 := Nat.log2_self_le ha
  have := pow_lt (Nat.lt_of_le_of_lt h1 h)
  omega

theorem quo_near (D N : Nat) (hN : 0 < N) : N * (2 * (D / N) + (D % N != 0).toNat) ≤ 2 * D + N ∧ 2 * D ≤ N * (2 * (D / N) + (D % N != 0).toNat) + N := by
  have h1 := Nat.div_add_mod D N
  have h2 := Nat.mod_lt D hN
  generalize D / N = q at *
  generalize D % N = r at *
  by_cases h0 : r = 0
  · subst h0
    simp only [bne_self_eq_false, Bool.toNat_false, Nat.add_zero]
    rw [Nat.mul_left_comm]
    omega
  · have hb : (r != 0) = true := by simpa using h0
    rw [hb, Bool.toNat_true, Nat.mul_add, Nat.mul_left_comm, Nat.mul_one]
    omega

theorem n1000 : Nat.log2 8796093022208000 = 52 := by decide +kernel

theorem back_pos (a : Nat) (s : Bool) (ha : 0 < a) (h : a ≤ 1000000000) (x : Nat) (hx : Num double x s (a * ONE)) :
    ∃ r p, double.div x 4652007308841189376 = some r ∧ double.mul r 4652007308841189376 = some p ∧ toFix p = some (sg s a) ∧ ∃ u, Num double r s u ∧ u ≤ ONE * 2097152 ∧ 1000000 * (1000 * u) ≤ 1000000 * (a * ONE) + ONE ∧ 1000000 * (a * ONE) ≤ 1000000 * (1000 * u) + ONE := by
  have he := e73
  have hone : 0 < ONE := two_pos _
  obtain ⟨m, i, hr, hi, hu⟩ := hx
  have hmb := read_bound hr
  rw [frac64] at hmb
  rw [place64] at hi hu
  have hm0 : m ≠ 0 := by
    intro e; subst e
    rw [Nat.zero_mul] at hu
    have := Nat.mul_pos ha hone
    omega
  have hml : m.log2 ≤ 52 := log_le hm0 hmb
  have hal : a.log2 ≤ 29 := log_le (by omega) (by omega)
  have hlg : a.log2 + (E73 + 1) = m.log2 + (i - -1074).toNat := by
    rw [← log_shift (by omega : a ≠ 0), ← log_shift hm0, ← hu]
    rfl
  -- the quotient
  obtain ⟨more, hmore⟩ : ∃ more, more = 52 + 2 + 52 - m.log2 := ⟨_, rfl⟩
  obtain ⟨D, hD⟩ : ∃ D, D = m * 2 ^ more := ⟨_, rfl⟩
  obtain ⟨q, hq⟩ : ∃ q, q = 2 * (D / 8796093022208000) + (D % 8796093022208000 != 0).toNat := ⟨_, rfl⟩
  obtain ⟨pl, hpl⟩ : ∃ pl, pl = i - -43 - more - 1 := ⟨_, rfl⟩
  have hdiv : double.div x 4652007308841189376 = some (double.nearest s q pl) := by
    unfold Format.div
    rw [hr, read1000]
    simp only [Datum.quotient]
    rw [if_neg (by decide)]
    simp only [Option.map_some, Format.write, n1000, shl, frac64]
    rw [← hmore, ← hD, ← hq, ← hpl]
    simp
  have hqn := quo_near D 8796093022208000 (by decide)
  rw [← hq] at hqn
  obtain ⟨G, hG⟩ : ∃ G, G = 2 ^ (pl + 1074).toNat := ⟨_, rfl⟩
  have hGO : G * 17179869184 ≤ ONE := by
    rw [hG, show (17179869184 : Nat) = 2 ^ 34 by decide, ← Nat.pow_add]
    exact pow_le (by omega)
  have hDG : 2 * D * G = a * ONE * 8796093022208 := by
    have l : 2 * (m * 2 ^ more) * 2 ^ (pl + 1074).toNat = m * 2 ^ (1 + more + (pl + 1074).toNat) := by rw [Nat.pow_add, Nat.pow_add, Nat.pow_one]; ac_rfl
    have r : m * 2 ^ (i - -1074).toNat * 2 ^ 43 = m * 2 ^ ((i - -1074).toNat + 43) := by rw [Nat.mul_assoc, ← Nat.pow_add]
    rw [hD, hG, hu, show (8796093022208 : Nat) = 2 ^ 43 by decide, l, r]
    exact mul_pow_congr (by omega)
  obtain ⟨v1, hv1⟩ : ∃ v1, v1 = q * G := ⟨_, rfl⟩
  have hk : a * ONE ≤ 1000 * v1 + 1000 * G ∧ 1000 * v1 ≤ a * ONE + 1000 * G := by
    have h1 := Nat.mul_le_mul_right G hqn.1
    have h2 := Nat.mul_le_mul_right G hqn.2
    have e : 8796093022208000 * q * G = 8796093022208000 * v1 := by rw [hv1, Nat.mul_assoc]
    rw [Nat.add_mul, hDG, e] at h1 h2
    omega
  have hq0 : q ≠ 0 := by
    intro e
    rw [e, Nat.zero_mul] at hv1
    have : 1 * ONE ≤ a * ONE := Nat.mul_le_mul_right _ ha
    omega
  have haO : a * ONE ≤ 1000000000 * ONE := Nat.mul_le_mul_right _ h
  have haO1 : 1 * ONE ≤ a * ONE := Nat.mul_le_mul_right _ ha
  obtain ⟨u, e1, hnu, he1, k3, k4⟩ := near64 s q pl hq0 (by omega) 20 (by decide) v1 (by rw [hv1, hG]) (by omega)
  -- the product
  have hnu0 := hnu
  obtain ⟨m2, i2, hr2, hi2, hu2⟩ := hnu
  have hmb2 := read_bound hr2
  rw [frac64] at hmb2
  rw [place64] at hi2 hu2
  have he1' : e1 * 8589934592 ≤ ONE := he1
  have hub : ONE < u * 2048 := by omega
  have hm20 : m2 ≠ 0 := by
    intro e; subst e
    rw [Nat.zero_mul] at hu2
    omega
  have hi2b : -64 < i2 := by
    have h1 : 2 ^ (E73 + 1) < 2 ^ (53 + (i2 - -1074).toNat + 11) := by
      refine Nat.lt_of_lt_of_le (show 2 ^ (E73 + 1) < u * 2048 from hub) ?_
      rw [hu2, Nat.pow_add, Nat.pow_add]
      exact Nat.mul_le_mul_right _ (Nat.mul_le_mul_right _ (Nat.le_of_lt hmb2))
    have := pow_lt h1
    omega
  obtain ⟨v2, hv2⟩ : ∃ v2, v2 = m2 * 8796093022208000 * 2 ^ (i2 + -43 + 1074).toNat := ⟨_, rfl⟩
  have hv2u : v2 = 1000 * u := by
    have l : m2 * (1000 * 2 ^ 43) * 2 ^ (i2 + -43 + 1074).toNat = 1000 * (m2 * 2 ^ (43 + (i2 + -43 + 1074).toNat)) := by rw [Nat.pow_add]; ac_rfl
    rw [hv2, hu2, show (8796093022208000 : Nat) = 1000 * 2 ^ 43 by decide, l]
    exact congrArg (fun z => 1000 * z) (mul_pow_congr (by omega))
  obtain ⟨p, e2, hnp, he2, k5, k6⟩ := near64 s (m2 * 8796093022208000) (i2 + -43) (Nat.mul_ne_zero hm20 (by decide)) (by omega) 30 (by decide) v2 hv2 (by omega)
  have he2' : e2 * 8388608 ≤ ONE := he2
  refine ⟨_, double.nearest s (m2 * 8796093022208000) (i2 + -43), hdiv, ?_, ?_, u, hnu0, by omega, by omega, by omega⟩
  · unfold Format.mul
    rw [hr2, read1000]
    simp [Datum.product, Format.write]
  · rw [toFix_num hnp]
    rw [hv2u] at k5 k6
    obtain ⟨f1, f2⟩ := nearly ONE a v1 G u e1 p e2 ha h hGO hk.1 hk.2 he1' k3 k4 he2' k5 k6 hone
    have ho := one_two
    have hh := half_pos
    have hnear2 : 2 * p < 2 * (1000000000 * ONE) + ONE := by omega
    have hr : rnd p = a := by
      unfold rnd
      generalize ONE = O at *
      generalize HALF = H at *
      apply Nat.div_eq_of_lt_le
      · omega
      · rw [Nat.add_mul]; omega
    rw [if_pos (by omega), hr]

end Go.Proofs.YtobpnoiienpipaaDoor.Flt
namespace Go.Proofs.YtobpnoiienpipaaDoor
open Go.RowKit
/-- A NUMBER OF THOUSANDTHS, AS A FLOAT, IS THAT NUMBER AGAIN. -/
theorem back {n : Int} (h0 : -1000000000 ≤ n) (h1 : n ≤ 1000000000) : ∃ p, Ieee.double.mul (ffBits n) 4652007308841189376 = some p ∧ Flt.toFix p = some n := by
  by_cases hz : n = 0
  · subst hz
    have e : ffBits 0 = 0 := by decide +kernel
    rw [e]
    exact ⟨_, (by decide +kernel : Ieee.double.mul 0 4652007308841189376 = some 0), by decide +kernel⟩
  · have hnum : Flt.Num Ieee.double (floatOfInt .f64 n) (decide (n < 0)) (n.natAbs * Flt.ONE) := by
      have := Flt.int_num Flt.fine64 (decide (n < 0)) n.natAbs (Flt.rep_small (by rw [Flt.frac64]; omega)) (by
        rw [Flt.one_unit, Flt.cap64]
        have h2 := Flt.one_cap 2098 (by rw [Flt.cap64])
        have h3 : n.natAbs * Flt.ONE ≤ 1000000000 * Flt.ONE := Nat.mul_le_mul_right _ (by omega)
        omega)
      rw [Flt.one_unit] at this
      exact this
    obtain ⟨r, p, hd, hm, ht, _⟩ := Flt.back_pos n.natAbs _ (by omega) (by omega) _ hnum
    have e : ffBits n = r := by
      unfold ffBits
      rw [if_pos ⟨h0, h1⟩, hd]; rfl
    rw [e]
    refine ⟨p, hm, ?_⟩
    rw [ht]
    congr 1
    unfold Flt.sg
    by_cases hs : n < 0
    · rw [decide_eq_true hs, if_pos rfl]; omega
    · rw [decide_eq_false hs, if_neg (by simp)]; omega
/-- How great a number of thousandths is. -/
theorem ffBits_num (n : Int) : ∃ s u, Flt.Num Ieee.double (ffBits n) s u ∧ u ≤ Flt.ONE * 2097152 := by
  have hzero : ∃ s u, Flt.Num Ieee.double 0 s u ∧ u ≤ Flt.ONE * 2097152 := ⟨false, 0, ⟨0, -1074, read0, by rw [Flt.place64]; exact Int.le_refl _, by simp⟩, Nat.zero_le _⟩
  by_cases hin : -1000000000 ≤ n ∧ n ≤ 1000000000
  · by_cases hz : n = 0
    · subst hz
      have e : ffBits 0 = 0 := by decide +kernel
      rw [e]
      exact hzero
    · have hnum : Flt.Num Ieee.double (floatOfInt .f64 n) (decide (n < 0)) (n.natAbs * Flt.ONE) := by
        have := Flt.int_num Flt.fine64 (decide (n < 0)) n.natAbs (Flt.rep_small (by rw [Flt.frac64]; omega)) (by
          rw [Flt.one_unit, Flt.cap64]
          have h2 := Flt.one_cap 2098 (by rw [Flt.cap64])
          have h3 : n.natAbs * Flt.ONE ≤ 1000000000 * Flt.ONE := Nat.mul_le_mul_right _ (by omega)
          omega)
        rw [Flt.one_unit] at this
        exact this
      obtain ⟨r, p, hd, hm, ht, u, hu, hb, _⟩ := Flt.back_pos n.natAbs _ (by omega) (by omega) _ hnum
      have e : ffBits n = r := by
        unfold ffBits
        rw [if_pos hin, hd]; rfl
      rw [e]
      exact ⟨_, u, hu, hb⟩
  · rw [ffBits_out hin]
    exact hzero
end Go.Proofs.YtobpnoiienpipaaDoor

/-
  What is proved: a number of thousandths, narrowed to a single, is a number.
  Conditions: none.
-/
namespace Go.Proofs.YtobpnoiienpipaaDoor
set_option linter.unusedVariables false
open Go.RowKit

theorem nar_read {x : Nat} {s : Bool} {m : Nat} {e : Int} (h : Ieee.double.read x = .number s m e) (hb : m = 0 ∨ e + m.log2 ≤ 60) : floatToFloatBits .f64 x .f32 = some (Ieee.single.nearest s m e) ∧
    ∃ u, Flt.Num Ieee.single (Ieee.single.nearest s m e) s u := by
  have hnum : ∃ u, Flt.Num Ieee.single (Ieee.single.nearest s m e) s u := by
    by_cases hm : m = 0
    · refine ⟨0, ?_⟩
      have e1 : Ieee.single.nearest s m e = Ieee.single.word s 0 := by
        unfold Ieee.Format.nearest
        rw [if_pos hm]
      rw [e1]
      exact Flt.num_zero Ieee.single s (by rw [Flt.inf32]; decide)
    · have hb := hb.resolve_left hm
      obtain ⟨last, hlast⟩ : ∃ last : Int, last = max (e + m.log2 - Ieee.single.fractionBits) Ieee.single.leastPlace := ⟨_, rfl⟩
      have hf : Ieee.single.fractionBits = 23 := rfl
      have hp : Ieee.single.leastPlace = -149 := by decide
      obtain ⟨c, hc⟩ : ∃ c, c = (e - last).toNat := ⟨_, rfl⟩
      obtain ⟨d, hd⟩ : ∃ d, d = (last - e).toNat := ⟨_, rfl⟩
      refine ⟨_, Flt.num_nearest Ieee.single s m e hm last hlast c d hc hd ?_⟩
      rw [hf, hp] at hlast
      have hcut : Ieee.Toward.even.cut s (m * 2 ^ c) d ≤ 2 ^ 24 := by
        apply Flt.cut_le
        have h3 : m * 2 ^ c ≤ 2 ^ (m.log2 + 1) * 2 ^ c := Nat.mul_le_mul_right _ (Nat.le_of_lt (Flt.lt_log m))
        rw [← Nat.pow_add] at h3 ⊢
        exact Nat.le_trans h3 (Nat.pow_le_pow_right (by decide) (by omega))
      have hq : (last - Ieee.single.leastPlace).toNat ≤ 186 := by rw [hp]; omega
      have hmul : (last - Ieee.single.leastPlace).toNat * Ieee.single.binade ≤ 186 * Ieee.single.binade := Nat.mul_le_mul_right _ hq
      rw [Flt.bin32] at hmul ⊢
      rw [Flt.inf32]
      have h24 : (2 : Nat) ^ 24 = 2 * 2 ^ 23 := by decide
      have hpos : 0 < (2 : Nat) ^ 23 := by decide
      generalize (2 : Nat) ^ 23 = B at *
      omega
  refine ⟨?_, hnum⟩
  obtain ⟨u, m', e', hr, _⟩ := hnum
  unfold floatToFloatBits
  rw [if_neg (by decide)]
  have hdec : FloatKind.f64.decode x = .number s m e := h
  have henc : FloatKind.f32.encode (.number s m e) = Ieee.single.nearest s m e := rfl
  have hdec2 : FloatKind.f32.decode (Ieee.single.nearest s m e) = .number s m' e' := hr
  simp only [hdec, henc, hdec2, Ieee.Datum.isInfinity]
  rfl
theorem pow_gen (k : Nat) : (2 : Nat) ^ (k + 21) < 2 ^ (k + 22) := Nat.pow_lt_pow_right (by decide) (by omega)
theorem nar_ff (n : Int) : ∃ s m e, Ieee.double.read (ffBits n) = .number s m e ∧ (m = 0 ∨ e + m.log2 ≤ 60) := by
  obtain ⟨s, u, ⟨m, e, hr, he, hu⟩, hb⟩ := ffBits_num n
  refine ⟨s, m, e, hr, ?_⟩
  rw [Flt.place64] at he hu
  by_cases hm : m = 0
  · exact .inl hm
  · right
    have hl : 2 ^ m.log2 ≤ m := Nat.log2_self_le hm
    have h1 : 2 ^ (m.log2 + (e - -1074).toNat) ≤ Flt.ONE * 2097152 := by
      rw [Nat.pow_add]
      exact Nat.le_trans (Nat.mul_le_mul_right _ hl) (by rw [← hu]; exact hb)
    rw [show (2097152 : Nat) = 2 ^ 21 from by decide, Flt.one_pow 21] at h1
    have h4 := Flt.pow_lt (Nat.lt_of_le_of_lt h1 (pow_gen (Flt.E73 + 1)))
    have h5 := Flt.e73
    omega
end Go.Proofs.YtobpnoiienpipaaDoor
