/-
  What is proved: the walks of FromFixed and of what compares floats, and that of the law FnExactFromFixed.
  Conditions: the argument is a number of 64 bits.
-/
import Derived.Test.YtobpnoiienpipaaDoorRows
import Derived.Test.YtobpnoiienpipaaDoorPkNum
import Derived.WalkKit
import Derived.WalkSpells
import Derived.WalkLawsBesides
import Derived.Lib.Hide
namespace Go.Proofs.YtobpnoiienpipaaDoor
set_option linter.unusedVariables false
open Go.RowKit

theorem read1000 : Ieee.double.read 4652007308841189376 = .number false 8796093022208000 (-43) := by decide +kernel
theorem read1 : Ieee.double.read 4607182418800017408 = .number false 4503599627370496 (-52) := by decide +kernel
theorem read0 : Ieee.double.read 0 = .number false 0 (-1074) := by decide +kernel
theorem int_ok (n : Int) : (Ieee.double.read (floatOfInt .f64 n)).isNaN = false := Flt.nearest_ok Ieee.double _ _ _
/-- What FromFixed answers. -/
def ffBits (n : Int) : Nat := if -1000000000 ≤ n ∧ n ≤ 1000000000 then (Ieee.double.div (floatOfInt .f64 n) 4652007308841189376).getD 0 else 0
theorem ffBits_in {n : Int} (h0 : -1000000000 ≤ n) (h1 : n ≤ 1000000000) : floatBits .quo .f64 (floatOfInt .f64 n) 4652007308841189376 = some (ffBits n) := by
  obtain ⟨r, hr, _⟩ := Flt.div_some (int_ok n) read1000 (by decide)
  show Ieee.double.div _ _ = _
  unfold ffBits
  rw [if_pos ⟨h0, h1⟩, hr]; rfl
theorem ffBits_out {n : Int} (h : ¬ (-1000000000 ≤ n ∧ n ≤ 1000000000)) : ffBits n = 0 := by unfold ffBits; rw [if_neg h]
theorem ffBits_ok (n : Int) : (Ieee.double.read (ffBits n)).isNaN = false := by
  unfold ffBits
  split
  · obtain ⟨r, hr, hk⟩ := Flt.div_some (int_ok n) read1000 (by decide)
    rw [hr]; exact hk
  · rw [read0]; rfl
def FromPost (n : Int) (w : World) (e : Ending) (w' : World) : Prop := e = .returned (.float .f64 (ffBits n)) ∧ w = w'

set_option maxHeartbeats 400000 in
theorem fromFixed_any (n : Int) (w : World) (h0 : -9223372036854775808 ≤ n) (h1 : n ≤ 9223372036854775807) :
    Calls Tryd.prog 118 #[.int .i64 n] w fun e w' => FromPost n w e w' := by
  by_cases hin : -1000000000 ≤ n ∧ n ≤ 1000000000
  · have hd := fun wx => run_float_arith (P := Tryd.prog) wx .quo 76 .f64 _ _ _ (ffBits_in hin.1 hin.2)
    obtain ⟨h2, h3⟩ := hin
    go_enter Tryd.func118, Tryd.ntmps118
    go_wp2
    go_ret
    exact ⟨rfl, rfl⟩
  · have hz := ffBits_out hin
    have HZ := Lib.hid hz
    clear hz
    rcases (by omega : n < -1000000000 ∨ 1000000000 < n) with h2 | h2
    · clear hin
      go_enter Tryd.func118, Tryd.ntmps118
      go_wp2
      go_ret
      exact ⟨by rw [HZ.out]; rfl, rfl⟩
    · clear hin
      have hdd : decide (n ≤ 1000000000) = false := by simp; omega
      go_enter Tryd.func118, Tryd.ntmps118
      go_wp2
      go_ret
      exact ⟨by rw [HZ.out]; rfl, rfl⟩

set_option maxHeartbeats 400000 in
theorem specFromFixed_any (n : Int) (w : World) (h0 : -9223372036854775808 ≤ n) (h1 : n ≤ 9223372036854775807) :
    Calls Tryd.prog 94 #[.int .i64 n] w fun e w' => FromPost n w e w' := by
  by_cases hin : -1000000000 ≤ n ∧ n ≤ 1000000000
  · have hd := fun wx => run_float_arith (P := Tryd.prog) wx .quo 76 .f64 _ _ _ (ffBits_in hin.1 hin.2)
    obtain ⟨h2, h3⟩ := hin
    go_enter Tryd.func94, Tryd.ntmps94
    go_wp2
    go_ret
    exact ⟨rfl, rfl⟩
  · have hz := ffBits_out hin
    have HZ := Lib.hid hz
    clear hz
    rcases (by omega : n < -1000000000 ∨ 1000000000 < n) with h2 | h2
    · clear hin
      go_enter Tryd.func94, Tryd.ntmps94
      go_wp2
      go_ret
      exact ⟨by rw [HZ.out]; rfl, rfl⟩
    · clear hin
      have hdd : decide (n ≤ 1000000000) = false := by simp; omega
      go_enter Tryd.func94, Tryd.ntmps94
      go_wp2
      go_ret
      exact ⟨by rw [HZ.out]; rfl, rfl⟩

set_option maxHeartbeats 400000 in
/-- Two floats of the same bits, no NaN, are the same. -/
theorem sameFloat_self (a : Nat) (w : World) (ha : (Ieee.double.read a).isNaN = false) :
    Calls Tryd.prog 65 #[.float .f64 a, .float .f64 a] w fun e w' => e = .returned (.bool true) ∧ w = w' := by
  have hs : (FloatKind.f64.format.order a a) = some .eq := Flt.order_self ha
  cases hz : FloatKind.f64.format.order a 0 == some .eq
  · go_enter Tryd.func65, Tryd.ntmps65
    go_wp2
    go_ret
    exact ⟨rfl, rfl⟩
  · obtain ⟨s, i, he⟩ := Flt.eq_zero read0 (eq_of_beq hz)
    obtain ⟨r, hr⟩ := Flt.div_zero read1 (by decide) he
    have hd := fun wx => run_float_arith (P := Tryd.prog) wx .quo 76 .f64 _ _ r (show floatBits .quo .f64 _ _ = _ from hr)
    clear he hr
    go_enter Tryd.func65, Tryd.ntmps65
    go_wp2
    go_ret
    exact ⟨by simp, rfl⟩

end Go.Proofs.YtobpnoiienpipaaDoor
