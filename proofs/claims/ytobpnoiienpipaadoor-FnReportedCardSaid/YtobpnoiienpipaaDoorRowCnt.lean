/-
  What is proved: the walk of isRowCount.
  Conditions: the number is a 64-bit one.
-/
import Derived.Test.YtobpnoiienpipaaDoorPkMean
namespace Go.Proofs.YtobpnoiienpipaaDoor
set_option linter.unusedVariables false
open Go.RowKit

/-- Is it a number of rows? -/
def rowCnt (n : Int) : Bool := decide (n % 4 = 0) && (decide (4 ≤ n) && decide (n ≤ 64))
theorem isRowCount_any (n : Int) (h0 : -9223372036854775808 ≤ n) (h1 : n ≤ 9223372036854775807) (w : World) :
    Calls Tryd.prog 47 #[.int .i64 n] w fun e w' => e = .returned (.bool (rowCnt n)) ∧ w = w' := by
  rcases Int.lt_or_le n 4 with h | h
  · have hr : rowCnt n = false := by unfold rowCnt; simp; omega
    have HR := Lib.hid hr
    clear hr
    go_enter Tryd.func47, Tryd.ntmps47
    go_wp2
    all_goals
      go_ret
      exact ⟨by rw [HR.out]; first | rfl | simp, rfl⟩
  · have hm : rowCnt n = (n % 4 == 0 && decide (n ≤ 64)) := by
      by_cases hm : n % 4 = 0 <;> simp [rowCnt, h, hm]
    have HR := Lib.hid hm
    clear hm
    go_enter Tryd.func47, Tryd.ntmps47
    go_wp2
    all_goals
      go_ret
      refine ⟨?_, rfl⟩
      rw [HR.out]
      simp_all
end Go.Proofs.YtobpnoiienpipaaDoor
