/-
  What is proved: what the tied row says of the library's table of spaces.
  Conditions: none.
-/
import Derived.Test.YtobpnoiienpipaaDoorItoa
import Derived.Test.YtobpnoiienpipaaDoorSplit
namespace Go.Proofs.YtobpnoiienpipaaDoor
set_option linter.unusedVariables false
open Go.RowKit

theorem gTabS : Tryd.prog.globalNamed "strings.asciiSpace" = some 0 := by kernel_rfl
theorem gTabSType : (Tryd.prog.globals[0]?).map (·.type) = some 95 := by kernel_rfl
theorem tabSCells : Tryd.prog.cellsOf 95 = 256 := by kernel_rfl
theorem tabSCell : Tryd.prog.cellsOf 5 = 1 := by kernel_rfl
theorem tabS_data : (Rows.laid_strings_asciiSpace : DataW Unit) = Lib.tabData .u8 Lib.asciiSpaceTab := by kernel_rfl
theorem tabS_one {W : World} {rest : List (String × DataW Unit)} (h : laidMet Tryd.prog (("strings.asciiSpace", Rows.laid_strings_asciiSpace) :: rest) W) : TabS W :=
  Lib.tabIs_of_head (k := .u8) (zs := Lib.asciiSpaceTab) gTabS gTabSType Tryd.underlying95 Tryd.underlying5 tabSCell tabSCells (tabS_data ▸ h)
theorem TabS.lt {w : World} (h : TabS w) : 0 < w.heap.size := by
  unfold TabS Lib.TabIs World.var? at h
  rw [gTabS] at h
  simp only [Option.bind_some] at h
  rcases Nat.lt_or_ge 0 w.heap.size with h1 | h1
  · exact h1
  · simp [Array.getElem?_eq_none h1] at h
theorem TabS.below {w w' : World} (h : TabS w) (hb : Below w.heap.size w w') : TabS w' := var?_below hb gTabS h.lt h
end Go.Proofs.YtobpnoiienpipaaDoor
