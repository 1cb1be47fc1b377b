/-
  What is proved: the exact laws' copying, comparing and marking of lists of single floats.
  Conditions: those that each fact names.
-/
import Derived.Test.YtobpnoiienpipaaDoorPkEq
import Derived.Deep.RegionWith
namespace Go.Proofs.YtobpnoiienpipaaDoor
set_option linter.unusedVariables false
open Go.RowKit
attribute [local go_sem] run_store_float run_store_complex unary_negf neg256



/-- The numbers that the laws mark with. -/
def marks (n : Nat) : List Nat := (List.range n).map fun (i : Nat) => floatOfInt .f32 ((i : Int) + 1)
theorem marks_len (n : Nat) : (marks n).length = n := by simp [marks]
theorem marks_get (n i : Nat) (h : i < (marks n).length) : (marks n)[i] = floatOfInt .f32 ((i : Int) + 1) := by simp [marks]
def MarkPost (base : Nat) (v : Value) (n : Nat) (w : World) (e : Ending) (w' : World) : Prop := e = .returned (.int .i64 ((n : Int) + 1)) ∧ FNew w' base v (marks n) ∧ w.grownBy w' v.ownBlock
theorem MarkPost.mk {base : Nat} {v : Value} {n : Nat} {w w' : World} {m : Int} (hm : m = (n : Int) + 1) (h : FNew w' base v (marks n)) (hg : w.grownBy w' v.ownBlock) : MarkPost base v n w (.returned (.int .i64 m)) w' := ⟨by rw [hm], h, hg⟩
theorem ofInt_num (n : Int) : (Ieee.single.read (floatOfInt .f32 n)).isNaN = false := Flt.nearest_ok Ieee.single (n < 0) n.natAbs 0
theorem ofInt_self (n : Int) : FloatKind.f32.format.order (floatOfInt .f32 n) (floatOfInt .f32 n) = some .eq := Flt.order_self (f := Ieee.single) (ofInt_num n)
end Go.Proofs.YtobpnoiienpipaaDoor
