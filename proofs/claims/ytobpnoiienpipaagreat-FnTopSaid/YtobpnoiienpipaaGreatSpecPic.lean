/-
  What is proved: the walk of the model's PictureOk.
  Conditions: the picture can be read.
-/
import Derived.Test.YtobpnoiienpipaaGreatPz29
namespace Go.Proofs.YtobpnoiienpipaaGreat
set_option linter.unusedVariables false
open Go.RowKit
attribute [local go_sem] run_store_float run_store_complex unary_negf neg256

def Aft (w W : World) : Prop := Below w.heap.size w W
theorem Aft.drew {w W : World} (h : Aft w W) : Aft w W.drew := Below.drew h
theorem Aft.next {w W W' : World} (h : Aft w W) (hb : Below W.heap.size W W') : Aft w W' := below_trans h hb h.size
theorem Aft.start (w : World) : Aft w w := Below.refl _ _
theorem Aft.load {w W : World} (h : Aft w W) {p : Addr} {v : Value} (hc : w.cell? p = some v) : W.cell? p = some v := (grown_of h).cell hc (by simp)

/-- A world behind w. -/
structure After (w : World) where
  W : World
  h : Aft w W
instance (w : World) : Nonempty (After w) := ⟨⟨w, Aft.start w⟩⟩
/-- A region that draws its order and whose operations and callees leave what lay in w: one walk. -/
theorem wp_region_after {P : Program} {id : Nat} {Q : Exit → Act → World → Prop} {a : Act} {w0 w : World} {l : List Oper} (hm : P.follows .mixedOrders = true) (hB : Region.lexB .any l.toArray = true) (hw : Aft w0 w)
    (h : wpQuiet P l.toArray (fun W => ∃ x : After w0, W = x.W) (fun a' => ∀ W, (∃ x : After w0, W = x.W) → Q .normal a' W) l a) : (Code.region id l.toArray true).wp P Q a w :=
  wp_region_quiet (C := fun W => ∃ x : After w0, W = x.W) hm hB ⟨⟨_, hw.drew⟩, rfl⟩ (by simpa using h)
theorem calls_after {P : Program} {f : FuncId} {args : Array Value} {w : World} {x : After w} {v : Value} (h : Calls P f args x.W fun e w' => e = .returned v ∧ Below x.W.heap.size x.W w') :
    Calls P f args x.W fun e w' => e = .returned v ∧ ∃ y : After w, w' = y.W := h.mono fun _ W' hh => ⟨hh.1, ⟨W', x.h.next hh.2⟩, rfl⟩
end Go.Proofs.YtobpnoiienpipaaGreat
