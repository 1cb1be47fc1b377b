/-
  What is proved: the walk of MeanRow.
  Conditions: both rows can be read.
-/
import Derived.Test.YtobpnoiienpipaaDoorPkConj
import Derived.StillTailTactics
import Derived.Deep.AppendLies
import Derived.Deep.RegionHeld3
namespace Go.Proofs.YtobpnoiienpipaaDoor
set_option linter.unusedVariables false
open Go.RowKit
attribute [local go_sem] run_store_float run_store_complex unary_negf neg256

/-- The cell halfway between two. -/
def mid (c d : C3) : C3 := (Flt.half c.1 d.1, Flt.half c.2.1 d.2.1, Flt.half c.2.2 d.2.2)
def Finc (c : C3) : Prop := Flt.fin c.1 = true ∧ Flt.fin c.2.1 = true ∧ Flt.fin c.2.2 = true
end Go.Proofs.YtobpnoiienpipaaDoor

/-
  What is proved: the walk of MeanRow.
  Conditions: both rows can be read.
-/
namespace Go.Proofs.YtobpnoiienpipaaDoor
set_option linter.unusedVariables false
open Go.RowKit
attribute [local go_sem] run_store_float run_store_complex unary_negf neg256

def meanOk (a b : List C3) : Bool := rok a && (rok b && decide (a.length = b.length))
def MeanPost (a b : List C3) (w : World) (e : Ending) (w' : World) : Prop := ∃ v', e = .returned (.tuple #[v', .bool (meanOk a b)]) ∧ (meanOk a b = true → RowV w' v' (List.zipWith mid a b)) ∧ Below w.heap.size w w'
theorem MeanPost.no {a b : List C3} {w w' : World} {v' : Value} (h : meanOk a b = false) (hb : Below w.heap.size w w') : MeanPost a b w (.returned (.tuple #[v', .bool false])) w' := ⟨v', by rw [h], (fun e => by rw [h] at e; cases e), hb⟩
theorem MeanPost.yes {a b : List C3} {w w' : World} {v' : Value} (h : meanOk a b = true) (hr : RowV w' v' (List.zipWith mid a b)) (hb : Below w.heap.size w w') : MeanPost a b w (.returned (.tuple #[v', .bool true])) w' := ⟨v', by rw [h], fun _ => hr, hb⟩
theorem fin_at {cs : List C3} (h : rok cs = true) {k : Nat} (hk : k < cs.length) : Finc cs[k] := (rok_iff.1 h).2 _ (List.getElem_mem hk)
theorem RowV.len {w : World} {v : Value} {cs : List C3} (h : RowV w v cs) (hne : cs ≠ []) : ∃ g o cap, v = .slice (some ⟨g, o, none⟩) cs.length cap ∧ cs.length ≤ cap ∧
    ∀ i (h : i < cs.length), w.cell? ⟨g, o + i * 2, none⟩ = some (.float .f32 cs[i].1) ∧ w.cell? ⟨g, o + i * 2 + 1, none⟩ = some (.complex .f32 cs[i].2.1 cs[i].2.2) := by
  rcases h with ⟨_, h⟩ | h
  · exact absurd h hne
  · exact h
theorem RowV.lenv {w : World} {v : Value} {cs : List C3} (h : RowV w v cs) : ∃ a cap, v = .slice a cs.length cap := by
  rcases h with ⟨h, h2⟩ | ⟨g, o, cap, h, _⟩
  · subst h2; exact ⟨none, 0, h⟩
  · exact ⟨_, _, h⟩


end Go.Proofs.YtobpnoiienpipaaDoor
