/-
  What is proved: the walks of the functions that make a cell of a cell (conjugated, scaled by 1), and of the generic function that makes a row of a row.
  Conditions: those that each fact names.
-/
import Derived.Test.YtobpnoiienpipaaDoorPkCell
import Derived.Deep.RegionWith
import Derived.Laws.MakeOwn
import Derived.Laws.Rows
namespace Go.Proofs.YtobpnoiienpipaaDoor
set_option linter.unusedVariables false
open Go.RowKit
attribute [local go_sem] run_store_float run_store_complex unary_negf neg256
theorem heap_put {w : World} {b i : Nat} {c : Array Value} {t : TypeId} {v : Value} (h : w.heap[b]? = some (.cells c t (0, 0))) : (w.setCell ⟨b, i, none⟩ v).heap[b]? = some (.cells (c.setIfInBounds i v) t (0, 0)) := by
  simp [World.setCell, Array.getElem?_modify, h]



end Go.Proofs.YtobpnoiienpipaaDoor

/-
  What is proved: the walk of the generic function that makes a row of a row, over whatever function value makes a cell of a cell.
  Conditions: the row is not empty and has at most 64 cells; the function value answers a cell and writes into new memory alone.
-/
namespace Go.Proofs.YtobpnoiienpipaaDoor
set_option linter.unusedVariables false
open Go.RowKit
attribute [local go_sem] run_store_float run_store_complex unary_negf neg256



def RowPost (cs : List C3) (w : World) (e : Ending) (w' : World) : Prop := ∃ v', e = .returned v' ∧ RowV w' v' cs ∧ Below w.heap.size w w'
theorem RowPost.mk {cs : List C3} {w w' : World} {v' : Value} (h : RowV w' v' cs) (hb : Below w.heap.size w w') : RowPost cs w (.returned v') w' := ⟨v', rfl, h, hb⟩
end Go.Proofs.YtobpnoiienpipaaDoor

/-
  What is proved: the walks of Conjugate, and of ScaleRow by 1.
  Conditions: the row's numbers fit their kind; at most 1000000 cells.
-/
namespace Go.Proofs.YtobpnoiienpipaaDoor
set_option linter.unusedVariables false
open Go.RowKit
attribute [local go_sem] run_store_float run_store_complex unary_negf neg256

def cj (c : C3) : C3 := (c.1, c.2.1, Op.negFloat .f32 c.2.2)
/-- The bits fit. -/
def Fit (cs : List C3) : Prop := ∀ c ∈ cs, c.1 < 2 ^ 32 ∧ c.2.1 < 2 ^ 32 ∧ c.2.2 < 2 ^ 32
theorem cj_cj (cs : List C3) : (cs.map cj).map cj = cs := by
  rw [List.map_map]
  have : cj ∘ cj = id := by funext c; simp [cj, Flt.neg_neg32]
  rw [this, List.map_id]
theorem rok_iff {cs : List C3} : rok cs = true ↔ (1 ≤ cs.length ∧ cs.length ≤ 64) ∧ ∀ c ∈ cs, Flt.fin c.1 = true ∧ Flt.fin c.2.1 = true ∧ Flt.fin c.2.2 = true := by
  unfold rok
  rw [Bool.and_eq_true, Bool.and_eq_true, decide_eq_true_iff, decide_eq_true_iff, List.all_eq_true]
  refine and_congr Iff.rfl (forall_congr' fun c => ?_)
  unfold okc
  rw [Bool.and_eq_true, Bool.and_eq_true]
theorem rok_cj {cs : List C3} (hf : Fit cs) (h : rok cs = true) : rok (cs.map cj) = true := by
  obtain ⟨h1, h2⟩ := rok_iff.1 h
  refine rok_iff.2 ⟨by simpa using h1, fun c hc => ?_⟩
  obtain ⟨d, hd, rfl⟩ := List.mem_map.1 hc
  obtain ⟨g1, g2, g3⟩ := h2 d hd
  exact ⟨g1, g2, Flt.fin_neg (hf d hd).2.2 g3⟩
theorem rok_ne {cs : List C3} (h : rok cs = true) : cs ≠ [] := by
  rintro rfl
  exact absurd h (by decide)
theorem RowV.nil (w : World) : RowV w (.slice none 0 0) [] := .inl ⟨rfl, rfl⟩


def ScalePost (cs : List C3) (w : World) (e : Ending) (w' : World) : Prop := ∃ v', e = .returned (.tuple #[v', .bool (rok cs)]) ∧ RowV w' v' (if rok cs = true then cs else []) ∧ Below w.heap.size w w'
theorem ScalePost.no {cs : List C3} {w w' : World} {v' : Value} (hr : rok cs = false) (h : RowV w' v' []) (hb : Below w.heap.size w w') : ScalePost cs w (.returned (.tuple #[v', .bool false])) w' := ⟨v', by rw [hr], by simpa [hr] using h, hb⟩
theorem ScalePost.yes {cs : List C3} {w w' : World} {v' : Value} (hr : rok cs = true) (h : RowV w' v' cs) (hb : Below w.heap.size w w') : ScalePost cs w (.returned (.tuple #[v', .bool true])) w' := ⟨v', by rw [hr], by simpa [hr] using h, hb⟩
end Go.Proofs.YtobpnoiienpipaaDoor
