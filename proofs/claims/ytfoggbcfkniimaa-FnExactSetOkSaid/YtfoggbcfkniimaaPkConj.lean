/-
  What is proved: the walks of the functions that make a cell of a cell (conjugated, scaled by 1), and of the generic function that makes a row of a row.
  Conditions: those that each fact names.
-/
import Derived.Test.YtfoggbcfkniimaaPkCell
import Derived.Deep.RegionWith
import Derived.Laws.MakeOwn
import Derived.Laws.Rows
namespace Go.Proofs.Ytfoggbcfkniimaa
set_option linter.unusedVariables false
open Go.RowKit
attribute [local go_sem] run_store_float run_store_complex unary_negf neg256
theorem heap_put {w : World} {b i : Nat} {c : Array Value} {t : TypeId} {v : Value} (h : w.heap[b]? = some (.cells c t (0, 0))) : (w.setCell ⟨b, i, none⟩ v).heap[b]? = some (.cells (c.setIfInBounds i v) t (0, 0)) := by
  simp [World.setCell, Array.getElem?_modify, h]



end Go.Proofs.Ytfoggbcfkniimaa

/-
  What is proved: the walk of the generic function that makes a row of a row, over whatever function value makes a cell of a cell.
  Conditions: the row is not empty and has at most 64 cells; the function value answers a cell and writes into new memory alone.
-/
namespace Go.Proofs.Ytfoggbcfkniimaa
set_option linter.unusedVariables false
open Go.RowKit
attribute [local go_sem] run_store_float run_store_complex unary_negf neg256

theorem info_cell : (Try.prog.info? 50).map (fun i => (i.zero, i.size, i.bytes)) = some (some (.agg #[.float .f32 0, .complex .f32 0 0]), 2, 12) := by kernel_rfl
theorem make_cells (n : Nat) (hn : n ≤ 1000000) (W : World) : (Instr.makeSlice 46 (.int .i64 (n : Int)) (.int .i64 (n : Int))).run Try.prog W = .ok (.slice (some ⟨W.heap.size, 0, none⟩) n n) (W.alloc (.cells (madeCells #[.float .f32 0, .complex .f32 0 0] (n * 2)) 50)) := by
  obtain ⟨i0, hi, hz0, hz1, hz2⟩ := info_parts info_cell
  have h := run_make (P := Try.prog) W 46 50 i0 _ Try.underlying46 hi hz0 .i64 .i64 n n (by omega) (by omega) (by rw [hz2]; omega) (by omega)
  rw [hz1] at h
  simpa [Value.cells] using h

/-- The block holds n cells; the first k are those of cs. -/
def Made (w : World) (b n k : Nat) (cs : List C3) : Prop :=
  ∃ cur : Array Value, w.heap[b]? = some (.cells cur 50 (0, 0)) ∧ cur.size = n * 2 ∧ ∀ i (h : i < cs.length), i < k → cur[i * 2]? = some (.float .f32 cs[i].1) ∧ cur[i * 2 + 1]? = some (.complex .f32 cs[i].2.1 cs[i].2.2)
theorem Made.start (w : World) (n : Nat) (cs : List C3) : Made (w.alloc (.cells (madeCells #[.float .f32 0, .complex .f32 0 0] (n * 2)) 50)) w.heap.size n 0 cs :=
  ⟨_, heap_alloc_new w _, size_madeCells _ _, fun i h hi => by omega⟩
theorem Made.kept {w w' : World} {b n k : Nat} {cs : List C3} (h : Made w b n k cs) (hb : w'.heap[b]? = w.heap[b]?) : Made w' b n k cs := by
  obtain ⟨cur, h1, h2⟩ := h
  exact ⟨cur, hb.trans h1, h2⟩
theorem Made.step {w : World} {b n k : Nat} {cs : List C3} (h : Made w b n k cs) (hn : k < cs.length) (hk : cs.length ≤ n) :
    Made ((w.setCell ⟨b, k * 2, none⟩ (.float .f32 cs[k].1)).setCell ⟨b, k * 2 + 1, none⟩ (.complex .f32 cs[k].2.1 cs[k].2.2)) b n (k + 1) cs := by
  obtain ⟨cur, h1, h2, h3⟩ := h
  refine ⟨(cur.setIfInBounds (k * 2) (.float .f32 cs[k].1)).setIfInBounds (k * 2 + 1) (.complex .f32 cs[k].2.1 cs[k].2.2), heap_put (heap_put h1), by simp [h2], fun i hi hik => ?_⟩
  by_cases e : i = k
  · subst e
    constructor
    · rw [Array.getElem?_setIfInBounds, if_neg (by omega), Array.getElem?_setIfInBounds, if_pos rfl, if_pos (by omega)]
    · rw [Array.getElem?_setIfInBounds, if_pos rfl, if_pos (by simp; omega)]
  · obtain ⟨g1, g2⟩ := h3 i hi (by omega)
    constructor
    · rw [Array.getElem?_setIfInBounds, if_neg (by omega), Array.getElem?_setIfInBounds, if_neg (by omega)]; exact g1
    · rw [Array.getElem?_setIfInBounds, if_neg (by omega), Array.getElem?_setIfInBounds, if_neg (by omega)]; exact g2
theorem Made.row {w : World} {b n : Nat} {cs : List C3} (h : Made w b n n cs) (hn : cs.length = n) : RowV w (.slice (some ⟨b, 0, none⟩) n n) cs := by
  obtain ⟨cur, h1, h2, h3⟩ := h
  subst hn
  refine .inr ⟨b, 0, cs.length, rfl, Nat.le_refl _, fun i hi => ?_⟩
  obtain ⟨g1, g2⟩ := h3 i hi hi
  exact ⟨by simp [World.cell?, h1, g1], by simp [World.cell?, h1, g2]⟩
theorem Made.at {w : World} {b n k : Nat} {cs : List C3} (h : Made w b n k cs) (i : Nat) (hi : i < n) : (∃ x, w.cell? ⟨b, i * 2, none⟩ = some x) ∧ (∃ x, w.cell? ⟨b, i * 2 + 1, none⟩ = some x) ∧ w.frozen? ⟨b, i * 2, none⟩ = false ∧ w.frozen? ⟨b, i * 2 + 1, none⟩ = false := by
  obtain ⟨cur, h1, h2, _⟩ := h
  refine ⟨⟨cur[i * 2]'(by omega), ?_⟩, ⟨cur[i * 2 + 1]'(by omega), ?_⟩, ?_, ?_⟩
  · simp [World.cell?, h1, Array.getElem?_eq_getElem (show i * 2 < cur.size by omega)]
  · simp [World.cell?, h1, Array.getElem?_eq_getElem (show i * 2 + 1 < cur.size by omega)]
  · simp [World.frozen?, h1]
  · simp [World.frozen?, h1]

def RowPost (cs : List C3) (w : World) (e : Ending) (w' : World) : Prop := ∃ v', e = .returned v' ∧ RowV w' v' cs ∧ Below w.heap.size w w'
theorem RowPost.mk {cs : List C3} {w w' : World} {v' : Value} (h : RowV w' v' cs) (hb : Below w.heap.size w w') : RowPost cs w (.returned v') w' := ⟨v', rfl, h, hb⟩
end Go.Proofs.Ytfoggbcfkniimaa

/-
  What is proved: the walks of Conjugate, and of ScaleRow by 1.
  Conditions: the row's numbers fit their kind; at most 1000000 cells.
-/
namespace Go.Proofs.Ytfoggbcfkniimaa
set_option linter.unusedVariables false
open Go.RowKit
attribute [local go_sem] run_store_float run_store_complex unary_negf neg256

def cj (c : C3) : C3 := (c.1, c.2.1, Op.negFloat .f32 c.2.2)
/-- The bits fit. -/
def Fit (cs : List C3) : Prop := ∀ c ∈ cs, c.1 < 2 ^ 32 ∧ c.2.1 < 2 ^ 32 ∧ c.2.2 < 2 ^ 32
theorem cj_cj (cs : List C3) : (cs.map cj).map cj = cs := by
  rw [List.map_map]
  have : cj ∘ cj = id := by funext c; simp [cj, Flt.neg_neg32]
  rw [this, List.map_id]
theorem rok_iff {cs : List C3} : rok cs = true ↔ (1 ≤ cs.length ∧ cs.length ≤ 64) ∧ ∀ c ∈ cs, Flt.fin c.1 = true ∧ Flt.fin c.2.1 = true ∧ Flt.fin c.2.2 = true := by
  unfold rok
  rw [Bool.and_eq_true, Bool.and_eq_true, decide_eq_true_iff, decide_eq_true_iff, List.all_eq_true]
  refine and_congr Iff.rfl (forall_congr' fun c => ?_)
  unfold okc
  rw [Bool.and_eq_true, Bool.and_eq_true]
theorem rok_cj {cs : List C3} (hf : Fit cs) (h : rok cs = true) : rok (cs.map cj) = true := by
  obtain ⟨h1, h2⟩ := rok_iff.1 h
  refine rok_iff.2 ⟨by simpa using h1, fun c hc => ?_⟩
  obtain ⟨d, hd, rfl⟩ := List.mem_map.1 hc
  obtain ⟨g1, g2, g3⟩ := h2 d hd
  exact ⟨g1, g2, Flt.fin_neg (hf d hd).2.2 g3⟩
theorem rok_ne {cs : List C3} (h : rok cs = true) : cs ≠ [] := by
  rintro rfl
  exact absurd h (by decide)
theorem RowV.nil (w : World) : RowV w (.slice none 0 0) [] := .inl ⟨rfl, rfl⟩


def ScalePost (cs : List C3) (w : World) (e : Ending) (w' : World) : Prop := ∃ v', e = .returned (.tuple #[v', .bool (rok cs)]) ∧ RowV w' v' (if rok cs = true then cs else []) ∧ Below w.heap.size w w'
theorem ScalePost.no {cs : List C3} {w w' : World} {v' : Value} (hr : rok cs = false) (h : RowV w' v' []) (hb : Below w.heap.size w w') : ScalePost cs w (.returned (.tuple #[v', .bool false])) w' := ⟨v', by rw [hr], by simpa [hr] using h, hb⟩
theorem ScalePost.yes {cs : List C3} {w w' : World} {v' : Value} (hr : rok cs = true) (h : RowV w' v' cs) (hb : Below w.heap.size w w') : ScalePost cs w (.returned (.tuple #[v', .bool true])) w' := ⟨v', by rw [hr], by simpa [hr] using h, hb⟩
end Go.Proofs.Ytfoggbcfkniimaa
