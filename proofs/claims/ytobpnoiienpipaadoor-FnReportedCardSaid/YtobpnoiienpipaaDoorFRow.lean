/-
  What is proved: lists of single floats as they lie in memory; lists that a call owns.
  Conditions: those that each fact names.
-/
import Derived.Test.YtobpnoiienpipaaDoorFl
import Derived.Test.YtobpnoiienpipaaDoorRowOwn
import Derived.Laws.MakeOwn
import Derived.Deep.AppendLies
namespace Go.Proofs.YtobpnoiienpipaaDoor
set_option linter.unusedVariables false
open Go.RowKit
attribute [local go_sem] run_store_float run_store_complex unary_negf neg256

/-- The slice v of floats reads as xs. -/
def FRow (w : World) (v : Value) (xs : List Nat) : Prop :=
  ((∃ a c, v = .slice a 0 c) ∧ xs = []) ∨ ∃ g o cap, v = .slice (some ⟨g, o, none⟩) xs.length cap ∧ xs.length ≤ cap ∧ ∀ i (h : i < xs.length), w.cell? ⟨g, o + i, none⟩ = some (.float .f32 xs[i])
theorem FRow.grown {w w' : World} {v : Value} {xs : List Nat} (h : FRow w v xs) (hg : w.grownBy w' none) : FRow w' v xs := by
  rcases h with h | ⟨g, o, cap, h1, h2, h3⟩
  · exact .inl h
  · exact .inr ⟨g, o, cap, h1, h2, fun i hi => hg.cell (h3 i hi) (by simp)⟩
theorem FRow.below {w w' : World} {v : Value} {xs : List Nat} (h : FRow w v xs) (hb : Below w.heap.size w w') : FRow w' v xs := h.grown (grown_of hb)
theorem FRow.far {w w' : World} {v : Value} {xs : List Nat} {row : Option Nat} (h : FRow w v xs) (hg : w.grownBy w' row) (hne : ∀ k, v.ownBlock = some k → row ≠ some k) : FRow w' v xs := by
  rcases h with h | ⟨g, o, cap, h1, h2, h3⟩
  · exact .inl h
  · refine .inr ⟨g, o, cap, h1, h2, fun i hi => hg.cell (h3 i hi) ?_⟩
    subst h1
    intro e
    exact hne g rfl e.symm
theorem FRow.lenv {w : World} {v : Value} {xs : List Nat} (h : FRow w v xs) : ∃ a c, v = .slice a xs.length c := by
  rcases h with ⟨⟨a, c, rfl⟩, rfl⟩ | ⟨g, o, cap, rfl, _, _⟩
  · exact ⟨a, c, rfl⟩
  · exact ⟨_, _, rfl⟩
theorem FRow.any {w : World} {v : Value} {xs : List Nat} (h : FRow w v xs) : ∃ a c, v = .slice a xs.length c ∧ ∀ k (hk : k < xs.length), ∃ g o, a = some ⟨g, o, none⟩ ∧ xs.length ≤ c ∧ w.cell? ⟨g, o + k, none⟩ = some (.float .f32 xs[k]) := by
  rcases h with ⟨⟨a, c, rfl⟩, rfl⟩ | ⟨g, o, cap, rfl, hc, h3⟩
  · exact ⟨a, c, rfl, fun k hk => absurd hk (by simp)⟩
  · exact ⟨_, _, rfl, fun k hk => ⟨g, o, rfl, hc, h3 k hk⟩⟩
theorem FRow.nil (w : World) : FRow w (.slice none 0 0) [] := .inl ⟨⟨_, _, rfl⟩, rfl⟩

/-- Block b has at least n cells; the first k are those of xs. -/
def MadeF (w : World) (b n k : Nat) (xs : List Nat) : Prop :=
  ∃ cur : Array Value, w.heap[b]? = some (.cells cur 24 (0, 0)) ∧ n ≤ cur.size ∧ ∀ i (h : i < xs.length), i < k → cur[i]? = some (.float .f32 xs[i])
theorem MadeF.kept {w w' : World} {b n k : Nat} {xs : List Nat} (h : MadeF w b n k xs) (hb : w'.heap[b]? = w.heap[b]?) : MadeF w' b n k xs := by
  obtain ⟨cur, h1, h2⟩ := h
  exact ⟨cur, hb.trans h1, h2⟩
theorem MadeF.lt {w : World} {b n k : Nat} {xs : List Nat} (h : MadeF w b n k xs) : b < w.heap.size := by
  obtain ⟨cur, h1, _⟩ := h
  exact (Array.getElem?_eq_some_iff.1 h1).1
theorem heapF {w : World} {b i : Nat} {c : Array Value} {t : TypeId} {v : Value} (h : w.heap[b]? = some (.cells c t (0, 0))) : (w.setCell ⟨b, i, none⟩ v).heap[b]? = some (.cells (c.setIfInBounds i v) t (0, 0)) := heap_put h
theorem MadeF.step {w : World} {b n k : Nat} {xs : List Nat} (h : MadeF w b n k xs) (hn : k < xs.length) (hk : xs.length ≤ n) :
    MadeF (w.setCell ⟨b, k, none⟩ (.float .f32 xs[k])) b n (k + 1) xs := by
  obtain ⟨cur, h1, h2, h3⟩ := h
  refine ⟨cur.setIfInBounds k (.float .f32 xs[k]), heapF h1, by simpa using h2, fun i hi hik => ?_⟩
  by_cases e : i = k
  · subst e
    rw [Array.getElem?_setIfInBounds, if_pos rfl, if_pos (by omega)]
  · rw [Array.getElem?_setIfInBounds, if_neg (by omega)]
    exact h3 i hi (by omega)
theorem MadeF.zero {w : World} {b n k : Nat} {xs ys : List Nat} (h : MadeF w b n k xs) : MadeF w b n 0 ys := by
  obtain ⟨cur, h1, h2, _⟩ := h
  exact ⟨cur, h1, h2, fun i h hi => by omega⟩
theorem MadeF.at {w : World} {b n k : Nat} {xs : List Nat} (h : MadeF w b n k xs) (i : Nat) (hi : i < n) : (∃ x, w.cell? ⟨b, i, none⟩ = some x) ∧ w.frozen? ⟨b, i, none⟩ = false := by
  obtain ⟨cur, h1, h2, _⟩ := h
  refine ⟨⟨cur[i]'(by omega), ?_⟩, ?_⟩
  · simp [World.cell?, h1, Array.getElem?_eq_getElem (show i < cur.size by omega)]
  · simp [World.frozen?, h1]
theorem MadeF.get {w : World} {b n k : Nat} {xs : List Nat} (h : MadeF w b n k xs) (i : Nat) (hi : i < xs.length) (hk : i < k) : w.cell? ⟨b, i, none⟩ = some (.float .f32 xs[i]) := by
  obtain ⟨cur, h1, h2, h3⟩ := h
  simp [World.cell?, h1, h3 i hi hk]
theorem info_f32 : (Tryd.prog.info? 24).map (fun i => (i.zero, i.size, i.bytes)) = some (some (.float .f32 0), 1, 4) := by kernel_rfl
theorem MadeF.start (w : World) (n : Nat) (xs : List Nat) : MadeF (w.alloc (.cells (madeCells #[.float .f32 0] n) 24)) w.heap.size n 0 xs :=
  ⟨_, heap_alloc_new w _, by rw [size_madeCells]; exact Nat.le_refl _, fun i h hi => by omega⟩

/-- The slice v of floats, whose block is base or behind, reads as xs, and may be written. -/
def FNew (w : World) (base : Nat) (v : Value) (xs : List Nat) : Prop :=
  (v = .slice none 0 0 ∧ xs = []) ∨ ∃ g cap, v = .slice (some ⟨g, 0, none⟩) xs.length cap ∧ base ≤ g ∧ xs.length ≤ cap ∧ MadeF w g xs.length xs.length xs
theorem FNew.row {w : World} {base : Nat} {v : Value} {xs : List Nat} (h : FNew w base v xs) : FRow w v xs := by
  rcases h with h | ⟨g, cap, h1, _, h2, h3⟩
  · exact .inl ⟨⟨_, _, h.1⟩, h.2⟩
  · exact .inr ⟨g, 0, cap, h1, h2, fun i hi => by rw [Nat.zero_add]; exact h3.get i hi hi⟩
theorem FNew.far {w w' : World} {base : Nat} {v : Value} {xs : List Nat} {row : Option Nat} (h : FNew w base v xs) (hg : w.grownBy w' row) (hne : ∀ k, v.ownBlock = some k → row ≠ some k) : FNew w' base v xs := by
  rcases h with h | ⟨g, cap, h1, h0, h2, h3⟩
  · exact .inl h
  · refine .inr ⟨g, cap, h1, h0, h2, h3.kept (hg.block g h3.lt ?_)⟩
    subst h1
    intro e
    exact hne g rfl e.symm
theorem FNew.below {w w' : World} {base : Nat} {v : Value} {xs : List Nat} (h : FNew w base v xs) (hb : Below w.heap.size w w') : FNew w' base v xs := h.far (grown_of hb) (fun _ _ => by simp)
theorem FNew.lt {w : World} {base : Nat} {v : Value} {xs : List Nat} (h : FNew w base v xs) : ∀ k, v.ownBlock = some k → base ≤ k ∧ k < w.heap.size := by
  rcases h with ⟨rfl, _⟩ | ⟨g, cap, rfl, h0, _, h3⟩
  · intro k hk; cases hk
  · intro k hk
    have e : g = k := Option.some.inj hk
    subst e
    exact ⟨h0, h3.lt⟩
theorem FNew.nil (w : World) (base : Nat) : FNew w base (.slice none 0 0) [] := .inl ⟨rfl, rfl⟩
theorem FNew.mono {w : World} {base base' : Nat} {v : Value} {xs : List Nat} (h : FNew w base v xs) (hb : base' ≤ base) : FNew w base' v xs := by
  rcases h with h | ⟨g, cap, h1, h0, h2⟩
  · exact .inl h
  · exact .inr ⟨g, cap, h1, by omega, h2⟩
theorem MadeF.new {w : World} {base b : Nat} {xs : List Nat} {n : Nat} (h : MadeF w b n n xs) (hn : xs.length = n) (hb : base ≤ b) : FNew w base (.slice (some ⟨b, 0, none⟩) n n) xs := by
  subst hn
  exact .inr ⟨b, xs.length, rfl, hb, Nat.le_refl _, h⟩

/-- The slice v of floats, owned from block base on, holds xs. -/
def OwnF (w : World) (base : Nat) (v : Value) (xs : List Nat) : Prop := w.ownsRow base 24 1 v xs.length (xs.map (.float .f32))
theorem OwnF.new {w : World} {base : Nat} {v : Value} {xs : List Nat} (h : OwnF w base v xs) : FNew w base v xs := by
  rcases h.2 with ⟨rfl, h0⟩ | ⟨g, cap, cur, rfl, hb, hg, hn, hc, hsz, htk⟩
  · exact .inl ⟨rfl, List.eq_nil_of_length_eq_zero h0⟩
  · refine .inr ⟨g, cap, rfl, hb, hn, cur, hg, by omega, fun i hi _ => ?_⟩
    have h1 : (cur.toList.take (xs.length * 1))[i]? = (xs.map (Value.float .f32))[i]? := by rw [htk]
    rw [List.getElem?_take, if_pos (by omega), List.getElem?_map, List.getElem?_eq_getElem hi] at h1
    rw [← Array.getElem?_toList]
    exact h1
theorem OwnF.made0 (w : World) : OwnF (w.alloc (.cells #[] 24)) w.heap.size (.slice (some ⟨w.heap.size, 0, none⟩) 0 0) [] := World.ownsRow_made w #[] 0 (Nat.le_refl _) (by unfold maxLen; omega) rfl
theorem OwnF.kept {w w' : World} {base : Nat} {v : Value} {xs : List Nat} {row : Option Nat} (h : OwnF w base v xs) (hg : w.grownBy w' row) (hne : v.ownBlock = none ∨ v.ownBlock ≠ row) : OwnF w' base v xs := World.ownsRow.kept h hg hne
theorem OwnF.alloc {w : World} {base : Nat} {v : Value} {xs : List Nat} (h : OwnF w base v xs) (o : Obj) : OwnF (w.alloc o) base v xs := World.ownsRow.alloc h o
theorem OwnF.lt {w : World} {base : Nat} {v : Value} {xs : List Nat} (h : OwnF w base v xs) : ∀ k, v.ownBlock = some k → base ≤ k ∧ k < w.heap.size := World.ownsRow.lt h
theorem OwnF.shape {w : World} {base : Nat} {v : Value} {xs : List Nat} (h : OwnF w base v xs) :
    (v = .slice none 0 0 ∧ xs = []) ∨ ∃ g cap, v = .slice (some ⟨g, 0, none⟩) xs.length cap ∧ base ≤ g ∧ g < w.heap.size ∧ xs.length ≤ cap ∧ cap ≤ maxLen := by
  rcases h.2 with ⟨rfl, h0⟩ | ⟨g, cap, cur, rfl, hb, hg, hn, hc, _⟩
  · exact .inl ⟨rfl, List.eq_nil_of_length_eq_zero h0⟩
  · exact .inr ⟨g, cap, rfl, hb, (Array.getElem?_eq_some_iff.1 hg).1, hn, hc⟩
theorem lit_cell (z : Nat) (W : World) : (W.alloc (.cells #[.float .f32 z] 24)).cell? ⟨W.heap.size, 0, none⟩ = some (.float .f32 z) :=
  (cell_of_row _ _ 0 _ _ _ (heap_alloc_new W (.cells #[.float .f32 z] 24))).trans rfl
theorem snoc_below {w wr w' : World} {v : Value} {xs : List Nat} (hb : Below w.heap.size w wr) (ho : OwnF wr w.heap.size v xs) (o : Obj) (hg : (wr.alloc o).grownBy w' v.ownBlock) : Below w.heap.size w w' :=
  (hb.alloc hb.size o).grown hg (Nat.le_trans hb.size (by simp)) (fun k hk => (ho.lt k hk).1)
theorem take_len {xs : List Nat} {k : Nat} (h : k ≤ xs.length) : (xs.take k).length = k := by rw [List.length_take]; omega
end Go.Proofs.YtobpnoiienpipaaDoor
