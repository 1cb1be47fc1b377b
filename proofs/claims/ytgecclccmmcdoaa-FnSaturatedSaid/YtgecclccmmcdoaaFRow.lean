/-
  What is proved: lists of single floats as they lie in memory; lists that a call owns.
  Conditions: those that each fact names.
-/
import Derived.Test.YtgecclccmmcdoaaPkCell
import Derived.Test.YtgecclccmmcdoaaRowOwn
import Derived.Laws.MakeOwn
import Derived.Deep.AppendLies
namespace Go.Proofs.Ytgecclccmmcdoaa
set_option linter.unusedVariables false
open Go.RowKit
attribute [local go_sem] run_store_float run_store_complex unary_negf neg256

/-- The slice v of floats reads as xs. -/
def FRow (w : World) (v : Value) (xs : List Nat) : Prop :=
  ((∃ a c, v = .slice a 0 c) ∧ xs = []) ∨ ∃ g o cap, v = .slice (some ⟨g, o, none⟩) xs.length cap ∧ xs.length ≤ cap ∧ ∀ i (h : i < xs.length), w.cell? ⟨g, o + i, none⟩ = some (.float .f32 xs[i])
theorem FRow.grown {w w' : World} {v : Value} {xs : List Nat} (h : FRow w v xs) (hg : w.grownBy w' none) : FRow w' v xs := by
  rcases h with h | ⟨g, o, cap, h1, h2, h3⟩
  · exact .inl h
  · exact .inr ⟨g, o, cap, h1, h2, fun i hi => hg.cell (h3 i hi) (by simp)⟩
theorem FRow.below {w w' : World} {v : Value} {xs : List Nat} (h : FRow w v xs) (hb : Below w.heap.size w w') : FRow w' v xs := h.grown (grown_of hb)
theorem FRow.far {w w' : World} {v : Value} {xs : List Nat} {row : Option Nat} (h : FRow w v xs) (hg : w.grownBy w' row) (hne : ∀ k, v.ownBlock = some k → row ≠ some k) : FRow w' v xs := by
  rcases h with h | ⟨g, o, cap, h1, h2, h3⟩
  · exact .inl h
  · refine .inr ⟨g, o, cap, h1, h2, fun i hi => hg.cell (h3 i hi) ?_⟩
    subst h1
    intro e
    exact hne g rfl e.symm
theorem FRow.lenv {w : World} {v : Value} {xs : List Nat} (h : FRow w v xs) : ∃ a c, v = .slice a xs.length c := by
  rcases h with ⟨⟨a, c, rfl⟩, rfl⟩ | ⟨g, o, cap, rfl, _, _⟩
  · exact ⟨a, c, rfl⟩
  · exact ⟨_, _, rfl⟩
theorem FRow.any {w : World} {v : Value} {xs : List Nat} (h : FRow w v xs) : ∃ a c, v = .slice a xs.length c ∧ ∀ k (hk : k < xs.length), ∃ g o, a = some ⟨g, o, none⟩ ∧ xs.length ≤ c ∧ w.cell? ⟨g, o + k, none⟩ = some (.float .f32 xs[k]) := by
  rcases h with ⟨⟨a, c, rfl⟩, rfl⟩ | ⟨g, o, cap, rfl, hc, h3⟩
  · exact ⟨a, c, rfl, fun k hk => absurd hk (by simp)⟩
  · exact ⟨_, _, rfl, fun k hk => ⟨g, o, rfl, hc, h3 k hk⟩⟩
theorem FRow.nil (w : World) : FRow w (.slice none 0 0) [] := .inl ⟨⟨_, _, rfl⟩, rfl⟩

/-- Block b has at least n cells; the first k are those of xs. -/
def MadeF (w : World) (b n k : Nat) (xs : List Nat) : Prop :=
  ∃ cur : Array Value, w.heap[b]? = some (.cells cur 26 (0, 0)) ∧ n ≤ cur.size ∧ ∀ i (h : i < xs.length), i < k → cur[i]? = some (.float .f32 xs[i])
theorem MadeF.kept {w w' : World} {b n k : Nat} {xs : List Nat} (h : MadeF w b n k xs) (hb : w'.heap[b]? = w.heap[b]?) : MadeF w' b n k xs := by
  obtain ⟨cur, h1, h2⟩ := h
  exact ⟨cur, hb.trans h1, h2⟩
theorem MadeF.lt {w : World} {b n k : Nat} {xs : List Nat} (h : MadeF w b n k xs) : b < w.heap.size := by
  obtain ⟨cur, h1, _⟩ := h
  exact (Array.getElem?_eq_some_iff.1 h1).1
theorem heapF {w : World} {b i : Nat} {c : Array Value} {t : TypeId} {v : Value} (h : w.heap[b]? = some (.cells c t (0, 0))) : (w.setCell ⟨b, i, none⟩ v).heap[b]? = some (.cells (c.setIfInBounds i v) t (0, 0)) := heap_put h
theorem MadeF.step {w : World} {b n k : Nat} {xs : List Nat} (h : MadeF w b n k xs) (hn : k < xs.length) (hk : xs.length ≤ n) :
    MadeF (w.setCell ⟨b, k, none⟩ (.float .f32 xs[k])) b n (k + 1) xs := by
  obtain ⟨cur, h1, h2, h3⟩ := h
  refine ⟨cur.setIfInBounds k (.float .f32 xs[k]), heapF h1, by simpa using h2, fun i hi hik => ?_⟩
  by_cases e : i = k
  · subst e
    rw [Array.getElem?_setIfInBounds, if_pos rfl, if_pos (by omega)]
  · rw [Array.getElem?_setIfInBounds, if_neg (by omega)]
    exact h3 i hi (by omega)
theorem MadeF.zero {w : World} {b n k : Nat} {xs ys : List Nat} (h : MadeF w b n k xs) : MadeF w b n 0 ys := by
  obtain ⟨cur, h1, h2, _⟩ := h
  exact ⟨cur, h1, h2, fun i h hi => by omega⟩
theorem MadeF.at {w : World} {b n k : Nat} {xs : List Nat} (h : MadeF w b n k xs) (i : Nat) (hi : i < n) : (∃ x, w.cell? ⟨b, i, none⟩ = some x) ∧ w.frozen? ⟨b, i, none⟩ = false := by
  obtain ⟨cur, h1, h2, _⟩ := h
  refine ⟨⟨cur[i]'(by omega), ?_⟩, ?_⟩
  · simp [World.cell?, h1, Array.getElem?_eq_getElem (show i < cur.size by omega)]
  · simp [World.frozen?, h1]
theorem MadeF.get {w : World} {b n k : Nat} {xs : List Nat} (h : MadeF w b n k xs) (i : Nat) (hi : i < xs.length) (hk : i < k) : w.cell? ⟨b, i, none⟩ = some (.float .f32 xs[i]) := by
  obtain ⟨cur, h1, h2, h3⟩ := h
  simp [World.cell?, h1, h3 i hi hk]
theorem info_f32 : (Try.prog.info? 26).map (fun i => (i.zero, i.size, i.bytes)) = some (some (.float .f32 0), 1, 4) := by kernel_rfl
theorem make_floats (n : Nat) (hn : n ≤ 1000000000) (W : World) : (Instr.makeSlice 32 (.int .i64 (n : Int)) (.int .i64 (n : Int))).run Try.prog W = .ok (.slice (some ⟨W.heap.size, 0, none⟩) n n) (W.alloc (.cells (madeCells #[.float .f32 0] n) 26)) := by
  obtain ⟨i0, hi, hz0, hz1, hz2⟩ := info_parts info_f32
  have h := run_make (P := Try.prog) W 32 26 i0 _ Try.underlying32 hi hz0 .i64 .i64 n n (by omega) (by omega) (by rw [hz2]; omega) (by omega)
  rw [hz1] at h
  simpa [Value.cells] using h
theorem MadeF.start (w : World) (n : Nat) (xs : List Nat) : MadeF (w.alloc (.cells (madeCells #[.float .f32 0] n) 26)) w.heap.size n 0 xs :=
  ⟨_, heap_alloc_new w _, by rw [size_madeCells]; exact Nat.le_refl _, fun i h hi => by omega⟩

/-- The slice v of floats, whose block is base or behind, reads as xs, and may be written. -/
def FNew (w : World) (base : Nat) (v : Value) (xs : List Nat) : Prop :=
  (v = .slice none 0 0 ∧ xs = []) ∨ ∃ g cap, v = .slice (some ⟨g, 0, none⟩) xs.length cap ∧ base ≤ g ∧ xs.length ≤ cap ∧ MadeF w g xs.length xs.length xs
theorem FNew.row {w : World} {base : Nat} {v : Value} {xs : List Nat} (h : FNew w base v xs) : FRow w v xs := by
  rcases h with h | ⟨g, cap, h1, _, h2, h3⟩
  · exact .inl ⟨⟨_, _, h.1⟩, h.2⟩
  · exact .inr ⟨g, 0, cap, h1, h2, fun i hi => by rw [Nat.zero_add]; exact h3.get i hi hi⟩
theorem FNew.far {w w' : World} {base : Nat} {v : Value} {xs : List Nat} {row : Option Nat} (h : FNew w base v xs) (hg : w.grownBy w' row) (hne : ∀ k, v.ownBlock = some k → row ≠ some k) : FNew w' base v xs := by
  rcases h with h | ⟨g, cap, h1, h0, h2, h3⟩
  · exact .inl h
  · refine .inr ⟨g, cap, h1, h0, h2, h3.kept (hg.block g h3.lt ?_)⟩
    subst h1
    intro e
    exact hne g rfl e.symm
theorem FNew.below {w w' : World} {base : Nat} {v : Value} {xs : List Nat} (h : FNew w base v xs) (hb : Below w.heap.size w w') : FNew w' base v xs := h.far (grown_of hb) (fun _ _ => by simp)
theorem FNew.lt {w : World} {base : Nat} {v : Value} {xs : List Nat} (h : FNew w base v xs) : ∀ k, v.ownBlock = some k → base ≤ k ∧ k < w.heap.size := by
  rcases h with ⟨rfl, _⟩ | ⟨g, cap, rfl, h0, _, h3⟩
  · intro k hk; cases hk
  · intro k hk
    have e : g = k := Option.some.inj hk
    subst e
    exact ⟨h0, h3.lt⟩
theorem FNew.nil (w : World) (base : Nat) : FNew w base (.slice none 0 0) [] := .inl ⟨rfl, rfl⟩
theorem FNew.mono {w : World} {base base' : Nat} {v : Value} {xs : List Nat} (h : FNew w base v xs) (hb : base' ≤ base) : FNew w base' v xs := by
  rcases h with h | ⟨g, cap, h1, h0, h2⟩
  · exact .inl h
  · exact .inr ⟨g, cap, h1, by omega, h2⟩
theorem MadeF.new {w : World} {base b : Nat} {xs : List Nat} {n : Nat} (h : MadeF w b n n xs) (hn : xs.length = n) (hb : base ≤ b) : FNew w base (.slice (some ⟨b, 0, none⟩) n n) xs := by
  subst hn
  exact .inr ⟨b, xs.length, rfl, hb, Nat.le_refl _, h⟩

/-- The slice v of floats, owned from block base on, holds xs. -/
def OwnF (w : World) (base : Nat) (v : Value) (xs : List Nat) : Prop := w.ownsRow base 26 1 v xs.length (xs.map (.float .f32))
theorem OwnF.new {w : World} {base : Nat} {v : Value} {xs : List Nat} (h : OwnF w base v xs) : FNew w base v xs := by
  rcases h.2 with ⟨rfl, h0⟩ | ⟨g, cap, cur, rfl, hb, hg, hn, hc, hsz, htk⟩
  · exact .inl ⟨rfl, List.eq_nil_of_length_eq_zero h0⟩
  · refine .inr ⟨g, cap, rfl, hb, hn, cur, hg, by omega, fun i hi _ => ?_⟩
    have h1 : (cur.toList.take (xs.length * 1))[i]? = (xs.map (Value.float .f32))[i]? := by rw [htk]
    rw [List.getElem?_take, if_pos (by omega), List.getElem?_map, List.getElem?_eq_getElem hi] at h1
    rw [← Array.getElem?_toList]
    exact h1
theorem OwnF.made0 (w : World) : OwnF (w.alloc (.cells #[] 26)) w.heap.size (.slice (some ⟨w.heap.size, 0, none⟩) 0 0) [] := World.ownsRow_made w #[] 0 (Nat.le_refl _) (by unfold maxLen; omega) rfl
theorem OwnF.kept {w w' : World} {base : Nat} {v : Value} {xs : List Nat} {row : Option Nat} (h : OwnF w base v xs) (hg : w.grownBy w' row) (hne : v.ownBlock = none ∨ v.ownBlock ≠ row) : OwnF w' base v xs := World.ownsRow.kept h hg hne
theorem OwnF.alloc {w : World} {base : Nat} {v : Value} {xs : List Nat} (h : OwnF w base v xs) (o : Obj) : OwnF (w.alloc o) base v xs := World.ownsRow.alloc h o
theorem OwnF.lt {w : World} {base : Nat} {v : Value} {xs : List Nat} (h : OwnF w base v xs) : ∀ k, v.ownBlock = some k → base ≤ k ∧ k < w.heap.size := World.ownsRow.lt h
theorem OwnF.shape {w : World} {base : Nat} {v : Value} {xs : List Nat} (h : OwnF w base v xs) :
    (v = .slice none 0 0 ∧ xs = []) ∨ ∃ g cap, v = .slice (some ⟨g, 0, none⟩) xs.length cap ∧ base ≤ g ∧ g < w.heap.size ∧ xs.length ≤ cap ∧ cap ≤ maxLen := by
  rcases h.2 with ⟨rfl, h0⟩ | ⟨g, cap, cur, rfl, hb, hg, hn, hc, _⟩
  · exact .inl ⟨rfl, List.eq_nil_of_length_eq_zero h0⟩
  · exact .inr ⟨g, cap, rfl, hb, (Array.getElem?_eq_some_iff.1 hg).1, hn, hc⟩
/-- Floats that can be read, appended. -/
theorem ownF_append {ops : Array Oper} {rest : List Oper} {o : Oper} {a : Act} {w : World} {Q : Exit → Act → World → Prop} (hgd : o.guard = none) (s x : Operand)
    (ho : o.op = .call { callee := .builtin .append, args := #[s, x], argTypes := #[32, 32] })
    (base : Nat) (v : Value) (xs ys : List Nat) (hs : a.eval s = v) (hown : OwnF w base v xs) (g o' c : Nat) (hx : a.eval x = .slice (some ⟨g, o', none⟩) ys.length c)
    (hrow : ∀ i (h : i < ys.length), w.cell? ⟨g, o' + i, none⟩ = some (.float .f32 ys[i]))
    (hm : 0 < ys.length) (hlen : xs.length + ys.length ≤ 1000000000) (hbase : base ≤ w.heap.size)
    (h : ∀ g cap w', OwnF w' base (.slice (some ⟨g, 0, none⟩) (xs.length + ys.length) cap) (xs ++ ys) → w.grownBy w' v.ownBlock → (v.ownBlock = some g ∨ g = w.heap.size) → g < w'.heap.size → wpList Try.prog ops Q rest (a.put o.dst (.slice (some ⟨g, 0, none⟩) (xs.length + ys.length) cap)) w') :
    wpList Try.prog ops Q (o :: rest) a w := by
  obtain ⟨i0, hi, hz0, hz1, hz2⟩ := info_parts info_f32
  refine wpList_append_lies w hgd s x 32 ho base 26 i0 _ 1 4 Try.underlying32 hi hz0 hz1 hz2 rfl (by decide) v xs.length _ hs hown ⟨g, o', none⟩ ys.length c (ys.map (.float .f32)) hx (by simp) ?_ ?_ hm (by unfold maxLen; omega) (by omega) hbase w.heap.size rfl ?_
  · intro j u hu
    have hadd : (⟨g, o', none⟩ : Addr).add j = ⟨g, o' + j, none⟩ := by unfold Addr.add; split <;> simp_all
    rw [hadd]
    rw [List.getElem?_map] at hu
    by_cases hj : j < ys.length
    · rw [List.getElem?_eq_getElem hj] at hu
      cases hu
      exact hrow j hj
    · rw [List.getElem?_eq_none (by omega)] at hu; cases hu
  · intro u hu
    obtain ⟨x, _, rfl⟩ := List.mem_map.1 hu
    rfl
  intro g cap w' h2 h3 h4 h5
  refine h g cap w' ?_ h3 h4 h5
  unfold OwnF
  rw [List.length_append, List.map_append]
  exact h2
/-- One float of a new block, appended. -/
theorem ownF_snoc {ops : Array Oper} {rest : List Oper} {o : Oper} {a : Act} {w : World} {Q : Exit → Act → World → Prop} (hgd : o.guard = none) (s x : Operand)
    (ho : o.op = .call { callee := .builtin .append, args := #[s, x], argTypes := #[32, 32] })
    (base : Nat) (v : Value) (xs : List Nat) (n : Nat) (hs : a.eval s = v) (hown : OwnF w base v xs) (hn : xs.length = n) (g : Nat) (hx : a.eval x = .slice (some ⟨g, 0, none⟩) 1 1)
    (z : Nat) (hrow : w.cell? ⟨g, 0, none⟩ = some (.float .f32 z)) (hlen : n + 1 ≤ 1000000000) (hbase : base ≤ w.heap.size)
    (h : ∀ g cap w', OwnF w' base (.slice (some ⟨g, 0, none⟩) (n + 1) cap) (xs ++ [z]) → w.grownBy w' v.ownBlock → (v.ownBlock = some g ∨ g = w.heap.size) → g < w'.heap.size → wpList Try.prog ops Q rest (a.put o.dst (.slice (some ⟨g, 0, none⟩) (n + 1) cap)) w') :
    wpList Try.prog ops Q (o :: rest) a w := by
  subst hn
  refine ownF_append hgd s x ho base v xs [z] hs hown g 0 1 hx ?_ (by simp) (by simpa using hlen) hbase h
  intro i hi
  have hi0 : i = 0 := by simpa using hi
  subst hi0
  exact hrow
/-- The same, at a step of a region that draws its order. -/
theorem stepF_snoc {ops : Array Oper} {o : Oper} {a : Act} {w : World} {K : Act → World → Prop} {Q : Exit → Act → World → Prop} {E : Prop} (hgd : o.guard = none) (s x : Operand)
    (ho : o.op = .call { callee := .builtin .append, args := #[s, x], argTypes := #[32, 32] })
    (base : Nat) (v : Value) (xs : List Nat) (n : Nat) (hs : a.eval s = v) (hown : OwnF w base v xs) (hn : xs.length = n) (g : Nat) (hx : a.eval x = .slice (some ⟨g, 0, none⟩) 1 1)
    (z : Nat) (hrow : w.cell? ⟨g, 0, none⟩ = some (.float .f32 z)) (hlen : n + 1 ≤ 1000000000) (hbase : base ≤ w.heap.size)
    (h : ∀ g cap w', OwnF w' base (.slice (some ⟨g, 0, none⟩) (n + 1) cap) (xs ++ [z]) → w.grownBy w' v.ownBlock → (v.ownBlock = some g ∨ g = w.heap.size) → g < w'.heap.size → K (a.put o.dst (.slice (some ⟨g, 0, none⟩) (n + 1) cap)) w') :
    if Region.wanted o (yielded ops a.tmps) = true then Oper.wp Try.prog o a w K Q else E := by
  subst hn
  obtain ⟨i0, hi, hz0, hz1, hz2⟩ := info_parts info_f32
  refine step_append_lies w hgd s x 32 ho base 26 i0 _ 1 4 Try.underlying32 hi hz0 hz1 hz2 rfl (by decide) v xs.length _ hs hown ⟨g, 0, none⟩ 1 1 [.float .f32 z] hx (by simp) ?_ ?_ (by decide) (by unfold maxLen; omega) (by omega) hbase w.heap.size rfl ?_
  · intro j u hu
    have hj : j = 0 := by
      have := (List.getElem?_eq_some_iff.1 hu).1
      simpa using this
    subst hj
    have hadd : (⟨g, 0, none⟩ : Addr).add 0 = ⟨g, 0, none⟩ := by unfold Addr.add; split <;> simp_all
    rw [hadd, hrow]
    simpa using hu
  · intro u hu
    obtain rfl := List.mem_singleton.1 hu
    rfl
  intro g' cap w' h2 h3 h4 h5
  refine h g' cap w' ?_ h3 h4 h5
  unfold OwnF
  rw [List.length_append, List.map_append]
  exact h2
theorem lit_cell (z : Nat) (W : World) : (W.alloc (.cells #[.float .f32 z] 26)).cell? ⟨W.heap.size, 0, none⟩ = some (.float .f32 z) :=
  (cell_of_row _ _ 0 _ _ _ (heap_alloc_new W (.cells #[.float .f32 z] 26))).trans rfl
theorem snoc_below {w wr w' : World} {v : Value} {xs : List Nat} (hb : Below w.heap.size w wr) (ho : OwnF wr w.heap.size v xs) (o : Obj) (hg : (wr.alloc o).grownBy w' v.ownBlock) : Below w.heap.size w w' :=
  (hb.alloc hb.size o).grown hg (Nat.le_trans hb.size (by simp)) (fun k hk => (ho.lt k hk).1)
theorem take_len {xs : List Nat} {k : Nat} (h : k ≤ xs.length) : (xs.take k).length = k := by rw [List.length_take]; omega
end Go.Proofs.Ytgecclccmmcdoaa
