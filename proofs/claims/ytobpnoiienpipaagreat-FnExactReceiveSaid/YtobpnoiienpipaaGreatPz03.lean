/-
  What is proved: rows of cells that a call owns; an append of cells to one; what the functions that draw rows of chapter 2 answer.
  Conditions: the cursor's block holds a cursor.
-/
import Derived.Test.YtobpnoiienpipaaGreatPz02
import Derived.Deep.AppendLies
import Derived.Laws.MakeOwn
import Derived.Laws.CopyOwn
import Derived.Deep.RegionLawGrows
namespace Go.Proofs.YtobpnoiienpipaaGreat
set_option linter.unusedVariables false
open Go.RowKit
attribute [local go_sem] run_store_float run_store_complex unary_negf neg256

def cellsOf (cs : List C3) : List Value := cs.flatMap fun c => [.float .f32 c.1, .complex .f32 c.2.1 c.2.2]
theorem cellsOf_len (cs : List C3) : (cellsOf cs).length = cs.length * 2 := by
  induction cs with
  | nil => rfl
  | cons c cs ih => simp only [cellsOf, List.flatMap_cons, List.length_append, List.length_cons, List.length_nil] at ih ⊢; rw [ih]; omega
theorem cellsOf_append (cs ds : List C3) : cellsOf (cs ++ ds) = cellsOf cs ++ cellsOf ds := by simp [cellsOf]
theorem cellsOf_get (cs : List C3) : ∀ i, (cellsOf cs)[i * 2]? = cs[i]?.map (fun c => .float .f32 c.1) ∧ (cellsOf cs)[i * 2 + 1]? = cs[i]?.map (fun c => .complex .f32 c.2.1 c.2.2) := by
  induction cs with
  | nil => intro i; simp [cellsOf]
  | cons c cs ih =>
    intro i
    have e : cellsOf (c :: cs) = .float .f32 c.1 :: .complex .f32 c.2.1 c.2.2 :: cellsOf cs := by simp [cellsOf]
    rw [e]
    cases i with
    | zero => simp
    | succ i =>
      have := ih i
      rw [show (i + 1) * 2 = i * 2 + 1 + 1 by omega]
      simpa using this
theorem cellsOf_one (cs : List C3) : ∀ u ∈ cellsOf cs, u.oneCell' = true := by
  intro u hu
  obtain ⟨c, _, hc⟩ := List.mem_flatMap.1 hu
  rcases List.mem_cons.1 hc with rfl | hc
  · rfl
  · obtain rfl := List.mem_singleton.1 hc; rfl
theorem RowV.cells {w : World} {g o c : Nat} {ds : List C3} (h : RowV w (.slice (some ⟨g, o, none⟩) ds.length c) ds) (j : Nat) (u : Value) (hu : (cellsOf ds)[j]? = some u) : w.cell? ((⟨g, o, none⟩ : Addr).add j) = some u := by
  have hadd : (⟨g, o, none⟩ : Addr).add j = ⟨g, o + j, none⟩ := by unfold Addr.add; split <;> simp_all
  rw [hadd]
  rcases h with ⟨h, _⟩ | ⟨g', o', cap, h, _, hcell⟩
  · cases h
  · simp only [Value.slice.injEq, Option.some.injEq, Addr.mk.injEq, and_true] at h
    obtain ⟨⟨rfl, rfl⟩, _⟩ := h
    have hj : j < ds.length * 2 := by rw [← cellsOf_len]; exact (List.getElem?_eq_some_iff.1 hu).1
    have hi : j / 2 < ds.length := by omega
    obtain ⟨g1, g2⟩ := hcell (j / 2) hi
    obtain ⟨e1, e2⟩ := cellsOf_get ds (j / 2)
    rw [List.getElem?_eq_getElem hi] at e1 e2
    rcases (by omega : j = j / 2 * 2 ∨ j = j / 2 * 2 + 1) with h | h
    · rw [h, e1] at hu
      rw [h, g1]; exact hu
    · rw [h, e2] at hu
      rw [h, ← Nat.add_assoc, g2]; exact hu

/-- The slice v of cells, owned from block base on, holds cs. -/
def OwnC (w : World) (base : Nat) (v : Value) (cs : List C3) : Prop := w.ownsRow base 61 2 v cs.length (cellsOf cs)
theorem OwnC.row {w : World} {base : Nat} {v : Value} {cs : List C3} (h : OwnC w base v cs) : RowV w v cs := by
  have h' := h
  rcases h.2 with ⟨rfl, h0⟩ | ⟨g, cap, cur, rfl, hb, hg, hn, hc, hsz, htk⟩
  · exact .inl ⟨rfl, List.eq_nil_of_length_eq_zero h0⟩
  · refine .inr ⟨g, 0, cap, rfl, hn, fun i hi => ?_⟩
    have hadd : ∀ j, (⟨g, 0, none⟩ : Addr).add j = ⟨g, 0 + j, none⟩ := by intro j; unfold Addr.add; split <;> simp_all
    obtain ⟨e1, e2⟩ := cellsOf_get cs i
    rw [List.getElem?_eq_getElem hi] at e1 e2
    have k1 := World.ownsRow.cells h' (g := g) rfl _ _ e1
    have k2 := World.ownsRow.cells h' (g := g) rfl _ _ e2
    rw [hadd] at k1 k2
    exact ⟨k1, by rw [Nat.add_assoc]; exact k2⟩
theorem OwnC.kept {w w' : World} {base : Nat} {v : Value} {cs : List C3} {row : Option Nat} (h : OwnC w base v cs) (hg : w.grownBy w' row) (hne : v.ownBlock = none ∨ v.ownBlock ≠ row) : OwnC w' base v cs := World.ownsRow.kept h hg hne
theorem OwnC.alloc {w : World} {base : Nat} {v : Value} {cs : List C3} (h : OwnC w base v cs) (o : Obj) : OwnC (w.alloc o) base v cs := World.ownsRow.alloc h o
theorem OwnC.made0 (w : World) : OwnC (w.alloc (.cells #[] 61)) w.heap.size (.slice (some ⟨w.heap.size, 0, none⟩) 0 0) [] := World.ownsRow_made w #[] 0 (Nat.le_refl _) (by unfold maxLen; omega) rfl
theorem OwnC.lt {w : World} {base : Nat} {v : Value} {cs : List C3} (h : OwnC w base v cs) : ∀ k, v.ownBlock = some k → base ≤ k ∧ k < w.heap.size := World.ownsRow.lt h
theorem OwnC.nil (w : World) (base : Nat) : OwnC w base (.slice none 0 0) [] := World.ownsRow_nil _ _ _ _
theorem OwnC.shape {w : World} {base : Nat} {v : Value} {cs : List C3} (h : OwnC w base v cs) :
    (v = .slice none 0 0 ∧ cs = []) ∨ ∃ g cap, v = .slice (some ⟨g, 0, none⟩) cs.length cap ∧ base ≤ g ∧ g < w.heap.size ∧ cs.length ≤ cap ∧ cap ≤ maxLen := by
  rcases h.2 with ⟨rfl, h0⟩ | ⟨g, cap, cur, rfl, hb, hg, hn, hc, _⟩
  · exact .inl ⟨rfl, List.eq_nil_of_length_eq_zero h0⟩
  · exact .inr ⟨g, cap, rfl, hb, (Array.getElem?_eq_some_iff.1 hg).1, hn, hc⟩

/-- Cells that can be read, appended. -/
theorem own_append {ops : Array Oper} {rest : List Oper} {o : Oper} {a : Act} {w : World} {Q : Exit → Act → World → Prop} (hgd : o.guard = none) (s x : Operand)
    (ho : o.op = .call { callee := .builtin .append, args := #[s, x], argTypes := #[40, 40] })
    (base : Nat) (v : Value) (cs ds : List C3) (hs : a.eval s = v) (hown : OwnC w base v cs) (g o' c : Nat) (hx : a.eval x = .slice (some ⟨g, o', none⟩) ds.length c) (hrow : RowV w (.slice (some ⟨g, o', none⟩) ds.length c) ds)
    (hm : 0 < ds.length) (hlen : cs.length + ds.length ≤ 1000000) (hbase : base ≤ w.heap.size)
    (h : ∀ g cap w', OwnC w' base (.slice (some ⟨g, 0, none⟩) (cs.length + ds.length) cap) (cs ++ ds) → w.grownBy w' v.ownBlock → (v.ownBlock = some g ∨ g = w.heap.size) → g < w'.heap.size → wpList Tryz.prog ops Q rest (a.put o.dst (.slice (some ⟨g, 0, none⟩) (cs.length + ds.length) cap)) w') :
    wpList Tryz.prog ops Q (o :: rest) a w := by
  obtain ⟨i0, hi, hz0, hz1, hz2⟩ := info_parts info_cell
  refine wpList_append_lies w hgd s x 40 ho base 61 i0 _ 2 12 Tryz.underlying40 hi hz0 hz1 hz2 rfl (by decide) v cs.length _ hs hown ⟨g, o', none⟩ ds.length c (cellsOf ds) hx (cellsOf_len ds) (fun j u hu => hrow.cells j u hu) (cellsOf_one ds) hm (by unfold maxLen; omega) (by omega) hbase w.heap.size rfl ?_
  intro g cap w' h2 h3 h4 h5
  refine h g cap w' ?_ h3 h4 h5
  unfold OwnC
  rw [List.length_append, cellsOf_append]
  exact h2

theorem grown_set {a w : World} {g : Nat} (h : a.grownBy w (some g)) {p : Addr} (hp : a.heap.size ≤ p.block) (u : Value) : a.grownBy (w.setCell p u) (some g) :=
  ⟨h.os, h.tape, h.output, by simpa [World.setCell] using h.size, fun i hi hne => (Below.heap_setCell w p u i (by omega)).trans (h.block i hi hne)⟩
theorem grown_alloc {a w : World} {row : Option Nat} (h : a.grownBy w row) (o : Obj) : a.grownBy (w.alloc o) row :=
  ⟨h.os, h.tape, h.output, Nat.le_trans h.size (by simp), fun i hi hne => (Below.heap_alloc w o i (Nat.lt_of_lt_of_le hi h.size)).trans (h.block i hi hne)⟩
theorem Cur.set {w : World} {b : Nat} (h : Cur w b) {p : Addr} (hp : b < p.block) (u : Value) : Cur (w.setCell p u) b :=
  h.grown (row := some p.block) ⟨rfl, rfl, rfl, by simp [World.setCell], fun i hi hne => Below.heap_setCell w p u i (fun e => hne (by rw [e]))⟩ (fun r hr => by cases hr; exact hp)

end Go.Proofs.YtobpnoiienpipaaGreat

/-
  What is proved: lists of single floats as they lie in memory; lists that a call owns.
  Conditions: those that each fact names.
-/
namespace Go.Proofs.YtobpnoiienpipaaGreat
set_option linter.unusedVariables false
open Go.RowKit
attribute [local go_sem] run_store_float run_store_complex unary_negf neg256

/-- The slice v of floats reads as xs. -/
def FRow (w : World) (v : Value) (xs : List Nat) : Prop :=
  ((∃ a c, v = .slice a 0 c) ∧ xs = []) ∨ ∃ g o cap, v = .slice (some ⟨g, o, none⟩) xs.length cap ∧ xs.length ≤ cap ∧ ∀ i (h : i < xs.length), w.cell? ⟨g, o + i, none⟩ = some (.float .f32 xs[i])
theorem FRow.grown {w w' : World} {v : Value} {xs : List Nat} (h : FRow w v xs) (hg : w.grownBy w' none) : FRow w' v xs := by
  rcases h with h | ⟨g, o, cap, h1, h2, h3⟩
  · exact .inl h
  · exact .inr ⟨g, o, cap, h1, h2, fun i hi => hg.cell (h3 i hi) (by simp)⟩
theorem FRow.below {w w' : World} {v : Value} {xs : List Nat} (h : FRow w v xs) (hb : Below w.heap.size w w') : FRow w' v xs := h.grown (grown_of hb)
theorem FRow.far {w w' : World} {v : Value} {xs : List Nat} {row : Option Nat} (h : FRow w v xs) (hg : w.grownBy w' row) (hne : ∀ k, v.ownBlock = some k → row ≠ some k) : FRow w' v xs := by
  rcases h with h | ⟨g, o, cap, h1, h2, h3⟩
  · exact .inl h
  · refine .inr ⟨g, o, cap, h1, h2, fun i hi => hg.cell (h3 i hi) ?_⟩
    subst h1
    intro e
    exact hne g rfl e.symm
theorem FRow.lenv {w : World} {v : Value} {xs : List Nat} (h : FRow w v xs) : ∃ a c, v = .slice a xs.length c := by
  rcases h with ⟨⟨a, c, rfl⟩, rfl⟩ | ⟨g, o, cap, rfl, _, _⟩
  · exact ⟨a, c, rfl⟩
  · exact ⟨_, _, rfl⟩
theorem FRow.any {w : World} {v : Value} {xs : List Nat} (h : FRow w v xs) : ∃ a c, v = .slice a xs.length c ∧ ∀ k (hk : k < xs.length), ∃ g o, a = some ⟨g, o, none⟩ ∧ xs.length ≤ c ∧ w.cell? ⟨g, o + k, none⟩ = some (.float .f32 xs[k]) := by
  rcases h with ⟨⟨a, c, rfl⟩, rfl⟩ | ⟨g, o, cap, rfl, hc, h3⟩
  · exact ⟨a, c, rfl, fun k hk => absurd hk (by simp)⟩
  · exact ⟨_, _, rfl, fun k hk => ⟨g, o, rfl, hc, h3 k hk⟩⟩
theorem FRow.nil (w : World) : FRow w (.slice none 0 0) [] := .inl ⟨⟨_, _, rfl⟩, rfl⟩

/-- Block b has at least n cells; the first k are those of xs. -/
def MadeF (w : World) (b n k : Nat) (xs : List Nat) : Prop :=
  ∃ cur : Array Value, w.heap[b]? = some (.cells cur 25 (0, 0)) ∧ n ≤ cur.size ∧ ∀ i (h : i < xs.length), i < k → cur[i]? = some (.float .f32 xs[i])
theorem MadeF.kept {w w' : World} {b n k : Nat} {xs : List Nat} (h : MadeF w b n k xs) (hb : w'.heap[b]? = w.heap[b]?) : MadeF w' b n k xs := by
  obtain ⟨cur, h1, h2⟩ := h
  exact ⟨cur, hb.trans h1, h2⟩
theorem MadeF.lt {w : World} {b n k : Nat} {xs : List Nat} (h : MadeF w b n k xs) : b < w.heap.size := by
  obtain ⟨cur, h1, _⟩ := h
  exact (Array.getElem?_eq_some_iff.1 h1).1
theorem heapF {w : World} {b i : Nat} {c : Array Value} {t : TypeId} {v : Value} (h : w.heap[b]? = some (.cells c t (0, 0))) : (w.setCell ⟨b, i, none⟩ v).heap[b]? = some (.cells (c.setIfInBounds i v) t (0, 0)) := heap_put h
theorem MadeF.step {w : World} {b n k : Nat} {xs : List Nat} (h : MadeF w b n k xs) (hn : k < xs.length) (hk : xs.length ≤ n) :
    MadeF (w.setCell ⟨b, k, none⟩ (.float .f32 xs[k])) b n (k + 1) xs := by
  obtain ⟨cur, h1, h2, h3⟩ := h
  refine ⟨cur.setIfInBounds k (.float .f32 xs[k]), heapF h1, by simpa using h2, fun i hi hik => ?_⟩
  by_cases e : i = k
  · subst e
    rw [Array.getElem?_setIfInBounds, if_pos rfl, if_pos (by omega)]
  · rw [Array.getElem?_setIfInBounds, if_neg (by omega)]
    exact h3 i hi (by omega)
theorem MadeF.zero {w : World} {b n k : Nat} {xs ys : List Nat} (h : MadeF w b n k xs) : MadeF w b n 0 ys := by
  obtain ⟨cur, h1, h2, _⟩ := h
  exact ⟨cur, h1, h2, fun i h hi => by omega⟩
theorem MadeF.at {w : World} {b n k : Nat} {xs : List Nat} (h : MadeF w b n k xs) (i : Nat) (hi : i < n) : (∃ x, w.cell? ⟨b, i, none⟩ = some x) ∧ w.frozen? ⟨b, i, none⟩ = false := by
  obtain ⟨cur, h1, h2, _⟩ := h
  refine ⟨⟨cur[i]'(by omega), ?_⟩, ?_⟩
  · simp [World.cell?, h1, Array.getElem?_eq_getElem (show i < cur.size by omega)]
  · simp [World.frozen?, h1]
theorem MadeF.get {w : World} {b n k : Nat} {xs : List Nat} (h : MadeF w b n k xs) (i : Nat) (hi : i < xs.length) (hk : i < k) : w.cell? ⟨b, i, none⟩ = some (.float .f32 xs[i]) := by
  obtain ⟨cur, h1, h2, h3⟩ := h
  simp [World.cell?, h1, h3 i hi hk]
theorem info_f32 : (Tryz.prog.info? 25).map (fun i => (i.zero, i.size, i.bytes)) = some (some (.float .f32 0), 1, 4) := by kernel_rfl
theorem make_floats (n : Nat) (hn : n ≤ 1000000000) (W : World) : (Instr.makeSlice 31 (.int .i64 (n : Int)) (.int .i64 (n : Int))).run Tryz.prog W = .ok (.slice (some ⟨W.heap.size, 0, none⟩) n n) (W.alloc (.cells (madeCells #[.float .f32 0] n) 25)) := by
  obtain ⟨i0, hi, hz0, hz1, hz2⟩ := info_parts info_f32
  have h := run_make (P := Tryz.prog) W 31 25 i0 _ Tryz.underlying31 hi hz0 .i64 .i64 n n (by omega) (by omega) (by rw [hz2]; omega) (by omega)
  rw [hz1] at h
  simpa [Value.cells] using h
theorem MadeF.start (w : World) (n : Nat) (xs : List Nat) : MadeF (w.alloc (.cells (madeCells #[.float .f32 0] n) 25)) w.heap.size n 0 xs :=
  ⟨_, heap_alloc_new w _, by rw [size_madeCells]; exact Nat.le_refl _, fun i h hi => by omega⟩

/-- The slice v of floats, whose block is base or behind, reads as xs, and may be written. -/
def FNew (w : World) (base : Nat) (v : Value) (xs : List Nat) : Prop :=
  (v = .slice none 0 0 ∧ xs = []) ∨ ∃ g cap, v = .slice (some ⟨g, 0, none⟩) xs.length cap ∧ base ≤ g ∧ xs.length ≤ cap ∧ MadeF w g xs.length xs.length xs
theorem FNew.row {w : World} {base : Nat} {v : Value} {xs : List Nat} (h : FNew w base v xs) : FRow w v xs := by
  rcases h with h | ⟨g, cap, h1, _, h2, h3⟩
  · exact .inl ⟨⟨_, _, h.1⟩, h.2⟩
  · exact .inr ⟨g, 0, cap, h1, h2, fun i hi => by rw [Nat.zero_add]; exact h3.get i hi hi⟩
theorem FNew.far {w w' : World} {base : Nat} {v : Value} {xs : List Nat} {row : Option Nat} (h : FNew w base v xs) (hg : w.grownBy w' row) (hne : ∀ k, v.ownBlock = some k → row ≠ some k) : FNew w' base v xs := by
  rcases h with h | ⟨g, cap, h1, h0, h2, h3⟩
  · exact .inl h
  · refine .inr ⟨g, cap, h1, h0, h2, h3.kept (hg.block g h3.lt ?_)⟩
    subst h1
    intro e
    exact hne g rfl e.symm
theorem FNew.below {w w' : World} {base : Nat} {v : Value} {xs : List Nat} (h : FNew w base v xs) (hb : Below w.heap.size w w') : FNew w' base v xs := h.far (grown_of hb) (fun _ _ => by simp)
theorem FNew.lt {w : World} {base : Nat} {v : Value} {xs : List Nat} (h : FNew w base v xs) : ∀ k, v.ownBlock = some k → base ≤ k ∧ k < w.heap.size := by
  rcases h with ⟨rfl, _⟩ | ⟨g, cap, rfl, h0, _, h3⟩
  · intro k hk; cases hk
  · intro k hk
    have e : g = k := Option.some.inj hk
    subst e
    exact ⟨h0, h3.lt⟩
theorem FNew.nil (w : World) (base : Nat) : FNew w base (.slice none 0 0) [] := .inl ⟨rfl, rfl⟩
theorem FNew.mono {w : World} {base base' : Nat} {v : Value} {xs : List Nat} (h : FNew w base v xs) (hb : base' ≤ base) : FNew w base' v xs := by
  rcases h with h | ⟨g, cap, h1, h0, h2⟩
  · exact .inl h
  · exact .inr ⟨g, cap, h1, by omega, h2⟩
theorem MadeF.new {w : World} {base b : Nat} {xs : List Nat} {n : Nat} (h : MadeF w b n n xs) (hn : xs.length = n) (hb : base ≤ b) : FNew w base (.slice (some ⟨b, 0, none⟩) n n) xs := by
  subst hn
  exact .inr ⟨b, xs.length, rfl, hb, Nat.le_refl _, h⟩

/-- The slice v of floats, owned from block base on, holds xs. -/
def OwnF (w : World) (base : Nat) (v : Value) (xs : List Nat) : Prop := w.ownsRow base 25 1 v xs.length (xs.map (.float .f32))
theorem OwnF.new {w : World} {base : Nat} {v : Value} {xs : List Nat} (h : OwnF w base v xs) : FNew w base v xs := by
  rcases h.2 with ⟨rfl, h0⟩ | ⟨g, cap, cur, rfl, hb, hg, hn, hc, hsz, htk⟩
  · exact .inl ⟨rfl, List.eq_nil_of_length_eq_zero h0⟩
  · refine .inr ⟨g, cap, rfl, hb, hn, cur, hg, by omega, fun i hi _ => ?_⟩
    have h1 : (cur.toList.take (xs.length * 1))[i]? = (xs.map (Value.float .f32))[i]? := by rw [htk]
    rw [List.getElem?_take, if_pos (by omega), List.getElem?_map, List.getElem?_eq_getElem hi] at h1
    rw [← Array.getElem?_toList]
    exact h1
theorem OwnF.made0 (w : World) : OwnF (w.alloc (.cells #[] 25)) w.heap.size (.slice (some ⟨w.heap.size, 0, none⟩) 0 0) [] := World.ownsRow_made w #[] 0 (Nat.le_refl _) (by unfold maxLen; omega) rfl
theorem OwnF.kept {w w' : World} {base : Nat} {v : Value} {xs : List Nat} {row : Option Nat} (h : OwnF w base v xs) (hg : w.grownBy w' row) (hne : v.ownBlock = none ∨ v.ownBlock ≠ row) : OwnF w' base v xs := World.ownsRow.kept h hg hne
theorem OwnF.alloc {w : World} {base : Nat} {v : Value} {xs : List Nat} (h : OwnF w base v xs) (o : Obj) : OwnF (w.alloc o) base v xs := World.ownsRow.alloc h o
theorem OwnF.lt {w : World} {base : Nat} {v : Value} {xs : List Nat} (h : OwnF w base v xs) : ∀ k, v.ownBlock = some k → base ≤ k ∧ k < w.heap.size := World.ownsRow.lt h
theorem OwnF.shape {w : World} {base : Nat} {v : Value} {xs : List Nat} (h : OwnF w base v xs) :
    (v = .slice none 0 0 ∧ xs = []) ∨ ∃ g cap, v = .slice (some ⟨g, 0, none⟩) xs.length cap ∧ base ≤ g ∧ g < w.heap.size ∧ xs.length ≤ cap ∧ cap ≤ maxLen := by
  rcases h.2 with ⟨rfl, h0⟩ | ⟨g, cap, cur, rfl, hb, hg, hn, hc, _⟩
  · exact .inl ⟨rfl, List.eq_nil_of_length_eq_zero h0⟩
  · exact .inr ⟨g, cap, rfl, hb, (Array.getElem?_eq_some_iff.1 hg).1, hn, hc⟩
/-- Floats that can be read, appended. -/
theorem ownF_append {ops : Array Oper} {rest : List Oper} {o : Oper} {a : Act} {w : World} {Q : Exit → Act → World → Prop} (hgd : o.guard = none) (s x : Operand)
    (ho : o.op = .call { callee := .builtin .append, args := #[s, x], argTypes := #[31, 31] })
    (base : Nat) (v : Value) (xs ys : List Nat) (hs : a.eval s = v) (hown : OwnF w base v xs) (g o' c : Nat) (hx : a.eval x = .slice (some ⟨g, o', none⟩) ys.length c)
    (hrow : ∀ i (h : i < ys.length), w.cell? ⟨g, o' + i, none⟩ = some (.float .f32 ys[i]))
    (hm : 0 < ys.length) (hlen : xs.length + ys.length ≤ 1000000000) (hbase : base ≤ w.heap.size)
    (h : ∀ g cap w', OwnF w' base (.slice (some ⟨g, 0, none⟩) (xs.length + ys.length) cap) (xs ++ ys) → w.grownBy w' v.ownBlock → (v.ownBlock = some g ∨ g = w.heap.size) → g < w'.heap.size → wpList Tryz.prog ops Q rest (a.put o.dst (.slice (some ⟨g, 0, none⟩) (xs.length + ys.length) cap)) w') :
    wpList Tryz.prog ops Q (o :: rest) a w := by
  obtain ⟨i0, hi, hz0, hz1, hz2⟩ := info_parts info_f32
  refine wpList_append_lies w hgd s x 31 ho base 25 i0 _ 1 4 Tryz.underlying31 hi hz0 hz1 hz2 rfl (by decide) v xs.length _ hs hown ⟨g, o', none⟩ ys.length c (ys.map (.float .f32)) hx (by simp) ?_ ?_ hm (by unfold maxLen; omega) (by omega) hbase w.heap.size rfl ?_
  · intro j u hu
    have hadd : (⟨g, o', none⟩ : Addr).add j = ⟨g, o' + j, none⟩ := by unfold Addr.add; split <;> simp_all
    rw [hadd]
    rw [List.getElem?_map] at hu
    by_cases hj : j < ys.length
    · rw [List.getElem?_eq_getElem hj] at hu
      cases hu
      exact hrow j hj
    · rw [List.getElem?_eq_none (by omega)] at hu; cases hu
  · intro u hu
    obtain ⟨x, _, rfl⟩ := List.mem_map.1 hu
    rfl
  intro g cap w' h2 h3 h4 h5
  refine h g cap w' ?_ h3 h4 h5
  unfold OwnF
  rw [List.length_append, List.map_append]
  exact h2
/-- One float of a new block, appended. -/
theorem ownF_snoc {ops : Array Oper} {rest : List Oper} {o : Oper} {a : Act} {w : World} {Q : Exit → Act → World → Prop} (hgd : o.guard = none) (s x : Operand)
    (ho : o.op = .call { callee := .builtin .append, args := #[s, x], argTypes := #[31, 31] })
    (base : Nat) (v : Value) (xs : List Nat) (n : Nat) (hs : a.eval s = v) (hown : OwnF w base v xs) (hn : xs.length = n) (g : Nat) (hx : a.eval x = .slice (some ⟨g, 0, none⟩) 1 1)
    (z : Nat) (hrow : w.cell? ⟨g, 0, none⟩ = some (.float .f32 z)) (hlen : n + 1 ≤ 1000000000) (hbase : base ≤ w.heap.size)
    (h : ∀ g cap w', OwnF w' base (.slice (some ⟨g, 0, none⟩) (n + 1) cap) (xs ++ [z]) → w.grownBy w' v.ownBlock → (v.ownBlock = some g ∨ g = w.heap.size) → g < w'.heap.size → wpList Tryz.prog ops Q rest (a.put o.dst (.slice (some ⟨g, 0, none⟩) (n + 1) cap)) w') :
    wpList Tryz.prog ops Q (o :: rest) a w := by
  subst hn
  refine ownF_append hgd s x ho base v xs [z] hs hown g 0 1 hx ?_ (by simp) (by simpa using hlen) hbase h
  intro i hi
  have hi0 : i = 0 := by simpa using hi
  subst hi0
  exact hrow
theorem lit_cell (z : Nat) (W : World) : (W.alloc (.cells #[.float .f32 z] 25)).cell? ⟨W.heap.size, 0, none⟩ = some (.float .f32 z) :=
  (cell_of_row _ _ 0 _ _ _ (heap_alloc_new W (.cells #[.float .f32 z] 25))).trans rfl
theorem snoc_below {w wr w' : World} {v : Value} {xs : List Nat} (hb : Below w.heap.size w wr) (ho : OwnF wr w.heap.size v xs) (o : Obj) (hg : (wr.alloc o).grownBy w' v.ownBlock) : Below w.heap.size w w' :=
  (hb.alloc hb.size o).grown hg (Nat.le_trans hb.size (by simp)) (fun k hk => (ho.lt k hk).1)
end Go.Proofs.YtobpnoiienpipaaGreat

/-
  What is proved: what the functions that draw rows of cells answer; the law's size test.
  Conditions: the cursor's block holds a cursor; the bytes that they draw from can be read.
-/
namespace Go.Proofs.YtobpnoiienpipaaGreat
set_option linter.unusedVariables false
open Go.RowKit
attribute [local go_sem] run_store_float run_store_complex unary_negf neg256

theorem drawn {w w1 w2 : World} (h1 : w.grownBy w1 none) (h2 : w1.grownBy w2 (some w.heap.size)) : Below w.heap.size w w2 :=
  ((Below.refl _ _).grown h1 (Nat.le_refl _) (fun _ h => by cases h)).grown h2 h1.size (fun k h => by cases h; exact Nat.le_refl _)
/-- Block x holds a cell whose bits fit. -/
def Holds (w : World) (x : Nat) (y u v : Nat) : Prop := (y < 2 ^ 32 ∧ u < 2 ^ 32 ∧ v < 2 ^ 32) ∧ w.heap[x]? = some (.cells #[.float .f32 y, .complex .f32 u v] 61 (0, 0))
theorem Holds.kept {w w' : World} {x y u v : Nat} {row : Option Nat} (h : Holds w x y u v) (hg : w.grownBy w' row) (hne : some x ≠ row) : Holds w' x y u v :=
  ⟨h.1, (hg.block x (Array.getElem?_eq_some_iff.1 h.2).1 hne).trans h.2⟩
theorem Holds.c0 {w : World} {x y u v : Nat} (h : Holds w x y u v) : w.cell? ⟨x, 0, none⟩ = some (.float .f32 y) := by simp [World.cell?, h.2]
theorem Holds.c1 {w : World} {x y u v : Nat} (h : Holds w x y u v) : w.cell? ⟨x, 1, none⟩ = some (.complex .f32 u v) := by simp [World.cell?, h.2]
theorem Holds.f0 {w : World} {x y u v : Nat} (h : Holds w x y u v) : w.frozen? ⟨x, 0, none⟩ = false := by simp [World.frozen?, h.2]
theorem Holds.f1 {w : World} {x y u v : Nat} (h : Holds w x y u v) : w.frozen? ⟨x, 1, none⟩ = false := by simp [World.frozen?, h.2]
theorem Holds.put {w : World} {x y u v y' u' v' : Nat} (h : Holds w x y u v) (hf : y' < 2 ^ 32 ∧ u' < 2 ^ 32 ∧ v' < 2 ^ 32) : Holds ((w.setCell ⟨x, 0, none⟩ (.float .f32 y')).setCell ⟨x, 1, none⟩ (.complex .f32 u' v')) x y' u' v' :=
  ⟨hf, heap_put (i := 1) (heap_put (i := 0) h.2)⟩
theorem Fit.snoc {cs : List C3} {y u v : Nat} (h : Fit cs) (hf : y < 2 ^ 32 ∧ u < 2 ^ 32 ∧ v < 2 ^ 32) : Fit (cs ++ [(y, u, v)]) := by
  intro c hc
  rcases List.mem_append.1 hc with hc | hc
  · exact h c hc
  · obtain rfl := List.mem_singleton.1 hc; exact hf
theorem row_lit (w : World) (y u v : Nat) : RowV (w.alloc (.cells #[.float .f32 y, .complex .f32 u v] 61)) (.slice (some ⟨w.heap.size, 0, none⟩) 1 1) [(y, u, v)] := by
  refine .inr ⟨w.heap.size, 0, 1, rfl, Nat.le_refl _, fun i hi => ?_⟩
  have hi0 : i = 0 := by simpa using hi
  subst hi0
  have := heap_alloc_new w (.cells #[.float .f32 y, .complex .f32 u v] 61)
  exact ⟨(cell_of_row _ _ 0 _ _ _ this).trans rfl, (cell_of_row _ _ 1 _ _ _ this).trans rfl⟩

def RowsPost (N : Nat) (b : Nat) (w : World) (e : Ending) (w' : World) : Prop := ∃ v cs, cs.length = N ∧ Fit cs ∧ e = .returned v ∧ RowV w' v cs ∧ Cur w' b ∧ w.grownBy w' (some b)
theorem RowsPost.mk {N b : Nat} {w w' : World} {v : Value} {cs : List C3} (hl : cs.length = N) (hf : Fit cs) (hr : RowV w' v cs) (hc : Cur w' b) (hg : w.grownBy w' (some b)) : RowsPost N b w (.returned v) w' := ⟨v, cs, hl, hf, rfl, hr, hc, hg⟩
/-- What stands at the head of a round of l02Cells. -/
structure Rnd (w wr : World) (b x : Nat) (v : Value) (cs : List C3) : Prop where
  own : OwnC wr w.heap.size v cs
  fit : Fit cs
  cur : Cur wr b
  grown : w.grownBy wr (some b)
  ne : v.ownBlock ≠ some x
  hold : ∃ y u v, Holds wr x y u v
theorem grown_own {a w w' : World} {g : Nat} {row : Option Nat} (h : a.grownBy w (some g)) (hg : w.grownBy w' row) (hr : ∀ r, row = some r → a.heap.size ≤ r) : a.grownBy w' (some g) :=
  ⟨hg.os.trans h.os, hg.tape.trans h.tape, hg.output.trans h.output, Nat.le_trans h.size hg.size, fun i hi hne => (hg.block i (Nat.lt_of_lt_of_le hi h.size) (fun e => by have := hr i e.symm; omega)).trans (h.block i hi hne)⟩
theorem Rnd.next {w wr w' : World} {b x : Nat} {v : Value} {cs : List C3} (h : Rnd w wr b x v cs) (hb : b < w.heap.size) (hbx : b ≠ x) (hc : Cur w' b) (hg : wr.grownBy w' (some b)) : Rnd w w' b x v cs := by
  refine ⟨h.own.kept hg ?_, h.fit, hc, h.grown.trans hg, h.ne, ?_⟩
  · cases hv : v.ownBlock with
    | none => exact .inl rfl
    | some k => exact .inr (fun e => by cases e; have := (h.own.lt b hv).1; omega)
  · obtain ⟨y, u, z, hh⟩ := h.hold
    exact ⟨y, u, z, hh.kept hg (fun e => by cases e; exact hbx rfl)⟩
theorem Rnd.put {w wr : World} {b x y u z y' u' z' : Nat} {v : Value} {cs : List C3} (h : Rnd w wr b x v cs) (hx : w.heap.size ≤ x) (hbx : b < x) (hh : Holds wr x y u z) (hf : y' < 2 ^ 32 ∧ u' < 2 ^ 32 ∧ z' < 2 ^ 32) :
    Rnd w ((wr.setCell ⟨x, 0, none⟩ (.float .f32 y')).setCell ⟨x, 1, none⟩ (.complex .f32 u' z')) b x v cs := by
  refine ⟨?_, h.fit, (h.cur.set (p := ⟨x, 0, none⟩) hbx _).set (p := ⟨x, 1, none⟩) hbx _, grown_set (grown_set h.grown (p := ⟨x, 0, none⟩) hx _) (p := ⟨x, 1, none⟩) hx _, h.ne, ⟨_, _, _, hh.put hf⟩⟩
  have h1 := h.own.kept (Lib.grownBy_setCell wr x 0 (.float .f32 y')) (.inr h.ne)
  exact h1.kept (Lib.grownBy_setCell _ x 1 (.complex .f32 u' z')) (.inr h.ne)
def AnyPost (b : Nat) (w : World) (e : Ending) (w' : World) : Prop := ∃ v cs, cs.length ≤ 1000 ∧ Fit cs ∧ e = .returned v ∧ RowV w' v cs ∧ Cur w' b ∧ w.grownBy w' (some b)
theorem AnyPost.mk {b : Nat} {w w' : World} {v : Value} {cs : List C3} (hl : cs.length ≤ 1000) (hf : Fit cs) (hr : RowV w' v cs) (hc : Cur w' b) (hg : w.grownBy w' (some b)) : AnyPost b w (.returned v) w' := ⟨v, cs, hl, hf, rfl, hr, hc, hg⟩
def Few (x : Int) : Prop := 0 ≤ x ∧ x ≤ 100
def DrawRow (w : World) (e : Ending) (w' : World) : Prop := ∃ v cs, cs.length ≤ 1000 ∧ Fit cs ∧ e = .returned v ∧ RowV w' v cs ∧ Below w.heap.size w w'
theorem DrawRow.mk {w w' : World} {v : Value} {cs : List C3} (hl : cs.length ≤ 1000) (hf : Fit cs) (hr : RowV w' v cs) (hb : Below w.heap.size w w') : DrawRow w (.returned v) w' := ⟨v, cs, hl, hf, rfl, hr, hb⟩
end Go.Proofs.YtobpnoiienpipaaGreat

/-
  What is proved: the walks of Delay, the program's and the model's.
  Conditions: the list can be read and has at most 1000000000 numbers.
-/
namespace Go.Proofs.YtobpnoiienpipaaGreat
set_option linter.unusedVariables false
open Go.RowKit
attribute [local go_sem] run_store_float run_store_complex unary_negf neg256

/-- An answer of a list and whether there is one; the list lies in new memory. -/
def Ans (ok : Bool) (R : List Nat → Prop) (w : World) (e : Ending) (w' : World) : Prop := ∃ v ys, e = .returned (.tuple #[v, .bool ok]) ∧ R ys ∧ FNew w' w.heap.size v ys ∧ Below w.heap.size w w'
theorem Ans.mk {ok : Bool} {R : List Nat → Prop} {w w' : World} {v : Value} {ys : List Nat} (hr : R ys) (h : FNew w' w.heap.size v ys) (hb : Below w.heap.size w w') : Ans ok R w (.returned (.tuple #[v, .bool ok])) w' := ⟨v, ys, rfl, hr, h, hb⟩

end Go.Proofs.YtobpnoiienpipaaGreat
