/-
  What is proved: lists whose elements take any number of cells each: reading them, owning them, appending to them.
  Conditions: those that each fact names.
-/
import Derived.Test.YtobpnoiienpipaaGreatPz14
import Derived.Test.YtobpnoiienpipaaGreatPz04
namespace Go.Proofs.YtobpnoiienpipaaGreat
set_option linter.unusedVariables false
open Go.RowKit

/-- How the elements of a list lie: t is the list's type, e an element's, which takes size cells. -/
structure Lay (α : Type) where
  t : TypeId
  e : TypeId
  size : Nat
  bytes : Nat
  enc : α → List Value
structure Lay.Ok {α : Type} (L : Lay α) : Prop where
  len : ∀ x, (L.enc x).length = L.size
  one : ∀ x, ∀ u ∈ L.enc x, u.oneCell' = true
  pos : 0 < L.size
  und : Tryz.prog.underlying L.t = some (.slice L.e)
  info : ∃ i z, Tryz.prog.info? L.e = some i ∧ i.zero = some z ∧ i.size = L.size ∧ i.bytes = L.bytes ∧ z.cells.size = L.size
  small : L.bytes ≤ 64
section
variable {α : Type} {L : Lay α}
def Lay.cells (L : Lay α) (xs : List α) : List Value := xs.flatMap L.enc
theorem Lay.Ok.cells_len (h : L.Ok) (xs : List α) : (L.cells xs).length = xs.length * L.size := by
  induction xs with
  | nil => simp [Lay.cells]
  | cons x xs ih =>
    simp only [Lay.cells, List.flatMap_cons, List.length_append, h.len, List.length_cons] at ih ⊢
    rw [ih, Nat.succ_mul]
    omega
theorem Lay.cells_append (xs ys : List α) : L.cells (xs ++ ys) = L.cells xs ++ L.cells ys := by simp [Lay.cells]
theorem Lay.cells_one (x : α) : L.cells [x] = L.enc x := by simp [Lay.cells]
theorem Lay.Ok.cells_get (h : L.Ok) : ∀ (xs : List α) (i j : Nat) (hi : i < xs.length), j < L.size → (L.cells xs)[i * L.size + j]? = (L.enc xs[i])[j]?
  | x :: xs, 0, j, _, hj => by
    show (L.enc x ++ L.cells xs)[0 * L.size + j]? = _
    rw [Nat.zero_mul, Nat.zero_add, List.getElem?_append_left (by rw [h.len]; exact hj)]
    rfl
  | x :: xs, i + 1, j, hi, hj => by
    show (L.enc x ++ L.cells xs)[(i + 1) * L.size + j]? = _
    rw [List.getElem?_append_right (by rw [h.len, Nat.succ_mul]; omega), h.len, show (i + 1) * L.size + j - L.size = i * L.size + j by rw [Nat.succ_mul]; omega]
    exact Lay.Ok.cells_get h xs i j (by simpa using hi) hj
theorem Lay.Ok.cells_1 (h : L.Ok) (xs : List α) : ∀ u ∈ L.cells xs, u.oneCell' = true := by
  intro u hu
  obtain ⟨x, _, hx⟩ := List.mem_flatMap.1 hu
  exact h.one x u hx
/-- The slice v reads as the list xs. -/
def Lay.Row (L : Lay α) (w : World) (v : Value) (xs : List α) : Prop := ((∃ a c, v = .slice a 0 c) ∧ xs = []) ∨ ∃ g o cap, v = .slice (some ⟨g, o, none⟩) xs.length cap ∧ xs.length ≤ cap ∧ ∀ j u, (L.cells xs)[j]? = some u → w.cell? ⟨g, o + j, none⟩ = some u
theorem Lay.Row.lenv {w : World} {v : Value} {xs : List α} (h : L.Row w v xs) : ∃ a c, v = .slice a xs.length c := by
  rcases h with ⟨⟨a, c, rfl⟩, rfl⟩ | ⟨g, o, cap, rfl, _⟩
  · exact ⟨_, _, rfl⟩
  · exact ⟨_, _, rfl⟩
theorem Lay.Row.far {w w' : World} {v : Value} {xs : List α} {row : Option Nat} (h : L.Row w v xs) (hg : w.grownBy w' row) (hne : ∀ k, v.ownBlock = some k → row ≠ some k) : L.Row w' v xs := by
  rcases h with h | ⟨g, o, cap, rfl, hc, hcell⟩
  · exact .inl h
  · exact .inr ⟨g, o, cap, rfl, hc, fun j u hu => hg.cell (hcell j u hu) (fun e => hne g rfl e.symm)⟩
theorem Lay.Row.grown {w w' : World} {v : Value} {xs : List α} (h : L.Row w v xs) (hg : w.grownBy w' none) : L.Row w' v xs := h.far hg (fun _ _ => by simp)
theorem Lay.Row.below {w w' : World} {v : Value} {xs : List α} (h : L.Row w v xs) (hb : Below w.heap.size w w') : L.Row w' v xs := h.grown ⟨hb.os, hb.tape, hb.output, hb.size, fun k hk _ => hb.block k hk⟩
/-- Each element of a list can be read. -/
theorem Lay.Row.any (hL : L.Ok) {w : World} {v : Value} {xs : List α} (h : L.Row w v xs) : ∃ a c, v = .slice a xs.length c ∧ ∀ k (hk : k < xs.length), ∃ g o, a = some ⟨g, o, none⟩ ∧ xs.length ≤ c ∧ ∀ j u, (L.enc xs[k])[j]? = some u → w.cell? ⟨g, o + (k * L.size + j), none⟩ = some u := by
  rcases h with ⟨⟨a, c, rfl⟩, rfl⟩ | ⟨g, o, cap, rfl, hc, hcell⟩
  · exact ⟨a, c, rfl, fun k hk => absurd hk (by simp)⟩
  · refine ⟨_, _, rfl, fun k hk => ⟨g, o, rfl, hc, fun j u hu => hcell _ u ?_⟩⟩
    have hj : j < L.size := by rw [← hL.len xs[k]]; exact (List.getElem?_eq_some_iff.1 hu).1
    rw [hL.cells_get xs k j hk hj]
    exact hu
/-- The slice v, owned from block base on, holds xs. -/
def Lay.Own (L : Lay α) (w : World) (base : Nat) (v : Value) (xs : List α) : Prop := w.ownsRow base L.e L.size v xs.length (L.cells xs)
theorem Lay.Own.row {w : World} {base : Nat} {v : Value} {xs : List α} (h : L.Own w base v xs) : L.Row w v xs := by
  have h' := h
  rcases h.2 with ⟨rfl, h0⟩ | ⟨g, cap, cur, rfl, hb, hg, hn, _⟩
  · exact .inl ⟨⟨_, _, rfl⟩, List.eq_nil_of_length_eq_zero h0⟩
  · refine .inr ⟨g, 0, cap, rfl, hn, fun j u hu => ?_⟩
    have hadd : (⟨g, 0, none⟩ : Addr).add j = ⟨g, 0 + j, none⟩ := by unfold Addr.add; split <;> simp_all
    have k1 := World.ownsRow.cells h' (g := g) rfl _ _ hu
    rw [hadd] at k1
    exact k1
theorem Lay.Own.kept {w w' : World} {base : Nat} {v : Value} {xs : List α} {row : Option Nat} (h : L.Own w base v xs) (hg : w.grownBy w' row) (hne : v.ownBlock = none ∨ v.ownBlock ≠ row) : L.Own w' base v xs := World.ownsRow.kept h hg hne
theorem Lay.Own.alloc {w : World} {base : Nat} {v : Value} {xs : List α} (h : L.Own w base v xs) (o : Obj) : L.Own (w.alloc o) base v xs := World.ownsRow.alloc h o
theorem Lay.Own.lt {w : World} {base : Nat} {v : Value} {xs : List α} (h : L.Own w base v xs) : ∀ k, v.ownBlock = some k → base ≤ k ∧ k < w.heap.size := World.ownsRow.lt h
theorem Lay.own0 (L : Lay α) (w : World) : L.Own (w.alloc (.cells #[] L.e)) w.heap.size (.slice (some ⟨w.heap.size, 0, none⟩) 0 0) [] := World.ownsRow_made w #[] 0 (Nat.le_refl _) (by unfold maxLen; omega) (by simp)
theorem Lay.ownNil (L : Lay α) (w : World) (base : Nat) : L.Own w base (.slice none 0 0) [] := World.ownsRow_nil _ _ _ _
theorem Lay.Own.shape {w : World} {base : Nat} {v : Value} {xs : List α} (h : L.Own w base v xs) :
    (v = .slice none 0 0 ∧ xs = []) ∨ ∃ g cap, v = .slice (some ⟨g, 0, none⟩) xs.length cap ∧ base ≤ g ∧ g < w.heap.size ∧ xs.length ≤ cap ∧ cap ≤ maxLen := by
  rcases h.2 with ⟨rfl, h0⟩ | ⟨g, cap, cur, rfl, hb, hg, hn, hc, _⟩
  · exact .inl ⟨rfl, List.eq_nil_of_length_eq_zero h0⟩
  · exact .inr ⟨g, cap, rfl, hb, (Array.getElem?_eq_some_iff.1 hg).1, hn, hc⟩
theorem Lay.Own.below {w w' : World} {base : Nat} {v : Value} {xs : List α} (h : L.Own w base v xs) (hb : Below w.heap.size w w') : L.Own w' base v xs :=
  h.kept (row := none) ⟨hb.os, hb.tape, hb.output, hb.size, fun k hk _ => hb.block k hk⟩ (by cases v.ownBlock <;> simp)
theorem Lay.Own.mono {w : World} {base base' : Nat} {v : Value} {xs : List α} (h : L.Own w base v xs) (hb : base' ≤ base) : L.Own w base' v xs :=
  ⟨h.1, h.2.imp id fun ⟨g, cap, cur, h1, h2, h3⟩ => ⟨g, cap, cur, h1, by omega, h3⟩⟩
/-- Elements that can be read, at least one, are appended. -/
theorem Lay.Ok.append (hL : L.Ok) {ops : Array Oper} {rest : List Oper} {o : Oper} {a : Act} {w : World} {Q : Exit → Act → World → Prop} (hgd : o.guard = none) (s x : Operand)
    (ho : o.op = .call { callee := .builtin .append, args := #[s, x], argTypes := #[L.t, L.t] })
    (base : Nat) (v : Value) (xs ys : List α) (n : Nat) (hs : a.eval s = v) (hown : L.Own w base v xs) (hn : xs.length = n) (g o' m c : Nat) (hx : a.eval x = .slice (some ⟨g, o', none⟩) m c) (hm : ys.length = m)
    (hrow : ∀ j u, (L.cells ys)[j]? = some u → w.cell? ⟨g, o' + j, none⟩ = some u) (h0 : 0 < m) (hlen : n + m ≤ 1000000000) (hbase : base ≤ w.heap.size)
    (h : ∀ g cap w', L.Own w' base (.slice (some ⟨g, 0, none⟩) (n + m) cap) (xs ++ ys) → w.grownBy w' v.ownBlock → (v.ownBlock = some g ∨ g = w.heap.size) → g < w'.heap.size → wpList Tryz.prog ops Q rest (a.put o.dst (.slice (some ⟨g, 0, none⟩) (n + m) cap)) w') :
    wpList Tryz.prog ops Q (o :: rest) a w := by
  subst hn hm
  obtain ⟨i, z, hi, hz, hz1, hz2, hz3⟩ := hL.info
  have hsm := hL.small
  refine wpList_append_lies w hgd s x L.t ho base L.e i z L.size L.bytes hL.und hi hz hz1 hz2 hz3 hL.pos v xs.length _ hs hown ⟨g, o', none⟩ ys.length c (L.cells ys) hx (hL.cells_len ys) ?_ (hL.cells_1 ys) h0 (by unfold maxLen; omega) ?_ hbase w.heap.size rfl ?_
  · intro j u hu
    have hadd : (⟨g, o', none⟩ : Addr).add j = ⟨g, o' + j, none⟩ := by unfold Addr.add; split <;> simp_all
    rw [hadd]
    exact hrow j u hu
  · exact Nat.le_trans (Nat.mul_le_mul hlen hsm) (by decide)
  intro g cap w' h2 h3 h4 h5
  refine h g cap w' ?_ h3 h4 h5
  unfold Lay.Own
  rw [List.length_append, Lay.cells_append]
  exact h2
/-- One element of a new block is appended. -/
theorem Lay.Ok.snoc (hL : L.Ok) {ops : Array Oper} {rest : List Oper} {o : Oper} {a : Act} {w : World} {Q : Exit → Act → World → Prop} (hgd : o.guard = none) (s x : Operand)
    (ho : o.op = .call { callee := .builtin .append, args := #[s, x], argTypes := #[L.t, L.t] })
    (base : Nat) (v : Value) (xs : List α) (n : Nat) (hs : a.eval s = v) (hown : L.Own w base v xs) (hn : xs.length = n) (g : Nat) (hx : a.eval x = .slice (some ⟨g, 0, none⟩) 1 1) (z : α)
    (hrow : ∀ j u, (L.enc z)[j]? = some u → w.cell? ⟨g, 0 + j, none⟩ = some u) (hlen : n + 1 ≤ 1000000000) (hbase : base ≤ w.heap.size)
    (h : ∀ g cap w', L.Own w' base (.slice (some ⟨g, 0, none⟩) (n + 1) cap) (xs ++ [z]) → w.grownBy w' v.ownBlock → (v.ownBlock = some g ∨ g = w.heap.size) → g < w'.heap.size → wpList Tryz.prog ops Q rest (a.put o.dst (.slice (some ⟨g, 0, none⟩) (n + 1) cap)) w') :
    wpList Tryz.prog ops Q (o :: rest) a w :=
  hL.append hgd s x ho base v xs [z] n hs hown hn g 0 1 1 hx rfl (fun j u hu => hrow j u (by rwa [Lay.cells_one] at hu)) (by decide) hlen hbase h
theorem Lay.Own.snoc_below {w wr w' : World} {v : Value} {xs : List α} (hb : Below w.heap.size w wr) (ho : L.Own wr w.heap.size v xs) (o : Obj) (hg : (wr.alloc o).grownBy w' v.ownBlock) : Below w.heap.size w w' :=
  (hb.alloc hb.size o).grown hg (Nat.le_trans hb.size (by simp)) (fun k hk => (ho.lt k hk).1)
/-- The block of a literal of one element. -/
theorem lit_cells (W : World) (cs : List Value) (t : TypeId) (j : Nat) (u : Value) (hu : cs[j]? = some u) : (W.alloc (.cells cs.toArray t)).cell? ⟨W.heap.size, 0 + j, none⟩ = some u := by
  have h1 := cell_of_row (W.alloc (.cells cs.toArray t)) W.heap.size j _ _ _ (heap_alloc_new W (.cells cs.toArray t))
  rw [Nat.zero_add, h1]
  simpa using hu
end
/-- What answers a new list. -/
def Lay.Got {α : Type} (L : Lay α) (xs : List α) (w : World) (e : Ending) (w' : World) : Prop := ∃ v, e = .returned v ∧ L.Own w' w.heap.size v xs ∧ Below w.heap.size w w'
theorem Lay.Got.mk {α : Type} {L : Lay α} {xs : List α} {w w' : World} {v : Value} (h : L.Own w' w.heap.size v xs) (hb : Below w.heap.size w w') : L.Got xs w (.returned v) w' := ⟨v, rfl, h, hb⟩
/-- Numbers. -/
def LI : Lay Int := ⟨74, 3, 1, 8, fun x => [.int .i64 x]⟩
theorem LI_ok : LI.Ok := by
  refine ⟨fun _ => rfl, fun x u hu => ?_, by decide, Tryz.underlying74, ?_, by decide⟩
  · obtain rfl := List.mem_singleton.1 hu; rfl
  · obtain ⟨i, h1, h2, h3, h4⟩ := info_parts (show (Tryz.prog.info? 3).map (fun i => (i.zero, i.size, i.bytes)) = some (some (.int .i64 0), 1, 8) by kernel_rfl)
    exact ⟨i, _, h1, h2, h3, h4, rfl⟩
/-- Runs: where one begins, and its length. -/
abbrev R2 := Nat × Nat
def LR : Lay R2 := ⟨103, 106, 2, 16, fun r => [.int .i64 (r.1 : Int), .int .i64 (r.2 : Int)]⟩
theorem LR_ok : LR.Ok := by
  refine ⟨fun _ => rfl, fun x u hu => ?_, by decide, Tryz.underlying103, ?_, by decide⟩
  · rcases List.mem_cons.1 hu with rfl | hu
    · rfl
    · obtain rfl := List.mem_singleton.1 hu; rfl
  · obtain ⟨i, h1, h2, h3, h4⟩ := info_parts (show (Tryz.prog.info? 106).map (fun i => (i.zero, i.size, i.bytes)) = some (some (.agg #[.int .i64 0, .int .i64 0]), 2, 16) by kernel_rfl)
    exact ⟨i, _, h1, h2, h3, h4, rfl⟩
end Go.Proofs.YtobpnoiienpipaaGreat

/-
  What is proved: lists of lists of single floats that a call makes, no two of which share memory.
  Conditions: those that each fact names.
-/
namespace Go.Proofs.YtobpnoiienpipaaGreat
set_option linter.unusedVariables false
open Go.RowKit

/-- One element of a new block is appended, at such a step. -/
theorem Lay.Ok.step {α : Type} {L : Lay α} (hL : L.Ok) {ops : Array Oper} {o : Oper} {a : Act} {w : World} {K : Act → World → Prop} {Q : Exit → Act → World → Prop} {E : Prop} (hgd : o.guard = none) (s x : Operand)
    (ho : o.op = .call { callee := .builtin .append, args := #[s, x], argTypes := #[L.t, L.t] })
    (base : Nat) (v : Value) (xs : List α) (n : Nat) (hs : a.eval s = v) (hown : L.Own w base v xs) (hn : xs.length = n) (g : Nat) (hx : a.eval x = .slice (some ⟨g, 0, none⟩) 1 1) (z : α)
    (hrow : ∀ j u, (L.enc z)[j]? = some u → w.cell? ⟨g, 0 + j, none⟩ = some u) (hlen : n + 1 ≤ 1000000000) (hbase : base ≤ w.heap.size)
    (h : ∀ g cap w', L.Own w' base (.slice (some ⟨g, 0, none⟩) (n + 1) cap) (xs ++ [z]) → w.grownBy w' v.ownBlock → (v.ownBlock = some g ∨ g = w.heap.size) → g < w'.heap.size → K (a.put o.dst (.slice (some ⟨g, 0, none⟩) (n + 1) cap)) w') :
    if Region.wanted o (yielded ops a.tmps) = true then Oper.wp Tryz.prog o a w K Q else E := by
  subst hn
  obtain ⟨i, zz, hi, hz, hz1, hz2, hz3⟩ := hL.info
  have hsm := hL.small
  refine step_append_lies w hgd s x L.t ho base L.e i zz L.size L.bytes hL.und hi hz hz1 hz2 hz3 hL.pos v xs.length _ hs hown ⟨g, 0, none⟩ 1 1 (L.enc z) hx (by rw [hL.len]; omega) ?_ (hL.one z) (by decide) (by unfold maxLen; omega) ?_ hbase w.heap.size rfl ?_
  · intro j u hu
    have hadd : (⟨g, 0, none⟩ : Addr).add j = ⟨g, 0 + j, none⟩ := by unfold Addr.add; split <;> simp_all
    rw [hadd]
    exact hrow j u hu
  · exact Nat.le_trans (Nat.mul_le_mul hlen hsm) (by decide)
  intro g' cap w' h2 h3 h4 h5
  refine h g' cap w' ?_ h3 h4 h5
  unfold Lay.Own
  rw [List.length_append, Lay.cells_append, Lay.cells_one]
  exact h2
/-- Slices: where one lies, its length, its room. -/
abbrev SV := Option Addr × Nat × Nat
def SV.v (s : SV) : Value := .slice s.1 s.2.1 s.2.2
def LSf : Lay SV := ⟨65, 31, 1, 24, fun s => [s.v]⟩
theorem LSf_ok : LSf.Ok := by
  refine ⟨fun _ => rfl, fun x u hu => ?_, by decide, Tryz.underlying65, ?_, by decide⟩
  · obtain rfl := List.mem_singleton.1 hu; rfl
  · obtain ⟨i, h1, h2, h3, h4⟩ := info_parts (show (Tryz.prog.info? 31).map (fun i => (i.zero, i.size, i.bytes)) = some (some (.slice none 0 0), 1, 24) by kernel_rfl)
    exact ⟨i, _, h1, h2, h3, h4, rfl⟩
/-- The lists of a list of lists: each is new, no two share memory, none the list's own. -/
structure Lines (w : World) (base : Nat) (v : Value) (ss : List SV) (rows : List (List Nat)) : Prop where
  len : ss.length = rows.length
  row : ∀ i (h : i < ss.length) (h' : i < rows.length), FNew w base ss[i].v rows[i]
  apart : ∀ i j (h : i < ss.length) (h' : j < ss.length), i ≠ j → ∀ k, ss[i].v.ownBlock = some k → ss[j].v.ownBlock ≠ some k
  out : ∀ i (h : i < ss.length) k, ss[i].v.ownBlock = some k → v.ownBlock ≠ some k
structure Grid (w : World) (base : Nat) (v : Value) (rows : List (List Nat)) (ss : List SV) : Prop where
  own : LSf.Own w base v ss
  lines : Lines w base v ss rows
theorem Lines.nil (w : World) (base : Nat) (v : Value) : Lines w base v [] [] := ⟨rfl, fun i h => absurd h (by simp), fun i j h => absurd h (by simp), fun i h => absurd h (by simp)⟩
theorem Lines.kept {w w' : World} {base : Nat} {v : Value} {ss : List SV} {rows : List (List Nat)} {row : Option Nat} (h : Lines w base v ss rows) (hg : w.grownBy w' row) (hne : ∀ i (h : i < ss.length) k, ss[i].v.ownBlock = some k → row ≠ some k) : Lines w' base v ss rows :=
  ⟨h.len, fun i h1 h2 => (h.row i h1 h2).far hg (fun k hk => hne i h1 k hk), h.apart, h.out⟩
/-- One more line, in a block of its own; the list itself is perhaps laid anew. -/
theorem Lines.snoc {w w' : World} {base : Nat} {v v' : Value} {ss : List SV} {rows : List (List Nat)} {s : SV} {ys : List Nat} (h : Lines w base v ss rows) (hg : w.grownBy w' v.ownBlock) (hs : FNew w' base s.v ys)
    (hnew : ∀ k, s.v.ownBlock = some k → (∀ i (h : i < ss.length), ss[i].v.ownBlock ≠ some k) ∧ v'.ownBlock ≠ some k) (hv : v'.ownBlock = v.ownBlock ∨ ∃ g, v'.ownBlock = some g ∧ ∀ i (h : i < ss.length), ss[i].v.ownBlock ≠ some g) : Lines w' base v' (ss ++ [s]) (rows ++ [ys]) := by
  have hl := h.len
  refine ⟨by simp [hl], fun i h1 h2 => ?_, fun i j h1 h2 hij k hk => ?_, fun i h1 k hk => ?_⟩
  · by_cases hi : i < ss.length
    · rw [List.getElem_append_left hi, List.getElem_append_left (by omega)]
      exact (h.row i hi (by omega)).far hg (fun k hk => h.out i hi k hk)
    · have e : i = ss.length := by simp at h1; omega
      subst e
      rw [List.getElem_append_right (by omega), List.getElem_append_right (by omega)]
      simpa [hl] using hs
  · by_cases hi : i < ss.length
    · rw [List.getElem_append_left hi] at hk
      by_cases hj : j < ss.length
      · rw [List.getElem_append_left hj]; exact h.apart i j hi hj hij k hk
      · rw [List.getElem_append_right (by omega)]
        intro e
        have e0 : j - ss.length = 0 := by simp at h2; omega
        simp only [e0, List.getElem_cons_zero] at e
        exact (hnew k e).1 i hi hk
    · rw [List.getElem_append_right (by omega)] at hk
      have e0 : i - ss.length = 0 := by simp at h1; omega
      simp only [e0, List.getElem_cons_zero] at hk
      by_cases hj : j < ss.length
      · rw [List.getElem_append_left hj]; exact (hnew k hk).1 j hj
      · simp at h1 h2; omega
  · by_cases hi : i < ss.length
    · rw [List.getElem_append_left hi] at hk
      rcases hv with hv | ⟨g, hv, hne⟩
      · rw [hv]; exact h.out i hi k hk
      · intro e; rw [hv] at e; cases e; exact hne i hi hk
    · rw [List.getElem_append_right (by omega)] at hk
      have e0 : i - ss.length = 0 := by simp at h1; omega
      simp only [e0, List.getElem_cons_zero] at hk
      exact (hnew k hk).2
theorem FNew.blk {w : World} {base : Nat} {v : Value} {xs : List Nat} (h : FNew w base v xs) {k : Nat} (hk : v.ownBlock = some k) : k < w.heap.size := (h.lt k hk).2
/-- One more line, in a block that is new. -/
theorem Grid.snoc {wr w6 : World} {base g n cap g6 n6 cap6 : Nat} {rows : List (List Nat)} {ss : List SV} {s : SV} {ys : List Nat} (h : Grid wr base (.slice (some ⟨g, 0, none⟩) n cap) rows ss) (hg : wr.grownBy w6 (some g)) (hs : FNew w6 base s.v ys)
    (hk : ∀ k, s.v.ownBlock = some k → wr.heap.size ≤ k ∧ k ≠ g6) (hg6 : g6 = g ∨ wr.heap.size ≤ g6) (ho : LSf.Own w6 base (.slice (some ⟨g6, 0, none⟩) n6 cap6) (ss ++ [s])) : Grid w6 base (.slice (some ⟨g6, 0, none⟩) n6 cap6) (rows ++ [ys]) (ss ++ [s]) := by
  have hlt : ∀ i (hi : i < ss.length) k, ss[i].v.ownBlock = some k → k < wr.heap.size := fun i hi k e => (h.lines.row i hi (by rw [← h.lines.len]; exact hi)).blk e
  refine ⟨ho, h.lines.snoc (show wr.grownBy w6 (some g) from hg) hs (fun k e => ⟨fun i hi e' => ?_, fun e' => ?_⟩) ?_⟩
  · have := hlt i hi k e'
    have := (hk k e).1
    omega
  · have e2 : g6 = k := Option.some.inj e'
    exact (hk k e).2 e2.symm
  · rcases hg6 with rfl | h6
    · exact .inl rfl
    · exact .inr ⟨g6, rfl, fun i hi e' => by have := hlt i hi g6 e'; omega⟩
/-- What answers a new list of new lists. -/
def GotG (rows : List (List Nat)) (w : World) (e : Ending) (w' : World) : Prop := ∃ v ss, e = .returned v ∧ Grid w' w.heap.size v rows ss ∧ Below w.heap.size w w'
theorem GotG.mk {rows : List (List Nat)} {w w' : World} {v : Value} {ss : List SV} (h : Grid w' w.heap.size v rows ss) (hb : Below w.heap.size w w') : GotG rows w (.returned v) w' := ⟨v, ss, rfl, h, hb⟩
/-- Where a line may be cut. -/
def cutAt (xs : List Nat) (n : Nat) (p : Int) : Bool := decide (0 ≤ p) && decide (p ≤ (xs.length : Int) - (n : Int))
def cutsK (xs : List Nat) (n : Nat) (ps : List Int) : List (List Nat) := (ps.filter (cutAt xs n)).map fun p => part xs p.toNat n
def lineN (n : Int) : Bool := decide (28 ≤ n) && decide (n ≤ 280)
/-- What CutLines answers. -/
def cuts (xs : List Nat) (ps : List Int) (n : Int) : List (List Nat) := if lineN n = true ∧ xs.length ≤ 20000 then cutsK xs n.toNat ps else []
theorem cutsK_yes {xs : List Nat} {n k : Nat} {ps : List Int} (h : k < ps.length) (hc : cutAt xs n ps[k] = true) : cutsK xs n (ps.take (k + 1)) = cutsK xs n (ps.take k) ++ [part xs ps[k].toNat n] := by
  unfold cutsK
  rw [List.take_succ_eq_append_getElem h, List.filter_append, List.map_append]
  simp [hc]
theorem cutsK_no {xs : List Nat} {n k : Nat} {ps : List Int} (h : k < ps.length) (hc : cutAt xs n ps[k] = false) : cutsK xs n (ps.take (k + 1)) = cutsK xs n (ps.take k) := by
  unfold cutsK
  rw [List.take_succ_eq_append_getElem h, List.filter_append, List.map_append]
  simp [hc]
theorem cutsK_len (xs : List Nat) (n k : Nat) (ps : List Int) : (cutsK xs n (ps.take k)).length ≤ k := by
  unfold cutsK
  rw [List.length_map]
  exact Nat.le_trans (List.length_filter_le _ _) (by rw [List.length_take]; omega)
theorem ints_any {w : World} {v : Value} {ps : List Int} (h : LI.Row w v ps) : ∃ a c, v = .slice a ps.length c ∧ ∀ k (hk : k < ps.length), ∃ g o, a = some ⟨g, o, none⟩ ∧ ps.length ≤ c ∧ w.cell? ⟨g, o + k, none⟩ = some (.int .i64 ps[k]) := by
  obtain ⟨a, c, h1, h2⟩ := h.any LI_ok
  refine ⟨a, c, h1, fun k hk => ?_⟩
  obtain ⟨g, o, e, hc, hcell⟩ := h2 k hk
  refine ⟨g, o, e, hc, ?_⟩
  have := hcell 0 _ rfl
  rwa [show k * LI.size + 0 = k from Nat.mul_one k] at this
end Go.Proofs.YtobpnoiienpipaaGreat

/-
  What is proved: writing in place into lists that a call owns; worlds that differ in some blocks alone.
  Conditions: those that each fact names.
-/
namespace Go.Proofs.YtobpnoiienpipaaGreat
set_option linter.unusedVariables false
open Go.RowKit

/-- The blocks that are there stay as they are, but for those in S. -/
structure Turn (w w' : World) (S : Nat → Prop) : Prop where
  os : w'.os = w.os
  tape : w'.tape = w.tape
  output : w'.output = w.output
  size : w.heap.size ≤ w'.heap.size
  block : ∀ k, k < w.heap.size → ¬ S k → w'.heap[k]? = w.heap[k]?
theorem Turn.refl (w : World) (S : Nat → Prop) : Turn w w S := ⟨rfl, rfl, rfl, Nat.le_refl _, fun _ _ _ => rfl⟩
theorem Turn.trans {a b c : World} {S : Nat → Prop} (h : Turn a b S) (k : Turn b c S) : Turn a c S :=
  ⟨k.os.trans h.os, k.tape.trans h.tape, k.output.trans h.output, Nat.le_trans h.size k.size, fun i hi hs => (k.block i (Nat.lt_of_lt_of_le hi h.size) hs).trans (h.block i hi hs)⟩
theorem Turn.mono {w w' : World} {S T : Nat → Prop} (h : Turn w w' S) (hst : ∀ k, k < w.heap.size → S k → T k) : Turn w w' T :=
  ⟨h.os, h.tape, h.output, h.size, fun k hk ht => h.block k hk fun hs => ht (hst k hk hs)⟩
theorem Turn.of {w w' : World} {v : Value} (h : w.grownBy w' v.ownBlock) : Turn w w' (fun k => v.ownBlock = some k) :=
  ⟨h.os, h.tape, h.output, h.size, fun k hk hs => h.block k hk fun e => hs e.symm⟩
theorem Turn.below {w w1 w2 : World} {B : Nat} {S : Nat → Prop} (hb : Below B w w1) (hB : B ≤ w1.heap.size) (h : Turn w1 w2 S) (hS : ∀ k, S k → B ≤ k) : Below B w w2 :=
  hb.trans ⟨h.os, h.tape, h.output, h.size, fun k hk => h.block k (Nat.lt_of_lt_of_le hk hB) fun hs => by have := hS k hs; omega⟩
theorem Turn.drewN (w : World) (n : Nat) (S : Nat → Prop) : Turn w (w.drewN n) S := by
  have := grown_of (belowDN (Below.refl w.heap.size w) n)
  exact ⟨this.os, this.tape, this.output, this.size, fun k hk _ => this.block k hk (by simp)⟩
/-- The blocks of a slice. -/
def Blk (v : Value) (k : Nat) : Prop := v.ownBlock = some k
theorem FNew.turn {w w' : World} {base : Nat} {v : Value} {xs : List Nat} {S : Nat → Prop} (h : FNew w base v xs) (ht : Turn w w' S) (hS : ∀ k, Blk v k → ¬ S k) : FNew w' base v xs := by
  have hlt := h.lt
  rcases h with h | ⟨g, cap, rfl, hb, hc, hm⟩
  · exact .inl h
  · exact .inr ⟨g, cap, rfl, hb, hc, hm.kept (ht.block g (hlt g rfl).2 (hS g rfl))⟩
section
variable {α : Type} {L : Lay α}
theorem Lay.Own.turn {w w' : World} {base : Nat} {v : Value} {xs : List α} {S : Nat → Prop} (h : L.Own w base v xs) (ht : Turn w w' S) (hS : ∀ k, Blk v k → ¬ S k) : L.Own w' base v xs := by
  have hlt := h.lt
  obtain ⟨h1, h2 | ⟨g, cap, cur, rfl, hb, hg, h3⟩⟩ := h
  · exact ⟨h1, .inl h2⟩
  · exact ⟨h1, .inr ⟨g, cap, cur, rfl, hb, (ht.block g (hlt g rfl).2 (hS g rfl)).trans hg, h3⟩⟩
theorem Lay.Ok.cells_set (hL : L.Ok) : ∀ (xs : List α) (i j : Nat) (u : Value) (z : α) (hi : i < xs.length), j < L.size → L.enc z = (L.enc xs[i]).set j u → L.cells (xs.set i z) = (L.cells xs).set (i * L.size + j) u
  | x :: xs, 0, j, u, z, _, hj, e => by
    show L.enc z ++ L.cells xs = (L.enc x ++ L.cells xs).set (0 * L.size + j) u
    rw [Nat.zero_mul, Nat.zero_add, List.set_append_left _ _ (by rw [hL.len]; exact hj), e]
    rfl
  | x :: xs, i + 1, j, u, z, hi, hj, e => by
    show L.enc x ++ L.cells (xs.set i z) = (L.enc x ++ L.cells xs).set ((i + 1) * L.size + j) u
    rw [List.set_append_right _ _ (by rw [hL.len, Nat.succ_mul]; omega), hL.len, show (i + 1) * L.size + j - L.size = i * L.size + j by rw [Nat.succ_mul]; omega]
    rw [Lay.Ok.cells_set hL xs i j u z (by simpa using hi) hj e]
/-- One cell of an owned list is written. -/
theorem Lay.Own.put (hL : L.Ok) {w : World} {base g n cap i j p : Nat} {xs : List α} {u : Value} {z : α} (h : L.Own w base (.slice (some ⟨g, 0, none⟩) n cap) xs) (hi : i < xs.length) (hj : j < L.size) (hp : p = i * L.size + j) (e : L.enc z = (L.enc xs[i]).set j u) : L.Own (w.setCell ⟨g, p, none⟩ u) base (.slice (some ⟨g, 0, none⟩) n cap) (xs.set i z) := by
  subst hp
  obtain ⟨hl, hk⟩ := h
  rcases hk with ⟨h1, _⟩ | ⟨g', cap', cur, h1, hb, hg, hc, hm, hs, ht⟩
  · cases h1
  · injection h1 with e1 e2 e3
    injection e1 with e1
    injection e1 with e1
    subst e1 e2 e3
    refine ⟨by rw [List.length_set, hL.cells_len, List.length_set], .inr ⟨g, cap, cur.setIfInBounds (i * L.size + j) u, by rw [List.length_set], hb, heap_put hg, by rw [List.length_set]; exact hc, hm, by simpa using hs, ?_⟩⟩
    rw [List.length_set, Array.toList_setIfInBounds, List.take_set, ht, hL.cells_set xs i j u z hi hj e]
theorem Lay.Own.at (hL : L.Ok) {w : World} {base g n cap i j p : Nat} {xs : List α} (h : L.Own w base (.slice (some ⟨g, 0, none⟩) n cap) xs) (hi : i < xs.length) (hj : j < L.size) (hp : p = i * L.size + j) : (∃ x, w.cell? ⟨g, p, none⟩ = some x) ∧ w.frozen? ⟨g, p, none⟩ = false := by
  subst hp
  have hlen := hL.cells_len xs
  have hlt : i * L.size + j < xs.length * L.size := by
    have := Nat.mul_le_mul_right L.size (show i + 1 ≤ xs.length from hi)
    rw [Nat.succ_mul] at this
    omega
  obtain ⟨_, ⟨h1, _⟩ | ⟨g', cap', cur, h1, hb, hg, hc, hm, hs, ht⟩⟩ := h
  · cases h1
  · injection h1 with e1 e2 e3
    injection e1 with e1
    injection e1 with e1
    subst e1 e3
    have h2 : i * L.size + j < cur.size := by rw [hs]; exact Nat.lt_of_lt_of_le hlt (Nat.mul_le_mul_right _ hc)
    exact ⟨⟨cur[i * L.size + j], by simp [World.cell?, hg, Array.getElem?_eq_getElem h2]⟩, by simp [World.frozen?, hg]⟩
theorem set_take_drop {ms xs : List α} {k : Nat} {z : α} (hm : k < ms.length) (hx : k < xs.length) (hz : ms[k] = z) : (ms.take k ++ xs.drop k).set k z = ms.take (k + 1) ++ xs.drop (k + 1) := by
  rw [List.set_append_right _ _ (by rw [List.length_take]; omega), List.length_take, Nat.min_eq_left (by omega), Nat.sub_self, List.take_succ_eq_append_getElem hm, List.append_assoc, hz]
  conv => lhs; rw [List.drop_eq_getElem_cons hx]
  rfl
theorem take_drop_len {ms xs : List α} {k : Nat} (hm : ms.length = xs.length) (hk : k ≤ xs.length) : (ms.take k ++ xs.drop k).length = xs.length := by
  rw [List.length_append, List.length_take, List.length_drop]; omega
theorem take_drop_at {ms xs : List α} {k : Nat} (hm : ms.length = xs.length) (hk : k < xs.length) (h : k < (ms.take k ++ xs.drop k).length) : (ms.take k ++ xs.drop k)[k] = xs[k] := by
  rw [List.getElem_append_right (by rw [List.length_take]; omega)]
  simp [List.length_take, hm, Nat.min_eq_left (Nat.le_of_lt hk)]
end
end Go.Proofs.YtobpnoiienpipaaGreat
