/-
  What is proved: a list of single floats, perhaps an empty one, is appended to a list that a call owns; a list that is owned is written in place.
  Conditions: those that each fact names.
-/
import Derived.Test.YtobpnoiienpipaaGreatPz03
namespace Go.Proofs.YtobpnoiienpipaaGreat
set_option linter.unusedVariables false
open Go.RowKit

/-- Nothing is appended. -/
theorem run_app_zero {P : Program} {w : World} {t ty e : TypeId} {i : TypeInfo} (hu : P.underlying t = some (.slice e)) (hi : P.info? e = some i) (a0 x : Option Addr) (l c cx : Nat) (hlc : l ≤ c) :
    (Builtin.append_ #[t, t] ty #[.slice a0 l c, .slice x 0 cx]).run P w = .ok (.slice a0 l c) w := by
  cases a0 <;> cases x <;> simp [Builtin.append_, run_underlying hu, sizeOf, typeInfo, hi, Builtin.lenOf, Builtin.firstCells, loadCells, loadCellsFrom, storeCells, hlc]
/-- Any list is appended. -/
theorem ownF_row {ops : Array Oper} {rest : List Oper} {o : Oper} {a : Act} {w : World} {Q : Exit → Act → World → Prop} (hgd : o.guard = none) (s x : Operand)
    (ho : o.op = .call { callee := .builtin .append, args := #[s, x], argTypes := #[31, 31] })
    (base g0 n cap0 : Nat) (xs ys : List Nat) (hs : a.eval s = .slice (some ⟨g0, 0, none⟩) n cap0) (hn : xs.length = n) (hown : OwnF w base (.slice (some ⟨g0, 0, none⟩) n cap0) xs)
    (vx : Value) (hx : a.eval x = vx) (hrow : FRow w vx ys) (m : Nat) (hm : ys.length = m) (hlen : n + m ≤ 1000000000) (hbase : base ≤ w.heap.size)
    (h : ∀ g cap w', OwnF w' base (.slice (some ⟨g, 0, none⟩) (n + m) cap) (xs ++ ys) → w.grownBy w' (some g0) → (g = g0 ∨ g = w.heap.size) → g < w'.heap.size → wpList Tryz.prog ops Q rest (a.put o.dst (.slice (some ⟨g, 0, none⟩) (n + m) cap)) w') :
    wpList Tryz.prog ops Q (o :: rest) a w := by
  subst hn hm
  by_cases h0 : ys.length = 0
  · obtain rfl : ys = [] := List.length_eq_zero_iff.1 h0
    obtain ⟨ax, cx, rfl⟩ := hrow.lenv
    obtain ⟨i0, hi, hz0, hz1, hz2⟩ := info_parts info_f32
    rcases hown.shape with ⟨hk, _⟩ | ⟨g, cap, hk, hb, hg, hc, _⟩
    · cases hk
    · cases hk
      refine wpList_plain hgd fun K hK' => ?_
      have hrun := run_app_zero (P := Tryz.prog) (w := w) (ty := o.type) Tryz.underlying31 hi (some ⟨g0, 0, none⟩) ax xs.length cap0 cx hc
      unfold Oper.wp
      simp [execOp, ho, resolve, invoke, builtin, hs, hx, hrun, Result.andThen]
      exact hK' _ _ (by simpa using h g0 cap0 w (by simpa using hown) (World.grownBy.refl _ _) (.inl rfl) hg)
  · rcases hrow with ⟨_, rfl⟩ | ⟨g', o', c', rfl, hc', hcell⟩
    · exact absurd rfl h0
    · refine ownF_append hgd s x ho base _ xs ys hs hown g' o' c' hx hcell (by omega) hlen hbase ?_
      intro g cap w' h1 h2 h3 h4
      exact h g cap w' h1 h2 (h3.elim (fun e => .inl (Option.some.inj e).symm) .inr) h4
/-- One number of an owned list is written. -/
theorem OwnF.put {w : World} {base g n cap i : Nat} {xs : List Nat} (h : OwnF w base (.slice (some ⟨g, 0, none⟩) n cap) xs) (hi : i < xs.length) (z : Nat) : OwnF (w.setCell ⟨g, i, none⟩ (.float .f32 z)) base (.slice (some ⟨g, 0, none⟩) n cap) (xs.set i z) := by
  obtain ⟨hl, hk⟩ := h
  rcases hk with ⟨h1, _⟩ | ⟨g', cap', cur, h1, hb, hg, hc, hm, hs, ht⟩
  · cases h1
  · injection h1 with e1 e2 e3
    injection e1 with e1
    injection e1 with e1
    subst e1 e2 e3
    refine ⟨by simp, .inr ⟨g, cap, cur.setIfInBounds i (.float .f32 z), by rw [List.length_set], hb, heapF hg, by rw [List.length_set]; exact hc, hm, by simpa using hs, ?_⟩⟩
    rw [List.length_set, Array.toList_setIfInBounds, List.take_set, ht, List.map_set]
theorem OwnF.read {w : World} {base g n cap i : Nat} {xs : List Nat} (h : OwnF w base (.slice (some ⟨g, 0, none⟩) n cap) xs) (hi : i < xs.length) : w.cell? ⟨g, i, none⟩ = some (.float .f32 xs[i]) ∧ w.frozen? ⟨g, i, none⟩ = false := by
  have h1 := h.new
  rcases h1 with ⟨h2, _⟩ | ⟨g', cap', h2, hb, hc, hm⟩
  · cases h2
  · injection h2 with e1 e2 e3
    injection e1 with e1
    injection e1 with e1
    subst e1
    exact ⟨hm.get i hi hi, (hm.at i hi).2⟩
end Go.Proofs.YtobpnoiienpipaaGreat

/-
  What is proved: lists whose elements take any number of cells each: reading them, owning them, appending to them.
  Conditions: those that each fact names.
-/
namespace Go.Proofs.YtobpnoiienpipaaGreat
set_option linter.unusedVariables false
open Go.RowKit

/-- How the elements of a list lie: t is the list's type, e an element's, which takes size cells. -/
structure Lay (α : Type) where
  t : TypeId
  e : TypeId
  size : Nat
  bytes : Nat
  enc : α → List Value
structure Lay.Ok {α : Type} (L : Lay α) : Prop where
  len : ∀ x, (L.enc x).length = L.size
  one : ∀ x, ∀ u ∈ L.enc x, u.oneCell' = true
  pos : 0 < L.size
  und : Tryz.prog.underlying L.t = some (.slice L.e)
  info : ∃ i z, Tryz.prog.info? L.e = some i ∧ i.zero = some z ∧ i.size = L.size ∧ i.bytes = L.bytes ∧ z.cells.size = L.size
  small : L.bytes ≤ 64
section
variable {α : Type} {L : Lay α}
def Lay.cells (L : Lay α) (xs : List α) : List Value := xs.flatMap L.enc
theorem Lay.Ok.cells_len (h : L.Ok) (xs : List α) : (L.cells xs).length = xs.length * L.size := by
  induction xs with
  | nil => simp [Lay.cells]
  | cons x xs ih =>
    simp only [Lay.cells, List.flatMap_cons, List.length_append, h.len, List.length_cons] at ih ⊢
    rw [ih, Nat.succ_mul]
    omega
theorem Lay.cells_append (xs ys : List α) : L.cells (xs ++ ys) = L.cells xs ++ L.cells ys := by simp [Lay.cells]
theorem Lay.cells_one (x : α) : L.cells [x] = L.enc x := by simp [Lay.cells]
theorem Lay.Ok.cells_get (h : L.Ok) : ∀ (xs : List α) (i j : Nat) (hi : i < xs.length), j < L.size → (L.cells xs)[i * L.size + j]? = (L.enc xs[i])[j]?
  | x :: xs, 0, j, _, hj => by
    show (L.enc x ++ L.cells xs)[0 * L.size + j]? = _
    rw [Nat.zero_mul, Nat.zero_add, List.getElem?_append_left (by rw [h.len]; exact hj)]
    rfl
  | x :: xs, i + 1, j, hi, hj => by
    show (L.enc x ++ L.cells xs)[(i + 1) * L.size + j]? = _
    rw [List.getElem?_append_right (by rw [h.len, Nat.succ_mul]; omega), h.len, show (i + 1) * L.size + j - L.size = i * L.size + j by rw [Nat.succ_mul]; omega]
    exact Lay.Ok.cells_get h xs i j (by simpa using hi) hj
theorem Lay.Ok.cells_1 (h : L.Ok) (xs : List α) : ∀ u ∈ L.cells xs, u.oneCell' = true := by
  intro u hu
  obtain ⟨x, _, hx⟩ := List.mem_flatMap.1 hu
  exact h.one x u hx
/-- The slice v reads as the list xs. -/
def Lay.Row (L : Lay α) (w : World) (v : Value) (xs : List α) : Prop := ((∃ a c, v = .slice a 0 c) ∧ xs = []) ∨ ∃ g o cap, v = .slice (some ⟨g, o, none⟩) xs.length cap ∧ xs.length ≤ cap ∧ ∀ j u, (L.cells xs)[j]? = some u → w.cell? ⟨g, o + j, none⟩ = some u
theorem Lay.Row.lenv {w : World} {v : Value} {xs : List α} (h : L.Row w v xs) : ∃ a c, v = .slice a xs.length c := by
  rcases h with ⟨⟨a, c, rfl⟩, rfl⟩ | ⟨g, o, cap, rfl, _⟩
  · exact ⟨_, _, rfl⟩
  · exact ⟨_, _, rfl⟩
theorem Lay.Row.far {w w' : World} {v : Value} {xs : List α} {row : Option Nat} (h : L.Row w v xs) (hg : w.grownBy w' row) (hne : ∀ k, v.ownBlock = some k → row ≠ some k) : L.Row w' v xs := by
  rcases h with h | ⟨g, o, cap, rfl, hc, hcell⟩
  · exact .inl h
  · exact .inr ⟨g, o, cap, rfl, hc, fun j u hu => hg.cell (hcell j u hu) (fun e => hne g rfl e.symm)⟩
theorem Lay.Row.grown {w w' : World} {v : Value} {xs : List α} (h : L.Row w v xs) (hg : w.grownBy w' none) : L.Row w' v xs := h.far hg (fun _ _ => by simp)
theorem Lay.Row.below {w w' : World} {v : Value} {xs : List α} (h : L.Row w v xs) (hb : Below w.heap.size w w') : L.Row w' v xs := h.grown ⟨hb.os, hb.tape, hb.output, hb.size, fun k hk _ => hb.block k hk⟩
/-- Each element of a list can be read. -/
theorem Lay.Row.any (hL : L.Ok) {w : World} {v : Value} {xs : List α} (h : L.Row w v xs) : ∃ a c, v = .slice a xs.length c ∧ ∀ k (hk : k < xs.length), ∃ g o, a = some ⟨g, o, none⟩ ∧ xs.length ≤ c ∧ ∀ j u, (L.enc xs[k])[j]? = some u → w.cell? ⟨g, o + (k * L.size + j), none⟩ = some u := by
  rcases h with ⟨⟨a, c, rfl⟩, rfl⟩ | ⟨g, o, cap, rfl, hc, hcell⟩
  · exact ⟨a, c, rfl, fun k hk => absurd hk (by simp)⟩
  · refine ⟨_, _, rfl, fun k hk => ⟨g, o, rfl, hc, fun j u hu => hcell _ u ?_⟩⟩
    have hj : j < L.size := by rw [← hL.len xs[k]]; exact (List.getElem?_eq_some_iff.1 hu).1
    rw [hL.cells_get xs k j hk hj]
    exact hu
/-- The slice v, owned from block base on, holds xs. -/
def Lay.Own (L : Lay α) (w : World) (base : Nat) (v : Value) (xs : List α) : Prop := w.ownsRow base L.e L.size v xs.length (L.cells xs)
theorem Lay.Own.row {w : World} {base : Nat} {v : Value} {xs : List α} (h : L.Own w base v xs) : L.Row w v xs := by
  have h' := h
  rcases h.2 with ⟨rfl, h0⟩ | ⟨g, cap, cur, rfl, hb, hg, hn, _⟩
  · exact .inl ⟨⟨_, _, rfl⟩, List.eq_nil_of_length_eq_zero h0⟩
  · refine .inr ⟨g, 0, cap, rfl, hn, fun j u hu => ?_⟩
    have hadd : (⟨g, 0, none⟩ : Addr).add j = ⟨g, 0 + j, none⟩ := by unfold Addr.add; split <;> simp_all
    have k1 := World.ownsRow.cells h' (g := g) rfl _ _ hu
    rw [hadd] at k1
    exact k1
theorem Lay.Own.kept {w w' : World} {base : Nat} {v : Value} {xs : List α} {row : Option Nat} (h : L.Own w base v xs) (hg : w.grownBy w' row) (hne : v.ownBlock = none ∨ v.ownBlock ≠ row) : L.Own w' base v xs := World.ownsRow.kept h hg hne
theorem Lay.Own.alloc {w : World} {base : Nat} {v : Value} {xs : List α} (h : L.Own w base v xs) (o : Obj) : L.Own (w.alloc o) base v xs := World.ownsRow.alloc h o
theorem Lay.Own.lt {w : World} {base : Nat} {v : Value} {xs : List α} (h : L.Own w base v xs) : ∀ k, v.ownBlock = some k → base ≤ k ∧ k < w.heap.size := World.ownsRow.lt h
theorem Lay.own0 (L : Lay α) (w : World) : L.Own (w.alloc (.cells #[] L.e)) w.heap.size (.slice (some ⟨w.heap.size, 0, none⟩) 0 0) [] := World.ownsRow_made w #[] 0 (Nat.le_refl _) (by unfold maxLen; omega) (by simp)
theorem Lay.ownNil (L : Lay α) (w : World) (base : Nat) : L.Own w base (.slice none 0 0) [] := World.ownsRow_nil _ _ _ _
theorem Lay.Own.shape {w : World} {base : Nat} {v : Value} {xs : List α} (h : L.Own w base v xs) :
    (v = .slice none 0 0 ∧ xs = []) ∨ ∃ g cap, v = .slice (some ⟨g, 0, none⟩) xs.length cap ∧ base ≤ g ∧ g < w.heap.size ∧ xs.length ≤ cap ∧ cap ≤ maxLen := by
  rcases h.2 with ⟨rfl, h0⟩ | ⟨g, cap, cur, rfl, hb, hg, hn, hc, _⟩
  · exact .inl ⟨rfl, List.eq_nil_of_length_eq_zero h0⟩
  · exact .inr ⟨g, cap, rfl, hb, (Array.getElem?_eq_some_iff.1 hg).1, hn, hc⟩
theorem Lay.Own.below {w w' : World} {base : Nat} {v : Value} {xs : List α} (h : L.Own w base v xs) (hb : Below w.heap.size w w') : L.Own w' base v xs :=
  h.kept (row := none) ⟨hb.os, hb.tape, hb.output, hb.size, fun k hk _ => hb.block k hk⟩ (by cases v.ownBlock <;> simp)
theorem Lay.Own.mono {w : World} {base base' : Nat} {v : Value} {xs : List α} (h : L.Own w base v xs) (hb : base' ≤ base) : L.Own w base' v xs :=
  ⟨h.1, h.2.imp id fun ⟨g, cap, cur, h1, h2, h3⟩ => ⟨g, cap, cur, h1, by omega, h3⟩⟩
/-- Elements that can be read, at least one, are appended. -/
theorem Lay.Ok.append (hL : L.Ok) {ops : Array Oper} {rest : List Oper} {o : Oper} {a : Act} {w : World} {Q : Exit → Act → World → Prop} (hgd : o.guard = none) (s x : Operand)
    (ho : o.op = .call { callee := .builtin .append, args := #[s, x], argTypes := #[L.t, L.t] })
    (base : Nat) (v : Value) (xs ys : List α) (n : Nat) (hs : a.eval s = v) (hown : L.Own w base v xs) (hn : xs.length = n) (g o' m c : Nat) (hx : a.eval x = .slice (some ⟨g, o', none⟩) m c) (hm : ys.length = m)
    (hrow : ∀ j u, (L.cells ys)[j]? = some u → w.cell? ⟨g, o' + j, none⟩ = some u) (h0 : 0 < m) (hlen : n + m ≤ 1000000000) (hbase : base ≤ w.heap.size)
    (h : ∀ g cap w', L.Own w' base (.slice (some ⟨g, 0, none⟩) (n + m) cap) (xs ++ ys) → w.grownBy w' v.ownBlock → (v.ownBlock = some g ∨ g = w.heap.size) → g < w'.heap.size → wpList Tryz.prog ops Q rest (a.put o.dst (.slice (some ⟨g, 0, none⟩) (n + m) cap)) w') :
    wpList Tryz.prog ops Q (o :: rest) a w := by
  subst hn hm
  obtain ⟨i, z, hi, hz, hz1, hz2, hz3⟩ := hL.info
  have hsm := hL.small
  refine wpList_append_lies w hgd s x L.t ho base L.e i z L.size L.bytes hL.und hi hz hz1 hz2 hz3 hL.pos v xs.length _ hs hown ⟨g, o', none⟩ ys.length c (L.cells ys) hx (hL.cells_len ys) ?_ (hL.cells_1 ys) h0 (by unfold maxLen; omega) ?_ hbase w.heap.size rfl ?_
  · intro j u hu
    have hadd : (⟨g, o', none⟩ : Addr).add j = ⟨g, o' + j, none⟩ := by unfold Addr.add; split <;> simp_all
    rw [hadd]
    exact hrow j u hu
  · exact Nat.le_trans (Nat.mul_le_mul hlen hsm) (by decide)
  intro g cap w' h2 h3 h4 h5
  refine h g cap w' ?_ h3 h4 h5
  unfold Lay.Own
  rw [List.length_append, Lay.cells_append]
  exact h2
/-- One element of a new block is appended. -/
theorem Lay.Ok.snoc (hL : L.Ok) {ops : Array Oper} {rest : List Oper} {o : Oper} {a : Act} {w : World} {Q : Exit → Act → World → Prop} (hgd : o.guard = none) (s x : Operand)
    (ho : o.op = .call { callee := .builtin .append, args := #[s, x], argTypes := #[L.t, L.t] })
    (base : Nat) (v : Value) (xs : List α) (n : Nat) (hs : a.eval s = v) (hown : L.Own w base v xs) (hn : xs.length = n) (g : Nat) (hx : a.eval x = .slice (some ⟨g, 0, none⟩) 1 1) (z : α)
    (hrow : ∀ j u, (L.enc z)[j]? = some u → w.cell? ⟨g, 0 + j, none⟩ = some u) (hlen : n + 1 ≤ 1000000000) (hbase : base ≤ w.heap.size)
    (h : ∀ g cap w', L.Own w' base (.slice (some ⟨g, 0, none⟩) (n + 1) cap) (xs ++ [z]) → w.grownBy w' v.ownBlock → (v.ownBlock = some g ∨ g = w.heap.size) → g < w'.heap.size → wpList Tryz.prog ops Q rest (a.put o.dst (.slice (some ⟨g, 0, none⟩) (n + 1) cap)) w') :
    wpList Tryz.prog ops Q (o :: rest) a w :=
  hL.append hgd s x ho base v xs [z] n hs hown hn g 0 1 1 hx rfl (fun j u hu => hrow j u (by rwa [Lay.cells_one] at hu)) (by decide) hlen hbase h
theorem Lay.Own.snoc_below {w wr w' : World} {v : Value} {xs : List α} (hb : Below w.heap.size w wr) (ho : L.Own wr w.heap.size v xs) (o : Obj) (hg : (wr.alloc o).grownBy w' v.ownBlock) : Below w.heap.size w w' :=
  (hb.alloc hb.size o).grown hg (Nat.le_trans hb.size (by simp)) (fun k hk => (ho.lt k hk).1)
/-- The block of a literal of one element. -/
theorem lit_cells (W : World) (cs : List Value) (t : TypeId) (j : Nat) (u : Value) (hu : cs[j]? = some u) : (W.alloc (.cells cs.toArray t)).cell? ⟨W.heap.size, 0 + j, none⟩ = some u := by
  have h1 := cell_of_row (W.alloc (.cells cs.toArray t)) W.heap.size j _ _ _ (heap_alloc_new W (.cells cs.toArray t))
  rw [Nat.zero_add, h1]
  simpa using hu
end
/-- What answers a new list. -/
def Lay.Got {α : Type} (L : Lay α) (xs : List α) (w : World) (e : Ending) (w' : World) : Prop := ∃ v, e = .returned v ∧ L.Own w' w.heap.size v xs ∧ Below w.heap.size w w'
theorem Lay.Got.mk {α : Type} {L : Lay α} {xs : List α} {w w' : World} {v : Value} (h : L.Own w' w.heap.size v xs) (hb : Below w.heap.size w w') : L.Got xs w (.returned v) w' := ⟨v, rfl, h, hb⟩
/-- Numbers. -/
def LI : Lay Int := ⟨74, 3, 1, 8, fun x => [.int .i64 x]⟩
theorem LI_ok : LI.Ok := by
  refine ⟨fun _ => rfl, fun x u hu => ?_, by decide, Tryz.underlying74, ?_, by decide⟩
  · obtain rfl := List.mem_singleton.1 hu; rfl
  · obtain ⟨i, h1, h2, h3, h4⟩ := info_parts (show (Tryz.prog.info? 3).map (fun i => (i.zero, i.size, i.bytes)) = some (some (.int .i64 0), 1, 8) by kernel_rfl)
    exact ⟨i, _, h1, h2, h3, h4, rfl⟩
/-- Runs: where one begins, and its length. -/
abbrev R2 := Nat × Nat
def LR : Lay R2 := ⟨103, 106, 2, 16, fun r => [.int .i64 (r.1 : Int), .int .i64 (r.2 : Int)]⟩
theorem LR_ok : LR.Ok := by
  refine ⟨fun _ => rfl, fun x u hu => ?_, by decide, Tryz.underlying103, ?_, by decide⟩
  · rcases List.mem_cons.1 hu with rfl | hu
    · rfl
    · obtain rfl := List.mem_singleton.1 hu; rfl
  · obtain ⟨i, h1, h2, h3, h4⟩ := info_parts (show (Tryz.prog.info? 106).map (fun i => (i.zero, i.size, i.bytes)) = some (some (.agg #[.int .i64 0, .int .i64 0]), 2, 16) by kernel_rfl)
    exact ⟨i, _, h1, h2, h3, h4, rfl⟩
end Go.Proofs.YtobpnoiienpipaaGreat
