/-
  What is proved: the walk of the model's PictureOk.
  Conditions: the picture can be read.
-/
import Derived.Test.YtgecclccmmcdoaaPic
import Derived.RangeFuncNested
import Derived.RangeFuncBound
import Derived.RangeFuncCalls
import Derived.RangeFuncLeaves
import Derived.RangeFuncBox
import Derived.Shelf.Abstract
import Derived.Shelf.RegionOpen
import Derived.OwnWalkIn
import Derived.TacticsInMore
import Derived.LoopNIn
import Derived.LoopIn
import Derived.Maps.AppendAt
import Derived.Test.YtgecclccmmcdoaaRowOwn
import Derived.Test.YtgecclccmmcdoaaDrawRow
namespace Go.Proofs.Ytgecclccmmcdoaa
set_option linter.unusedVariables false
open Go.RowKit
attribute [local go_sem] run_store_float run_store_complex unary_negf neg256

def Aft (w W : World) : Prop := Below w.heap.size w W
theorem Aft.drew {w W : World} (h : Aft w W) : Aft w W.drew := Below.drew h
theorem Aft.next {w W W' : World} (h : Aft w W) (hb : Below W.heap.size W W') : Aft w W' := below_trans h hb h.size
theorem Aft.start (w : World) : Aft w w := Below.refl _ _
theorem Aft.load {w W : World} (h : Aft w W) {p : Addr} {v : Value} (hc : w.cell? p = some v) : W.cell? p = some v := (grown_of h).cell hc (by simp)

/-- A world behind w. -/
structure After (w : World) where
  W : World
  h : Aft w W
instance (w : World) : Nonempty (After w) := ⟨⟨w, Aft.start w⟩⟩
/-- A region that draws its order and whose operations and callees leave what lay in w: one walk. -/
theorem wp_region_after {P : Program} {id : Nat} {Q : Exit → Act → World → Prop} {a : Act} {w0 w : World} {l : List Oper} (hm : P.follows .mixedOrders = true) (hB : Region.lexB .any l.toArray = true) (hw : Aft w0 w)
    (h : wpQuiet P l.toArray (fun W => ∃ x : After w0, W = x.W) (fun a' => ∀ W, (∃ x : After w0, W = x.W) → Q .normal a' W) l a) : (Code.region id l.toArray true).wp P Q a w :=
  wp_region_quiet (C := fun W => ∃ x : After w0, W = x.W) hm hB ⟨⟨_, hw.drew⟩, rfl⟩ (by simpa using h)
theorem calls_after {P : Program} {f : FuncId} {args : Array Value} {w : World} {x : After w} {v : Value} (h : Calls P f args x.W fun e w' => e = .returned v ∧ Below x.W.heap.size x.W w') :
    Calls P f args x.W fun e w' => e = .returned v ∧ ∃ y : After w, w' = y.W := h.mono fun _ W' hh => ⟨hh.1, ⟨W', x.h.next hh.2⟩, rfl⟩

end Go.Proofs.Ytgecclccmmcdoaa

/-
  What is proved: the walks of the iterators over a picture's rows, of the copying of rows that an iterator hands out, and of FieldOf.
  Conditions: the picture can be read; its rows are not empty.
-/
namespace Go.Proofs.Ytgecclccmmcdoaa
set_option linter.unusedVariables false
open Go.RowKit Go.Shelf
attribute [local go_sem] run_store_float run_store_complex unary_negf neg256 Oper.semAt_some

theorem eql_nil_row (g o n c : Nat) (W : World) : (binOp .eql 36 (.slice (some ⟨g, o, none⟩) n c) (.slice none 0 0)).run Try.prog W = .ok (.bool false) W := by
  simp only [binOp]
  simp [run_equal_slice_nil W _ _ _ _ _ Try.underlying36]
/-- The slice v reads as cs, and its block holds cells. -/
def RowK (w : World) (v : Value) (cs : List C3) : Prop := RowV w v cs ∧ ∀ g o n c, v = .slice (some ⟨g, o, none⟩) n c → ∃ cur, w.heap[g]? = some (.cells cur 40 (0, 0))
theorem OwnC.rowK {w : World} {base : Nat} {v : Value} {cs : List C3} (h : OwnC w base v cs) : RowK w v cs := by
  refine ⟨h.row, fun g o n c e => ?_⟩
  rcases h.2 with ⟨rfl, _⟩ | ⟨g', cap, cur, rfl, _, hg, _⟩
  · cases e
  · simp only [Value.slice.injEq, Option.some.injEq, Addr.mk.injEq] at e
    obtain ⟨⟨rfl, _⟩, _⟩ := e
    exact ⟨cur, hg⟩
theorem RowK.same {w w' : World} {v : Value} {cs : List C3} (h : RowK w v cs) (hb : ∀ g o n c, v = .slice (some ⟨g, o, none⟩) n c → w'.heap[g]? = w.heap[g]?) : RowK w' v cs := by
  obtain ⟨h1, h2⟩ := h
  refine ⟨?_, fun g o n c e => by rw [hb g o n c e]; exact h2 g o n c e⟩
  rcases h1 with h1 | ⟨g, o, cap, e, k1, k2⟩
  · exact .inl h1
  · have hk := hb g o _ _ e
    refine .inr ⟨g, o, cap, e, k1, fun i hi => ?_⟩
    have c1 : w'.cell? ⟨g, o + i * 2, none⟩ = w.cell? ⟨g, o + i * 2, none⟩ := World.cell?_of_block (w := w) hk
    have c2 : w'.cell? ⟨g, o + i * 2 + 1, none⟩ = w.cell? ⟨g, o + i * 2 + 1, none⟩ := World.cell?_of_block (w := w) hk
    rw [c1, c2]
    exact k2 i hi
theorem RowK.far {w w' : World} {v : Value} {cs : List C3} {row : Option Nat} (h : RowK w v cs) (hg : w.grownBy w' row) (hr : ∀ r, row = some r → ∃ cur t fz, w.heap[r]? = some (.cells cur t fz) ∧ t ≠ 40) : RowK w' v cs := by
  refine h.same fun g o n c e => ?_
  obtain ⟨cur, hk⟩ := h.2 g o n c e
  refine hg.block g (Array.getElem?_eq_some_iff.1 hk).1 (fun e2 => ?_)
  obtain ⟨cur2, t, fz2, hk2, ht⟩ := hr g e2.symm
  rw [hk] at hk2
  simp only [Option.some.injEq, Obj.cells.injEq] at hk2
  exact ht hk2.2.1.symm
theorem RowK.own {X Y : World} {v : Value} {cs : List C3} {row : Option Nat} (h : RowK X v cs) (hg : X.grownBy Y row) (hr : ∀ r, row = some r → ∃ o : Obj, X.heap[r]? = some o ∧ o.isCells = false) : RowK Y v cs := by
  refine h.same fun g o n c e => ?_
  obtain ⟨cur, hk⟩ := h.2 g o n c e
  refine hg.block g (Array.getElem?_eq_some_iff.1 hk).1 (fun e2 => ?_)
  obtain ⟨ob, h1, h2⟩ := hr g e2.symm
  rw [hk] at h1
  cases h1
  cases h2
def ClonePost (cs : List C3) (w : World) (e : Ending) (w' : World) : Prop := ∃ v', e = .returned v' ∧ RowK w' v' cs ∧ Below w.heap.size w w'
theorem ClonePost.mk {cs : List C3} {w w' : World} {v' : Value} (h : RowK w' v' cs) (hb : Below w.heap.size w w') : ClonePost cs w (.returned v') w' := ⟨v', rfl, h, hb⟩

/-- A row that lies in w0, not empty. -/
abbrev RowIn (w0 : World) := { x : Value × List C3 // RowV w0 x.1 x.2 ∧ x.2 ≠ [] ∧ x.2.length ≤ 1000000 }
/-- The picture v holds L. -/
def PicIn (w0 : World) (v : Value) (L : List (RowIn w0)) : Prop :=
  (v = .slice none 0 0 ∧ L = []) ∨ ∃ g o cap, v = .slice (some ⟨g, o, none⟩) L.length cap ∧ ∀ i (h : i < L.length), w0.cell? ⟨g, o + i, none⟩ = some L[i].1.1
def evens {α : Type} : List α → List α
  | [] => []
  | [a] => [a]
  | a :: _ :: l => a :: evens l
theorem evens_drop {α : Type} (l : List α) (i : Nat) (h : i < l.length) : evens (l.drop i) = l[i] :: evens (l.drop (i + 2)) := by
  rw [List.drop_eq_getElem_cons h]
  by_cases h1 : i + 1 < l.length
  · rw [List.drop_eq_getElem_cons h1]; rfl
  · rw [List.drop_of_length_le (show l.length ≤ i + 1 by omega), List.drop_of_length_le (show l.length ≤ i + 2 by omega)]; rfl
theorem evens_end {α : Type} (l : List α) (i : Nat) (h : l.length ≤ i) : evens (l.drop i) = [] := by rw [List.drop_of_length_le h]; rfl


theorem box1 (w : World) (t : TypeId) (x : Value) (o : Obj) : ((w.alloc (.cells #[x] t)).alloc o).cell? ⟨w.heap.size, 0, none⟩ = some x := (cell_of_row _ _ 0 _ _ _ ((Below.heap_alloc _ _ _ (by simp)).trans (heap_alloc_new w _))).trans rfl
theorem box2 (w : World) (o : Obj) (t : TypeId) (x : Value) : ((w.alloc o).alloc (.cells #[x] t)).cell? ⟨w.heap.size + 1, 0, none⟩ = some x := by
  have := heap_alloc_new (w.alloc o) (.cells #[x] t)
  rw [World.size_alloc] at this
  exact (cell_of_row _ _ 0 _ _ _ this).trans rfl

/-- What the iterators are told of the rows: they hand out xs. -/
abbrev Hands (n : Nat) (w0 : World) (gf : Nat) (lb : Array Value) (xs : List (RowIn w0)) (w : World) : Prop :=
  SeqStopsK Fence.wide n Try.prog gf lb (fun x : RowIn w0 => #[x.1.1]) (Below w0.heap.size) (fun ys => ys = xs) (fun pre => pre <+: xs) xs.length w

theorem info_row : (Try.prog.info? 36).map (fun i => (i.zero, i.size, i.bytes)) = some (some (.slice none 0 0), 1, 24) := by kernel_rfl
theorem stepIn_append {F : Fence} {n : Nat} {P : Program} {ops : Array Oper} {o : Oper} {a : Act} {w w' : World} {v y v' : Value} {K : Act → World → Prop} {Q : Exit → Act → World → Prop} {E : Prop}
    (hgd : o.guard = none) (s x : Operand) (t : TypeId) (hop : o.op = Op.call { callee := Callee.builtin Builtin.append, args := #[s, x], argTypes := #[t, t] }) (hs : a.eval s = v) (hx : a.eval x = y)
    (hrun : (Builtin.append_ #[t, t] o.type #[v, y]).run P w = .ok v' w') (hK : K (a.put o.dst v') w') :
    if Region.wanted o (yielded ops a.tmps) = true then Oper.wpIn F n P o a w K Q else E := by
  have hw : Region.wanted o (yielded ops a.tmps) = true := by simp [Region.wanted, hgd]
  rw [if_pos hw]
  unfold Oper.wpIn
  refine ⟨?_, ?_⟩
  · simp [Oper.about, hop, resolve, Target.leads, Sem.run_pure]
  · rw [Oper.semAt_plain F _ _ (by rw [hop]; intro c hc'; cases hc')]
    simp [execOp, hop, resolve, invoke, builtin, hs, hx, hrun, Result.andThen]
    exact hK
/-- What has been copied when pre has come. -/
def Copied (w0 : World) (pre : List (RowIn w0)) (W : World) : Prop :=
  ∃ v vals, Boxed W w0.heap.size 24 v ∧ W.ownsRow w0.heap.size 36 1 v pre.length vals ∧ ∀ i (h : i < pre.length), ∃ rv, vals[i]? = some rv ∧ RowK W rv pre[i].1.2
theorem copied_pic {w0 X Y : World} {pre : List (RowIn w0)} {v : Value} {vals : List Value} {row : Option Nat} (_h : Copied w0 pre X) (_hb : Boxed X w0.heap.size 24 v) (ho : X.ownsRow w0.heap.size 36 1 v pre.length vals)
    (hv : ∀ i (h : i < pre.length), ∃ rv, vals[i]? = some rv ∧ RowK X rv pre[i].1.2) (hg : X.grownBy Y row) (hr : ∀ r, row = some r → ∃ o : Obj, X.heap[r]? = some o ∧ o.isCells = false) : PicV Y v (pre.map fun x => x.1.2) := by
  have h' := ho
  rcases ho.2 with ⟨rfl, h0⟩ | ⟨g, cap, cur, rfl, _, hgg, hn, _⟩
  · have : pre = [] := List.eq_nil_of_length_eq_zero h0
    subst this
    exact PicV.nil _
  · refine .inr ⟨g, 0, cap, by simp, by simpa using hn, fun i hi => ?_⟩
    have hi' : i < pre.length := by simpa using hi
    obtain ⟨rv, e1, e2⟩ := hv i hi'
    have hadd : (⟨g, 0, none⟩ : Addr).add i = ⟨g, 0 + i, none⟩ := by unfold Addr.add; split <;> simp_all
    have hc := World.ownsRow.cells h' (g := g) rfl i rv e1
    rw [hadd] at hc
    refine ⟨rv, cell_kept hc hg hr, ?_⟩
    rw [List.getElem_map]
    exact (e2.own hg hr).1
theorem copied_own (w0 : World) : Own (Copied w0) := by
  rintro pre X Y row ⟨v, vals, hb, ho, hv⟩ hg hr
  have h1 := holdsRow_own (β := Unit) w0.heap.size w0.heap.size 24 36 1 (fun _ => pre.length) (fun _ => vals) (fun _ u => u = v) () X Y row ⟨v, hb, ho, rfl⟩ hg hr
  obtain ⟨v', k1, k2, rfl⟩ := h1
  exact ⟨v', vals, k1, k2, fun i hi => by obtain ⟨rv, e1, e2⟩ := hv i hi; exact ⟨rv, e1, e2.own hg hr⟩⟩
theorem copied_next {w0 W W1 w2 : World} {pre : List (RowIn w0)} {x : RowIn w0} {v v1 v2 : Value} {vals : List Value} (o : Obj)
    (hvals : ∀ i (h : i < pre.length), ∃ rv, vals[i]? = some rv ∧ RowK W rv pre[i].1.2) (hr1 : RowK W1 v1 x.1.2) (hbw : Below W.heap.size W W1) (hv1 : Boxed W1 w0.heap.size 24 v) (hrow1 : W1.ownsRow w0.heap.size 36 1 v pre.length vals)
    (hgrow : (W1.alloc o).grownBy w2 v.ownBlock) (q1 : Boxed w2 w0.heap.size 24 v)
    (q2 : Boxed (w2.setCell ⟨w0.heap.size, 0, none⟩ v2) w0.heap.size 24 v2) (q3 : (w2.setCell ⟨w0.heap.size, 0, none⟩ v2).ownsRow w0.heap.size 36 1 v2 (pre.length + 1) (vals ++ [v1])) :
    Copied w0 (pre ++ [x]) (w2.setCell ⟨w0.heap.size, 0, none⟩ v2) := by
  have hfar : ∀ {rv : Value} {cs : List C3}, RowK W1 rv cs → RowK (w2.setCell ⟨w0.heap.size, 0, none⟩ v2) rv cs := by
    intro rv cs h
    have h1 := h.far (World.grownBy_alloc W1 o none) (fun r e => by cases e)
    have h2 := h1.far hgrow (fun r e => by
      rcases (hrow1.alloc o).2 with ⟨rfl, _⟩ | ⟨g, cap, cur, rfl, _, hg, _⟩
      · cases e
      · have e' : g = r := Option.some.inj e
        subst e'
        exact ⟨cur, _, _, hg, by decide⟩)
    exact h2.far (grownBy_setCell' w2 w0.heap.size v2) (fun r e => by
      have e' : w0.heap.size = r := Option.some.inj e
      subst e'
      exact ⟨_, _, _, q1, by decide⟩)
  have hvl : vals.length = pre.length := by have := hrow1.1; omega
  refine ⟨v2, vals ++ [v1], q2, by rw [List.length_append]; exact q3, fun i hi => ?_⟩
  by_cases h : i < pre.length
  · obtain ⟨rv, e1, e2⟩ := hvals i h
    refine ⟨rv, by rw [List.getElem?_append_left (by omega)]; exact e1, ?_⟩
    rw [List.getElem_append_left h]
    exact hfar (e2.far (grown_of hbw) (fun r e => by cases e))
  · have hi2 : i = pre.length := by simp at hi; omega
    subst hi2
    refine ⟨v1, by rw [List.getElem?_append_right (by omega), hvl]; simp, ?_⟩
    rw [List.getElem_append_right (Nat.le_refl _)]
    simpa using hfar hr1
end Go.Proofs.Ytgecclccmmcdoaa

/-
  What is proved: the walk of FieldOf at 0 and 1.
  Conditions: the picture can be read.
-/
namespace Go.Proofs.Ytgecclccmmcdoaa
set_option linter.unusedVariables false
open Go.RowKit Go.Shelf
attribute [local go_sem] run_store_float run_store_complex unary_negf neg256

theorem exists_list {α : Type} : ∀ (n : Nat) (P : Nat → α → Prop), (∀ i, i < n → ∃ x, P i x) → ∃ L : List α, L.length = n ∧ ∀ i (h : i < L.length), P i L[i]
  | 0, _, _ => ⟨[], rfl, fun i h => by simp at h⟩
  | n + 1, P, h => by
    obtain ⟨L, h1, h2⟩ := exists_list n P (fun i hi => h i (by omega))
    obtain ⟨x, hx⟩ := h n (by omega)
    refine ⟨L ++ [x], by simp [h1], fun i hi => ?_⟩
    by_cases hlt : i < L.length
    · rw [List.getElem_append_left hlt]; exact h2 i hlt
    · have hi2 : i = L.length := by simp at hi; omega
      subst hi2
      rw [List.getElem_append_right (Nat.le_refl _)]
      simpa [h1] using hx
theorem evens_map {α β : Type} (f : α → β) : ∀ l : List α, (evens l).map f = evens (l.map f)
  | [] => rfl
  | [_] => rfl
  | a :: b :: l => by simp [evens, evens_map f l]
theorem evens_len {α : Type} : ∀ l : List α, (evens l).length = (l.length + 1) / 2
  | [] => by simp [evens]
  | [_] => by simp [evens]
  | a :: b :: l => by simp only [evens, List.length_cons, evens_len l]; omega
theorem evens_get {α : Type} : ∀ (l : List α) (j : Nat), (evens l)[j]? = l[2 * j]?
  | [], j => by simp [evens]
  | [a], 0 => rfl
  | [a], j + 1 => by simp [evens]
  | a :: b :: l, 0 => rfl
  | a :: b :: l, j + 1 => by
    show (evens l)[j]? = _
    rw [evens_get l j, show 2 * (j + 1) = 2 * j + 1 + 1 by omega]
    rfl
/-- The field k of a picture. -/
def fld (rs : List (List C3)) (k : Nat) : List (List C3) := evens (rs.drop k)
/-- A picture's rows, as what an iterator hands out. -/
theorem rows_in {w w0 : World} {g o : Nat} {rs : List (List C3)} (hb : Below w.heap.size w w0) (hne : ∀ r ∈ rs, r ≠ [] ∧ r.length ≤ 1000000)
    (hcell : ∀ i (h : i < rs.length), ∃ a c, w.cell? ⟨g, o + i, none⟩ = some (.slice a rs[i].length c) ∧ RowV w (.slice a rs[i].length c) rs[i]) :
    ∃ L : List (RowIn w0), L.length = rs.length ∧ (L.map fun x => x.1.2) = rs ∧ ∀ i (h : i < L.length), w0.cell? ⟨g, o + i, none⟩ = some L[i].1.1 := by
  obtain ⟨L, h1, h2⟩ := exists_list rs.length (fun i (x : RowIn w0) => rs[i]? = some x.1.2 ∧ w0.cell? ⟨g, o + i, none⟩ = some x.1.1) (fun i hi => by
    obtain ⟨a, c, k1, k2⟩ := hcell i hi
    obtain ⟨e1, e2⟩ := hne _ (List.getElem_mem hi)
    exact ⟨⟨(.slice a rs[i].length c, rs[i]), k2.below hb, e1, e2⟩, List.getElem?_eq_getElem hi, (grown_of hb).cell k1 (by simp)⟩)
  refine ⟨L, h1, ?_, fun i h => (h2 i h).2⟩
  apply List.ext_getElem?
  intro i
  by_cases hi : i < L.length
  · rw [List.getElem?_map, List.getElem?_eq_getElem hi, (h2 i hi).1]; rfl
  · rw [List.getElem?_eq_none (by simp; omega), List.getElem?_eq_none (by omega)]
theorem pok_rows_ne {rs : List (List C3)} (h : pok rs = true) : ∀ r ∈ rs, r ≠ [] ∧ r.length ≤ 1000000 := by
  intro r hr
  unfold pok at h
  rw [Bool.and_eq_true] at h
  have h1 := List.all_eq_true.1 h.2 r hr
  unfold rowFit at h1
  rw [Bool.and_eq_true] at h1
  have h2 := (rok_iff.1 h1.1).1
  exact ⟨rok_ne h1.1, by omega⟩
theorem pok_size_of {rs : List (List C3)} (h : pok rs = true) : rs.length % 4 = 0 ∧ 4 ≤ rs.length ∧ rs.length ≤ 64 := by
  unfold pok at h
  rw [Bool.and_eq_true] at h
  exact sizeOk_iff.1 h.1
def PicPost (rs : List (List C3)) (w : World) (e : Ending) (w' : World) : Prop := ∃ v, e = .returned v ∧ PicV w' v rs ∧ Below w.heap.size w w'
theorem PicPost.mk {rs : List (List C3)} {w w' : World} {v : Value} (h : PicV w' v rs) (hb : Below w.heap.size w w') : PicPost rs w (.returned v) w' := ⟨v, rfl, h, hb⟩
end Go.Proofs.Ytgecclccmmcdoaa

/-
  What is proved: what the functions that draw pictures of chapter 2 answer.
  Conditions: the cursor's block holds a cursor; the bytes that they draw from can be read.
-/
namespace Go.Proofs.Ytgecclccmmcdoaa
set_option linter.unusedVariables false
open Go.RowKit
attribute [local go_sem] run_store_float run_store_complex unary_negf neg256

set_option maxHeartbeats 1000000 in
theorem l02PlainD_any (b : Nat) (w : World) (hc : Cur w b) :
    Calls Try.prog 60 #[.pointer (some ⟨b, 0, none⟩)] w fun e w' => CellPost b w e w' := by
  have hlt := hc.lt
  have hcA := hc.alloc (.cells #[.float .f32 0, .complex .f32 0 0] 40)
  have hgA := World.grownBy_alloc w (.cells #[.float .f32 0, .complex .f32 0 0] 40) (some b)
  have hnew := heap_alloc_new w (.cells #[.float .f32 0, .complex .f32 0 0] 40)
  have hsA : w.heap.size < (w.alloc (.cells #[.float .f32 0, .complex .f32 0 0] 40)).heap.size := by simp
  have HN := Lib.hid hnew
  clear hc hnew
  go_enter Try.func60, Try.ntmps60
  go_wp2_with fail
  generalize w.alloc (.cells #[.float .f32 0, .complex .f32 0 0] 40) = wA at *
  refine (l01Below_any b _ _ hcA (by decide) (by decide)).mono ?_
  rintro e w1 ⟨x1, hx1, _, rfl, hc1, hg1⟩
  have hx1 := hx1 (by decide)
  obtain ⟨y, hy, hy2⟩ := foi16 ((x1 : Int) - 1024)
  have q1 := fun W => run_float_arith (P := Try.prog) W .quo 26 .f32 _ _ _ hy
  go_wp2_with fail
  refine (l01Below_any b _ _ hc1 (by decide) (by decide)).mono ?_
  rintro e w2 ⟨x2, hx2, _, rfl, hc2, hg2⟩
  have hx2 := hx2 (by decide)
  obtain ⟨u, hu, hu2⟩ := foi16 ((x2 : Int) - 512)
  have q2 := fun W => run_float_arith (P := Try.prog) W .quo 26 .f32 _ _ _ hu
  go_wp2_with fail
  refine (l01Below_any b _ _ hc2 (by decide) (by decide)).mono ?_
  rintro e w3 ⟨x3, hx3, _, rfl, hc3, hg3⟩
  have hx3 := hx3 (by decide)
  obtain ⟨v, hv, hv2⟩ := foi16 ((x3 : Int) - 512)
  have q3 := fun W => run_float_arith (P := Try.prog) W .quo 26 .f32 _ _ _ hv
  have HV := Lib.hid (And.intro hy2 (And.intro hu2 hv2))
  clear hy hu hv hy2 hu2 hv2 q1 q2
  have hg := (hg1.trans hg2).trans hg3
  have hB : w3.heap[w.heap.size]? = some (.cells #[.float .f32 0, .complex .f32 0 0] 40 (0, 0)) := (hg.block _ hsA (by intro h; cases h; omega)).trans HN.out
  have c0 : w3.cell? ⟨w.heap.size, 0, none⟩ = some (.float .f32 0) := by simp [World.cell?, hB]
  have c1 : w3.cell? ⟨w.heap.size, 1, none⟩ = some (.complex .f32 0 0) := by simp [World.cell?, hB]
  have f0 : w3.frozen? ⟨w.heap.size, 0, none⟩ = false := by simp [World.frozen?, hB]
  have f1 : w3.frozen? ⟨w.heap.size, 1, none⟩ = false := by simp [World.frozen?, hB]
  have hB2 := heap_put (i := 1) (v := .complex .f32 u v) (heap_put (i := 0) (v := .float .f32 y) hB)
  have hgr := grown_set (grown_set (hgA.trans hg) (p := ⟨w.heap.size, 0, none⟩) (Nat.le_refl _) (.float .f32 y)) (p := ⟨w.heap.size, 1, none⟩) (Nat.le_refl _) (.complex .f32 u v)
  have hcr := (hc3.set (p := ⟨w.heap.size, 0, none⟩) hlt (.float .f32 y)).set (p := ⟨w.heap.size, 1, none⟩) hlt (.complex .f32 u v)
  clear hB hc1 hc2 hc3 hg1 hg2 hg3 hg hgA hcA
  have HB := Lib.hid hB2
  clear hB2
  go_wp2
  generalize ((w3.setCell ⟨w.heap.size, 0, none⟩ (.float .f32 y)).setCell ⟨w.heap.size, 1, none⟩ (.complex .f32 u v)) = w4 at *
  have d0 : w4.cell? ⟨w.heap.size, 0, none⟩ = some (.float .f32 y) := by have := HB.out; simp [World.cell?, this]
  have d1 : w4.cell? ⟨w.heap.size, 1, none⟩ = some (.complex .f32 u v) := by have := HB.out; simp [World.cell?, this]
  refine bodyPost_ret (v := .agg #[.float .f32 y, .complex .f32 u v]) ?_ rfl ⟨y, u, v, HV.out, rfl, hcr, hgr⟩
  simp [results, Try.results60, go_sem, d0, d1]

theorem Cur.cells {w : World} {b : Nat} (h : Cur w b) : ∃ cur t fz, w.heap[b]? = some (.cells cur t fz) ∧ t ≠ 40 := by
  obtain ⟨_, _, _, _, _, _, _, _, _, hb⟩ := h
  exact ⟨_, _, _, hb, by decide⟩
/-- The rows of a picture that is being drawn. -/
def Rows (base : Nat) (w : World) (W : Nat) (vals : List Value) (rs : List (List C3)) : Prop := ∀ i (h : i < rs.length), ∃ rv, vals[i]? = some rv ∧ RowK w rv rs[i] ∧ (rs[i].length = W ∧ ∀ g o n c, rv = .slice (some ⟨g, o, none⟩) n c → base ≤ g)
structure PRnd (w wr : World) (b W g cap : Nat) (rs : List (List C3)) : Prop where
  own : ∃ vals, wr.ownsRow w.heap.size 36 1 (.slice (some ⟨g, 0, none⟩) rs.length cap) rs.length vals ∧ Rows w.heap.size wr W vals rs
  cur : Cur wr b
  grown : w.grownBy wr (some b)
/-- A row that is being drawn. -/
structure IRnd (ws wi : World) (b : Nat) (v : Value) (cs : List C3) : Prop where
  own : OwnC wi ws.heap.size v cs
  cur : Cur wi b
  grown : ws.grownBy wi (some b)
theorem Rows.far {base : Nat} {w w' : World} {W : Nat} {vals : List Value} {rs : List (List C3)} {row : Option Nat} (h : Rows base w W vals rs) (hg : w.grownBy w' row) (hr : ∀ r, row = some r → ∃ cur t fz, w.heap[r]? = some (.cells cur t fz) ∧ t ≠ 40) : Rows base w' W vals rs := by
  intro i hi
  obtain ⟨rv, h1, h2, h3⟩ := h i hi
  exact ⟨rv, h1, h2.far hg hr, h3⟩
theorem PRnd.start (w : World) (b W : Nat) (hc : Cur w b) : PRnd w (w.alloc (.cells #[] 36)) b W w.heap.size 0 [] :=
  ⟨⟨[], World.ownsRow_made w #[] 0 (Nat.le_refl _) (by unfold maxLen; omega) rfl, fun i h => by simp at h⟩, hc.alloc _, World.grownBy_alloc _ _ _⟩
theorem PRnd.next {w wr w' : World} {b W g cap : Nat} {rs : List (List C3)} (h : PRnd w wr b W g cap rs) (hb : b < w.heap.size) (hc : Cur w' b) (hg : wr.grownBy w' (some b)) : PRnd w w' b W g cap rs := by
  obtain ⟨vals, h1, h2⟩ := h.own
  refine ⟨⟨vals, h1.kept hg (.inr ?_), h2.far hg (fun r e => by have e' : b = r := Option.some.inj e; subst e'; exact h.cur.cells)⟩, hc, h.grown.trans hg⟩
  intro e
  have e' : g = b := Option.some.inj e
  have := (h1.lt g rfl).1
  omega
theorem IRnd.next {ws wi w' : World} {b : Nat} {v : Value} {cs : List C3} (h : IRnd ws wi b v cs) (hb : b < ws.heap.size) (hc : Cur w' b) (hg : wi.grownBy w' (some b)) : IRnd ws w' b v cs := by
  refine ⟨h.own.kept hg ?_, hc, h.grown.trans hg⟩
  cases hv : v.ownBlock with
  | none => exact .inl rfl
  | some k => exact .inr (fun e => by cases e; have := (h.own.lt b hv).1; omega)
theorem IRnd.app {ws wi w' : World} {b g cap : Nat} {v : Value} {cs : List C3} {c : C3} (h : IRnd ws wi b v cs) (hb : b < ws.heap.size) (o : Obj)
    (hown : OwnC w' ws.heap.size (.slice (some ⟨g, 0, none⟩) (cs.length + [c].length) cap) (cs ++ [c])) (hg : (wi.alloc o).grownBy w' v.ownBlock) :
    IRnd ws w' b (.slice (some ⟨g, 0, none⟩) (cs.length + [c].length) cap) (cs ++ [c]) := by
  refine ⟨hown, ?_, ?_⟩
  · exact (h.cur.alloc o).grown hg (fun r hr => Nat.lt_of_lt_of_le hb (h.own.lt r hr).1)
  · exact grown_own (grown_alloc h.grown o) hg (fun r hr => (h.own.lt r hr).1)
/-- The drawn row joins the picture. -/
theorem PRnd.app {w wr wi w' : World} {b W g cap g2 cap2 : Nat} {rs : List (List C3)} {v : Value} {cs : List C3} {vals : List Value} (hb : b < w.heap.size) (hi : IRnd wr wi b v cs) (hcs : cs.length = W) (o : Obj) (hwr : w.heap.size ≤ wr.heap.size) (hgr : w.grownBy wi (some b))
    (hO : wi.ownsRow w.heap.size 36 1 (.slice (some ⟨g, 0, none⟩) rs.length cap) rs.length vals) (hR : Rows w.heap.size wi W vals rs)
    (hown : w'.ownsRow w.heap.size 36 1 (.slice (some ⟨g2, 0, none⟩) (rs.length + 1) cap2) (rs.length + 1) (vals ++ [v])) (hg : (wi.alloc o).grownBy w' (some g)) :
    PRnd w w' b W g2 cap2 (rs ++ [cs]) := by
  have hvl : vals.length = rs.length := by have := hO.1; omega
  have hgl := (hO.lt g rfl).1
  have hrow : ∀ {rv : Value} {ds : List C3}, RowK wi rv ds → RowK w' rv ds := by
    intro rv ds hk
    have h1 := hk.far (World.grownBy_alloc wi o none) (fun r e => by cases e)
    refine h1.far hg (fun r e => ?_)
    have e' : g = r := Option.some.inj e
    subst e'
    rcases (hO.alloc o).2 with ⟨h0, _⟩ | ⟨g', cp, cur, h0, _, hgg, _⟩
    · cases h0
    · simp only [Value.slice.injEq, Option.some.injEq, Addr.mk.injEq] at h0
      obtain ⟨⟨rfl, _⟩, _⟩ := h0
      exact ⟨cur, _, _, hgg, by decide⟩
  refine ⟨⟨vals ++ [v], by rw [List.length_append]; exact hown, fun i hi2 => ?_⟩, ?_, ?_⟩
  · by_cases hlt : i < rs.length
    · obtain ⟨rv, e1, e2, e3⟩ := hR i hlt
      refine ⟨rv, by rw [List.getElem?_append_left (by omega)]; exact e1, ?_⟩
      rw [List.getElem_append_left hlt]
      exact ⟨hrow e2, e3⟩
    · have hi3 : i = rs.length := by simp at hi2; omega
      subst hi3
      refine ⟨v, by rw [List.getElem?_append_right (by omega), hvl]; simp, ?_⟩
      rw [List.getElem_append_right (Nat.le_refl _)]
      refine ⟨by simpa using hrow hi.own.rowK, by simpa using hcs, fun g' o' n c e => ?_⟩
      have := (hi.own.lt g' (by rw [e]; rfl)).1
      omega
  · exact (hi.cur.alloc o).grown hg (fun r hr => by cases hr; omega)
  · exact grown_own (grown_alloc hgr o) hg (fun r hr => by cases hr; exact hgl)

/-- A row's header, appended to a picture. -/
theorem rows_append {ops : Array Oper} {rest : List Oper} {o : Oper} {a : Act} {w : World} {Q : Exit → Act → World → Prop} (hgd : o.guard = none) (s x : Operand)
    (ho : o.op = .call { callee := .builtin .append, args := #[s, x], argTypes := #[24, 24] })
    (base : Nat) (v : Value) (n : Nat) (vals news : List Value) (hs : a.eval s = v) (hown : w.ownsRow base 36 1 v n vals) (ad : Addr) (m c : Nat) (hx : a.eval x = .slice (some ad) m c) (hl : news.length = m) (hnews : ∀ j u, news[j]? = some u → w.cell? (ad.add j) = some u) (h1 : ∀ u ∈ news, u.oneCell' = true)
    (hm : 0 < m) (hlen : n + m ≤ 1000000) (hbase : base ≤ w.heap.size)
    (h : ∀ g cap w', w'.ownsRow base 36 1 (.slice (some ⟨g, 0, none⟩) (n + m) cap) (n + m) (vals ++ news) → w.grownBy w' v.ownBlock → g < w'.heap.size → wpList Try.prog ops Q rest (a.put o.dst (.slice (some ⟨g, 0, none⟩) (n + m) cap)) w') :
    wpList Try.prog ops Q (o :: rest) a w := by
  obtain ⟨i0, hi, hz0, hz1, hz2⟩ := info_parts info_row
  refine wpList_append_lies w hgd s x 24 ho base 36 i0 _ 1 24 Try.underlying24 hi hz0 hz1 hz2 rfl (by decide) v n _ hs hown ad m c news hx (by omega) hnews h1 hm (by unfold maxLen; omega) (by omega) hbase w.heap.size rfl ?_
  intro g cap w' h2 h3 _ h5
  exact h g cap w' h2 h3 h5
theorem cell_lit (w : World) (x : Value) (t : TypeId) : ∀ j u, [x][j]? = some u → (w.alloc (.cells #[x] t)).cell? ((⟨w.heap.size, 0, none⟩ : Addr).add j) = some u := by
  intro j u hu
  cases j with
  | zero =>
    have e : x = u := by simpa using hu
    subst e
    have hadd : (⟨w.heap.size, 0, none⟩ : Addr).add 0 = ⟨w.heap.size, 0, none⟩ := by unfold Addr.add; split <;> simp_all
    rw [hadd]
    exact (cell_of_row _ _ 0 _ _ _ (heap_alloc_new w _)).trans rfl
  | succ j => simp at hu

theorem RowV.at {w : World} {v : Value} {cs : List C3} (h : RowV w v cs) (i : Nat) (hi : i < cs.length) : ∃ g o c u z, v = .slice (some ⟨g, o, none⟩) cs.length c ∧ w.cell? ⟨g, o + i * 2 + 1, none⟩ = some (.complex .f32 u z) := by
  rcases h with ⟨_, h⟩ | ⟨g, o, c, h1, _, h3⟩
  · subst h; simp at hi
  · exact ⟨g, o, c, _, _, h1, (h3 i hi).2⟩
theorem cell_own {w : World} {base g n cap : Nat} {e : TypeId} {vals : List Value} (h : w.ownsRow base e 1 (.slice (some ⟨g, 0, none⟩) n cap) n vals) {i : Nat} {x : Value} (hx : vals[i]? = some x) : w.cell? ⟨g, i, none⟩ = some x := by
  have hc := World.ownsRow.cells h (g := g) rfl i x hx
  have hadd : (⟨g, 0, none⟩ : Addr).add i = ⟨g, i, none⟩ := by unfold Addr.add; split <;> simp_all
  rwa [hadd] at hc
theorem row_lit2 (w : World) (o : Obj) (y u v : Nat) : RowV ((w.alloc o).alloc (.cells #[.float .f32 y, .complex .f32 u v] 40)) (.slice (some ⟨w.heap.size + 1, 0, none⟩) 1 1) [(y, u, v)] := by
  have := row_lit (w.alloc o) y u v
  rwa [World.size_alloc] at this
def PairedPost (b : Nat) (w : World) (e : Ending) (w' : World) : Prop := ∃ W g cap rs, (1 ≤ W ∧ W ≤ 4) ∧ (4 ≤ rs.length ∧ rs.length ≤ 8) ∧ e = .returned (.slice (some ⟨g, 0, none⟩) rs.length cap) ∧ PRnd w w' b W g cap rs
theorem PairedPost.mk {b W g cap : Nat} {w w' : World} {rs : List (List C3)} (h1 : 1 ≤ W ∧ W ≤ 4) (h2 : 4 ≤ rs.length ∧ rs.length ≤ 8) (h : PRnd w w' b W g cap rs) : PairedPost b w (.returned (.slice (some ⟨g, 0, none⟩) rs.length cap)) w' := ⟨W, g, cap, rs, h1, h2, rfl, h⟩
set_option maxRecDepth 100000 in
set_option maxHeartbeats 8000000 in
theorem l02Paired_any (b : Nat) (w : World) (hc : Cur w b) :
    Calls Try.prog 51 #[.pointer (some ⟨b, 0, none⟩)] w fun e w' => PairedPost b w e w' := by
  have hlt := hc.lt
  have HS := Lib.hid (fun W => PRnd.start w b W hc)
  clear hc
  go_enter Try.func51, Try.ntmps51
  go_wp2_with fail
  refine (l01Below_any b _ _ (HS.out 0).cur (by decide) (by decide)).mono ?_
  rintro e w1 ⟨x, hx, _, rfl, hc1, hg1⟩
  have hx := hx (by decide)
  have HS1 := Lib.hid (fun W => (HS.out W).next hlt hc1 hg1)
  clear HS hc1 hg1
  go_wp2_with fail
  refine (l01Below_any b _ _ (HS1.out 0).cur (by decide) (by decide)).mono ?_
  rintro e w2 ⟨y, hy, _, rfl, hc2, hg2⟩
  have hy := hy (by decide)
  have HS2 := Lib.hid (fun W => (HS1.out W).next hlt hc2 hg2)
  clear HS1 hc2 hg2
  go_wp2
  obtain ⟨W, hW⟩ : ∃ W : Nat, W = 1 + x := ⟨_, rfl⟩
  have hW1 : (1 : Int) + (x : Int) = (W : Int) := by omega
  have hWr : 1 ≤ W ∧ W ≤ 4 := by omega
  obtain ⟨H, hH⟩ : ∃ H : Nat, H = 4 * (1 + y) := ⟨_, rfl⟩
  have hH1 : (4 : Int) * (1 + (y : Int)) = (H : Int) := by omega
  have hHr : 4 ≤ H ∧ H ≤ 8 := by omega
  have HP := Lib.hid (HS2.out W)
  clear HS2
  try simp only [hW1, hH1]
  clear hW1 hH1 hW hH hx hy
  go_loopw [3, 6] (fun out r wr => ∃ (g cap : Nat) (rs : List (List C3)), rs.length ≤ H ∧ out = .slice (some ⟨g, 0, none⟩) rs.length cap ∧ r = .int .i64 (rs.length : Int) ∧ PRnd w wr b W g cap rs) (fun _ r _ => H - (intOf r).toNat)
  case atStart => exact ⟨_, 0, [], Nat.zero_le _, rfl, rfl, HP.out⟩
  case round =>
    obtain ⟨g, cap, rs, hrl, rfl, rfl, hr⟩ := hrel
    have HR := Lib.hid hr
    clear hr HP
    by_cases hlr : rs.length < H
    · obtain ⟨ws, rfl⟩ : ∃ ws, ws = wr := ⟨_, rfl⟩
      have hs0 := HR.out.grown.size
      have hltr : b < ws.heap.size := by omega
      have HI := Lib.hid (show IRnd ws (ws.alloc (.cells #[] 40)) b (.slice (some ⟨ws.heap.size, 0, none⟩) 0 0) [] from ⟨OwnC.made0 ws, HR.out.cur.alloc _, World.grownBy_alloc ws _ _⟩)
      go_wp2
      go_loopw [7, 8] (fun row i wi => ∃ (ig icap : Nat) (cs : List C3), cs.length ≤ W ∧ row = .slice (some ⟨ig, 0, none⟩) cs.length icap ∧ i = .int .i64 (cs.length : Int) ∧ IRnd ws wi b (.slice (some ⟨ig, 0, none⟩) cs.length icap) cs) (fun _ i _ => W - (intOf i).toNat)
      case atStart => exact ⟨_, 0, [], Nat.zero_le _, rfl, rfl, HI.out⟩
      case round =>
        obtain ⟨ig, icap, cs, hcl, rfl, rfl, hir⟩ := hrel
        have HIR := Lib.hid hir
        clear hir HI
        by_cases hlc : cs.length < W
        · go_wp2_with fail
          refine (l02PlainD_any b _ HIR.out.cur).mono ?_
          rintro e w3 ⟨py, pu, pz, hf, rfl, hc3, hg3⟩
          have hi3 := HIR.out.next hltr hc3 hg3
          have HI3 := Lib.hid (fun o => show IRnd ws (w3.alloc o) b _ cs from ⟨hi3.own.alloc o, hi3.cur.alloc o, grown_alloc hi3.grown o⟩)
          have hbase := hi3.grown.size
          by_cases hr4 : rs.length % 4 < 2
          · have hd : decide (2 ≤ (rs.length : Int) % 4) = false := by simp; omega
            have HL := Lib.hid (row_lit2 w3 (.cells #[.float .f32 py, .complex .f32 pu pz] 40) py pu pz)
            clear hi3 hc3 hg3 hf HIR hr4
            go_wp2_with (at_builtin; refine own_append rfl (.tmp 44) (.tmp 46) rfl ws.heap.size _ cs [(py, pu, pz)] rfl ((HI3.out _).own.alloc _) _ _ _ rfl HL.out (by simp) (by simp; omega) (by simp; omega) ?_; intro g6 cap6 w6 ho6 hg6 hor6 hlt6)
            have hfin := (HI3.out _).app hltr _ ho6 hg6
            have HF := Lib.hid hfin
            clear hfin ho6 hg6 hor6 hlt6 hd
            go_roundw
            case rel => exact ⟨g6, cap6, cs ++ [(py, pu, pz)], by simp; omega, by simp, by simp, by simpa using HF.out⟩
            case measure => simp [intOf]; omega
          · have hd : decide (2 ≤ (rs.length : Int) % 4) = true := by simp; omega
            have hp3 := HR.out.next hlt hi3.cur hi3.grown
            obtain ⟨vals, hO, hR⟩ := hp3.own
            obtain ⟨rv, e1, e2, e3⟩ := hR (rs.length - 2) (by omega)
            obtain ⟨rg, ro, rc, cu, cz, rfl, k1⟩ := e2.1.at cs.length (by have := e3.1; omega)
            have k0 := cell_own hO e1
            rw [e3.1] at k0
            have hbA := (Below.refl w3.heap.size w3).alloc (Nat.le_refl _) (.cells #[.float .f32 py, .complex .f32 pu pz] 40)
            have m0 := (grown_of hbA).cell k0 (by simp)
            have m1 := (grown_of hbA).cell k1 (by simp)
            have hs1 : ((rs.length : Int) - 2) = ((rs.length - 2 : Nat) : Int) := by omega
            have hs2 : rs.length - 2 < rs.length := by omega
            have HL := Lib.hid (row_lit2 w3 (.cells #[.float .f32 py, .complex .f32 cu cz] 40) py cu cz)
            clear hi3 hc3 hg3 hf HIR hr4 k0 k1 e1 e2 e3 hO hR hp3 hbA
            go_wp2_with (at_builtin; refine own_append rfl (.tmp 44) (.tmp 46) rfl ws.heap.size _ cs [(py, cu, cz)] rfl ((HI3.out _).own.alloc _) _ _ _ rfl HL.out (by simp) (by simp; omega) (by simp; omega) ?_; intro g6 cap6 w6 ho6 hg6 hor6 hlt6)
            have hfin := (HI3.out _).app hltr _ ho6 hg6
            have HF := Lib.hid hfin
            clear hfin ho6 hg6 hor6 hlt6 hd hs1 hs2 m0 m1
            go_roundw
            case rel => exact ⟨g6, cap6, cs ++ [(py, cu, cz)], by simp; omega, by simp, by simp, by simpa using HF.out⟩
            case measure => simp [intOf]; omega
        · have hcw : cs.length = W := by omega
          have hp3 := HR.out.next hlt HIR.out.cur HIR.out.grown
          obtain ⟨vals, hO, hR⟩ := hp3.own
          have hbase := hp3.grown.size
          have HO := Lib.hid hO
          have HRR := Lib.hid hR
          have HG := Lib.hid hp3.grown
          have HCW := Lib.hid hcw
          clear hO hR hp3 hcw
          go_wp2_with (at_builtin; refine rows_append rfl (.tmp 48) (.tmp 50) rfl w.heap.size _ rs.length vals _ rfl (HO.out.alloc _) _ 1 _ rfl rfl (cell_lit _ _ _) (by simp [Value.oneCell']) (by decide) (by omega) (by simp; omega) ?_; intro g6 cap6 w6 ho6 hg6 hlt6)
          have hfin := PRnd.app hlt HIR.out HCW.out _ hs0 HG.out HO.out HRR.out ho6 hg6
          have HF := Lib.hid hfin
          clear hfin ho6 hg6 hlt6
          go_roundw
          case rel => exact ⟨g6, cap6, rs ++ [cs], by simp; omega, by simp, by simp, by simpa using HF.out⟩
          case measure => simp [intOf]; omega
    · have hrh : rs.length = H := by omega
      have HH := Lib.hid hrh
      clear hrh
      go_wp2
      go_ret
      exact PairedPost.mk hWr (by have := HH.out; omega) HR.out
end Go.Proofs.Ytgecclccmmcdoaa
