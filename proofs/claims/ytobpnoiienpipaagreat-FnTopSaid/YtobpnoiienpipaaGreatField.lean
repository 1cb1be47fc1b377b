/-
  What is proved: the walks of the iterators over a picture's rows, of the copying of rows that an iterator hands out, and of FieldOf.
  Conditions: the picture can be read; its rows are not empty.
-/
import Derived.RangeFuncNested
import Derived.RangeFuncBound
import Derived.RangeFuncCalls
import Derived.RangeFuncLeaves
import Derived.RangeFuncBox
import Derived.Shelf.Abstract
import Derived.Shelf.RegionOpen
import Derived.OwnWalkIn
import Derived.TacticsInMore
import Derived.LoopNIn
import Derived.LoopIn
import Derived.Maps.AppendAt
import Derived.Test.YtobpnoiienpipaaGreatSpecPic
import Derived.Test.YtobpnoiienpipaaGreatPz03
namespace Go.Proofs.YtobpnoiienpipaaGreat
set_option linter.unusedVariables false
open Go.RowKit Go.Shelf
attribute [local go_sem] run_store_float run_store_complex unary_negf neg256 Oper.semAt_some

theorem eql_nil_row (g o n c : Nat) (W : World) : (binOp .eql 40 (.slice (some ⟨g, o, none⟩) n c) (.slice none 0 0)).run Tryz.prog W = .ok (.bool false) W := by
  simp only [binOp]
  simp [run_equal_slice_nil W _ _ _ _ _ Tryz.underlying40]
/-- The slice v reads as cs, and its block holds cells. -/
def RowK (w : World) (v : Value) (cs : List C3) : Prop := RowV w v cs ∧ ∀ g o n c, v = .slice (some ⟨g, o, none⟩) n c → ∃ cur, w.heap[g]? = some (.cells cur 61 (0, 0))
theorem OwnC.rowK {w : World} {base : Nat} {v : Value} {cs : List C3} (h : OwnC w base v cs) : RowK w v cs := by
  refine ⟨h.row, fun g o n c e => ?_⟩
  rcases h.2 with ⟨rfl, _⟩ | ⟨g', cap, cur, rfl, _, hg, _⟩
  · cases e
  · simp only [Value.slice.injEq, Option.some.injEq, Addr.mk.injEq] at e
    obtain ⟨⟨rfl, _⟩, _⟩ := e
    exact ⟨cur, hg⟩
theorem RowK.same {w w' : World} {v : Value} {cs : List C3} (h : RowK w v cs) (hb : ∀ g o n c, v = .slice (some ⟨g, o, none⟩) n c → w'.heap[g]? = w.heap[g]?) : RowK w' v cs := by
  obtain ⟨h1, h2⟩ := h
  refine ⟨?_, fun g o n c e => by rw [hb g o n c e]; exact h2 g o n c e⟩
  rcases h1 with h1 | ⟨g, o, cap, e, k1, k2⟩
  · exact .inl h1
  · have hk := hb g o _ _ e
    refine .inr ⟨g, o, cap, e, k1, fun i hi => ?_⟩
    have c1 : w'.cell? ⟨g, o + i * 2, none⟩ = w.cell? ⟨g, o + i * 2, none⟩ := World.cell?_of_block (w := w) hk
    have c2 : w'.cell? ⟨g, o + i * 2 + 1, none⟩ = w.cell? ⟨g, o + i * 2 + 1, none⟩ := World.cell?_of_block (w := w) hk
    rw [c1, c2]
    exact k2 i hi
theorem RowK.far {w w' : World} {v : Value} {cs : List C3} {row : Option Nat} (h : RowK w v cs) (hg : w.grownBy w' row) (hr : ∀ r, row = some r → ∃ cur t fz, w.heap[r]? = some (.cells cur t fz) ∧ t ≠ 61) : RowK w' v cs := by
  refine h.same fun g o n c e => ?_
  obtain ⟨cur, hk⟩ := h.2 g o n c e
  refine hg.block g (Array.getElem?_eq_some_iff.1 hk).1 (fun e2 => ?_)
  obtain ⟨cur2, t, fz2, hk2, ht⟩ := hr g e2.symm
  rw [hk] at hk2
  simp only [Option.some.injEq, Obj.cells.injEq] at hk2
  exact ht hk2.2.1.symm
theorem RowK.own {X Y : World} {v : Value} {cs : List C3} {row : Option Nat} (h : RowK X v cs) (hg : X.grownBy Y row) (hr : ∀ r, row = some r → ∃ o : Obj, X.heap[r]? = some o ∧ o.isCells = false) : RowK Y v cs := by
  refine h.same fun g o n c e => ?_
  obtain ⟨cur, hk⟩ := h.2 g o n c e
  refine hg.block g (Array.getElem?_eq_some_iff.1 hk).1 (fun e2 => ?_)
  obtain ⟨ob, h1, h2⟩ := hr g e2.symm
  rw [hk] at h1
  cases h1
  cases h2
def ClonePost (cs : List C3) (w : World) (e : Ending) (w' : World) : Prop := ∃ v', e = .returned v' ∧ RowK w' v' cs ∧ Below w.heap.size w w'
theorem ClonePost.mk {cs : List C3} {w w' : World} {v' : Value} (h : RowK w' v' cs) (hb : Below w.heap.size w w') : ClonePost cs w (.returned v') w' := ⟨v', rfl, h, hb⟩
set_option maxHeartbeats 1000000 in
theorem clone_any (v : Value) (cs : List C3) (w : World) (h : RowV w v cs) (hne : cs ≠ []) (hl : cs.length ≤ 1000000) :
    Calls Tryz.prog 90 #[v] w fun e w' => ClonePost cs w e w' := by
  have hb := (Below.refl w.heap.size w).alloc (Nat.le_refl _) (.cells #[] 61)
  have hrow := h.below hb
  have HO := Lib.hid (OwnC.made0 w)
  have hsz : (w.alloc (.cells #[] 61)).heap.size = w.heap.size + 1 := by simp
  have hpos : 0 < cs.length := List.length_pos_iff.2 hne
  obtain ⟨g, o, cap, rfl, _, _⟩ := h.len hne
  have HR := Lib.hid hrow
  have heq := fun W => eql_nil_row g o cs.length cap W
  clear h hne hrow
  go_enter Tryz.func90, Tryz.ntmps90
  go_wp2_with (at_builtin; refine own_append rfl (.tmp 5) (.tmp 6) rfl w.heap.size _ [] cs rfl HO.out _ _ _ rfl HR.out hpos (by simp; omega) (by omega) ?_; intro g2 cap2 w2 ho2 hg2 hor2 hlt2)
  simp only [List.nil_append, List.length_nil, Nat.zero_add] at ho2
  go_ret
  simp only [List.length_nil, Nat.zero_add]
  exact ClonePost.mk ho2.rowK (hb.grown hg2 hb.size (fun r hr => (HO.out.lt r hr).1))

/-- A row that lies in w0, not empty. -/
abbrev RowIn (w0 : World) := { x : Value × List C3 // RowV w0 x.1 x.2 ∧ x.2 ≠ [] ∧ x.2.length ≤ 1000000 }
def evens {α : Type} : List α → List α
  | [] => []
  | [a] => [a]
  | a :: _ :: l => a :: evens l
theorem evens_drop {α : Type} (l : List α) (i : Nat) (h : i < l.length) : evens (l.drop i) = l[i] :: evens (l.drop (i + 2)) := by
  rw [List.drop_eq_getElem_cons h]
  by_cases h1 : i + 1 < l.length
  · rw [List.drop_eq_getElem_cons h1]; rfl
  · rw [List.drop_of_length_le (show l.length ≤ i + 1 by omega), List.drop_of_length_le (show l.length ≤ i + 2 by omega)]; rfl
theorem evens_end {α : Type} (l : List α) (i : Nat) (h : l.length ≤ i) : evens (l.drop i) = [] := by rw [List.drop_of_length_le h]; rfl

set_option maxRecDepth 100000 in
set_option maxHeartbeats 2000000 in
theorem second1_in (n : Nat) (hn : 1 ≤ n) (w0 : World) (l Bk Bl k g o cap : Nat) (L : List (RowIn w0)) (hlen : L.length ≤ 1000000) (hk : k ≤ 1) (J Jx : List (RowIn w0) → World → Prop)
    (hcell : ∀ i (h : i < L.length), w0.cell? ⟨g, o + i, none⟩ = some L[i].1.1)
    (hY : ∀ pre x W, J pre W → pre.length < (evens (L.drop k)).length → YieldAt Fence.wide (n - 1) Tryz.prog l #[x.1.1] W fun e W' =>
      (e = .returned (.bool true) ∧ J (pre ++ [x]) W' ∧ Below w0.heap.size W W') ∨ (e = .returned (.bool false) ∧ Jx (pre ++ [x]) W'))
    (W : World) (hW : Below w0.heap.size w0 W) (hBk : w0.cell? ⟨Bk, 0, none⟩ = some (.int .i64 (k : Int))) (hBl : w0.cell? ⟨Bl, 0, none⟩ = some (.slice (some ⟨g, o, none⟩) L.length cap)) (h0 : J [] W) :
    CallsIn Fence.wide n Tryz.prog 91 #[.func (.yield l) #[] #[], .pointer (some ⟨Bk, 0, none⟩), .pointer (some ⟨Bl, 0, none⟩)] W fun e W' => (∃ v, e = .returned v) ∧
      ((∃ ys, ys = evens (L.drop k) ∧ J ys W') ∨ (∃ pre, pre <+: evens (L.drop k) ∧ Jx pre W')) := by
  refine callsIn_of_wp Tryz.func91 rfl trivial ?_ rfl
  simp only [Tryz.ntmps91, List.size_toArray, List.length_cons, List.length_nil, Nat.reduceAdd, Nat.reduceSub, Array.replicate_succ, Array.replicate_zero, List.push_toArray, List.append_toArray, List.nil_append, List.cons_append]
  have hbk := (grown_of hW).cell hBk (by simp)
  gi_wp2
  gi_loopw [4] (fun i wr => ∃ (m : Nat) (pre : List (RowIn w0)), i = .int .i64 (m : Int) ∧ m ≤ L.length + 1 ∧ pre ++ evens (L.drop m) = evens (L.drop k) ∧ J pre wr ∧ Below w0.heap.size w0 wr) (fun i _ => L.length + 1 - (intOf i).toNat)
  case atStart => exact ⟨k, [], rfl, by omega, rfl, h0, hW⟩
  case round =>
    obtain ⟨m, pre, rfl, hm, hpre, hJs, hb⟩ := hrel
    have hbl := (grown_of hb).cell hBl (by simp)
    by_cases hlt : m < L.length
    · have hc := (grown_of hb).cell (hcell m hlt) (by simp)
      rw [evens_drop L m hlt] at hpre
      obtain ⟨fn, tmps, assign, body, hy, hR⟩ := hY pre L[m] wr hJs (by rw [← hpre]; simp)
      have HP := Lib.hid hpre
      clear hpre
      generalize L[m] = x at *
      gi_wp2
      refine hR.mono ?_
      rintro e W3 (⟨rfl, hJ3, hk3⟩ | ⟨rfl, hJx3⟩)
      · gi_wp2
        go_roundw
        case rel => exact ⟨m + 2, _, by go_num, by omega, by rw [List.append_assoc]; exact HP.out, hJ3, hb.trans hk3⟩
        case measure => simp [intOf]; omega
      · gi_wp2
        refine bodyPost_ret (results_none rfl _ _ _) rfl ?_
        exact ⟨⟨_, rfl⟩, .inr ⟨_, ⟨_, by rw [List.append_assoc]; exact HP.out⟩, hJx3⟩⟩
    · rw [evens_end L m (by omega), List.append_nil] at hpre
      have HP := Lib.hid hpre
      clear hpre
      gi_wp2
      go_end0
      exact ⟨⟨_, rfl⟩, .inl ⟨pre, HP.out, hJs⟩⟩

theorem box1 (w : World) (t : TypeId) (x : Value) (o : Obj) : ((w.alloc (.cells #[x] t)).alloc o).cell? ⟨w.heap.size, 0, none⟩ = some x := (cell_of_row _ _ 0 _ _ _ ((Below.heap_alloc _ _ _ (by simp)).trans (heap_alloc_new w _))).trans rfl
theorem box2 (w : World) (o : Obj) (t : TypeId) (x : Value) : ((w.alloc o).alloc (.cells #[x] t)).cell? ⟨w.heap.size + 1, 0, none⟩ = some x := by
  have := heap_alloc_new (w.alloc o) (.cells #[x] t)
  rw [World.size_alloc] at this
  exact (cell_of_row _ _ 0 _ _ _ this).trans rfl

/-- What the iterators are told of the rows: they hand out xs. -/
abbrev Hands (n : Nat) (w0 : World) (gf : Nat) (lb : Array Value) (xs : List (RowIn w0)) (w : World) : Prop :=
  SeqStopsK Fence.wide n Tryz.prog gf lb (fun x : RowIn w0 => #[x.1.1]) (Below w0.heap.size) (fun ys => ys = xs) (fun pre => pre <+: xs) xs.length w
set_option maxHeartbeats 1000000 in
theorem everySecond_any (a : Option Addr) (m c : Nat) (k : Nat) (w : World) (hk : k ≤ 1) :
    Calls Tryz.prog 60 #[.slice a m c, .int .i64 (k : Int)] w fun e w' => e = .returned (.func (.func 91) #[] #[.pointer (some ⟨w.heap.size + 1, 0, none⟩), .pointer (some ⟨w.heap.size, 0, none⟩)]) ∧ w' = (w.alloc (.cells #[.slice a m c] 24)).alloc (.cells #[.int .i64 (k : Int)] 3) := by
  go_enter Tryz.func60, Tryz.ntmps60
  go_wp2
  go_ret
  exact ⟨rfl, rfl⟩
theorem second_hands (n : Nat) (hn : 1 ≤ n) (w0 : World) (Bk Bl k g o cap : Nat) (L : List (RowIn w0)) (hlen : L.length ≤ 1000000) (hk : k ≤ 1)
    (hcell : ∀ i (h : i < L.length), w0.cell? ⟨g, o + i, none⟩ = some L[i].1.1) (hBk : w0.cell? ⟨Bk, 0, none⟩ = some (.int .i64 (k : Int))) (hBl : w0.cell? ⟨Bl, 0, none⟩ = some (.slice (some ⟨g, o, none⟩) L.length cap)) :
    Hands n w0 91 #[.pointer (some ⟨Bk, 0, none⟩), .pointer (some ⟨Bl, 0, none⟩)] (evens (L.drop k)) w0 :=
  fun l J Jx W hW _ _ hY h0 => second1_in n hn w0 l Bk Bl k g o cap L hlen hk J Jx hcell hY W hW hBk hBl h0

theorem info_row : (Tryz.prog.info? 40).map (fun i => (i.zero, i.size, i.bytes)) = some (some (.slice none 0 0), 1, 24) := by kernel_rfl
theorem stepIn_append {F : Fence} {n : Nat} {P : Program} {ops : Array Oper} {o : Oper} {a : Act} {w w' : World} {v y v' : Value} {K : Act → World → Prop} {Q : Exit → Act → World → Prop} {E : Prop}
    (hgd : o.guard = none) (s x : Operand) (t : TypeId) (hop : o.op = Op.call { callee := Callee.builtin Builtin.append, args := #[s, x], argTypes := #[t, t] }) (hs : a.eval s = v) (hx : a.eval x = y)
    (hrun : (Builtin.append_ #[t, t] o.type #[v, y]).run P w = .ok v' w') (hK : K (a.put o.dst v') w') :
    if Region.wanted o (yielded ops a.tmps) = true then Oper.wpIn F n P o a w K Q else E := by
  have hw : Region.wanted o (yielded ops a.tmps) = true := by simp [Region.wanted, hgd]
  rw [if_pos hw]
  unfold Oper.wpIn
  refine ⟨?_, ?_⟩
  · simp [Oper.about, hop, resolve, Target.leads, Sem.run_pure]
  · rw [Oper.semAt_plain F _ _ (by rw [hop]; intro c hc'; cases hc')]
    simp [execOp, hop, resolve, invoke, builtin, hs, hx, hrun, Result.andThen]
    exact hK
/-- What has been copied when pre has come. -/
def Copied (w0 : World) (pre : List (RowIn w0)) (W : World) : Prop :=
  ∃ v vals, Boxed W w0.heap.size 24 v ∧ W.ownsRow w0.heap.size 40 1 v pre.length vals ∧ ∀ i (h : i < pre.length), ∃ rv, vals[i]? = some rv ∧ RowK W rv pre[i].1.2
theorem copied_pic {w0 X Y : World} {pre : List (RowIn w0)} {v : Value} {vals : List Value} {row : Option Nat} (_h : Copied w0 pre X) (_hb : Boxed X w0.heap.size 24 v) (ho : X.ownsRow w0.heap.size 40 1 v pre.length vals)
    (hv : ∀ i (h : i < pre.length), ∃ rv, vals[i]? = some rv ∧ RowK X rv pre[i].1.2) (hg : X.grownBy Y row) (hr : ∀ r, row = some r → ∃ o : Obj, X.heap[r]? = some o ∧ o.isCells = false) : PicV Y v (pre.map fun x => x.1.2) := by
  have h' := ho
  rcases ho.2 with ⟨rfl, h0⟩ | ⟨g, cap, cur, rfl, _, hgg, hn, _⟩
  · have : pre = [] := List.eq_nil_of_length_eq_zero h0
    subst this
    exact PicV.nil _
  · refine .inr ⟨g, 0, cap, by simp, by simpa using hn, fun i hi => ?_⟩
    have hi' : i < pre.length := by simpa using hi
    obtain ⟨rv, e1, e2⟩ := hv i hi'
    have hadd : (⟨g, 0, none⟩ : Addr).add i = ⟨g, 0 + i, none⟩ := by unfold Addr.add; split <;> simp_all
    have hc := World.ownsRow.cells h' (g := g) rfl i rv e1
    rw [hadd] at hc
    refine ⟨rv, cell_kept hc hg hr, ?_⟩
    rw [List.getElem_map]
    exact (e2.own hg hr).1
theorem copied_own (w0 : World) : Own (Copied w0) := by
  rintro pre X Y row ⟨v, vals, hb, ho, hv⟩ hg hr
  have h1 := holdsRow_own (β := Unit) w0.heap.size w0.heap.size 24 40 1 (fun _ => pre.length) (fun _ => vals) (fun _ u => u = v) () X Y row ⟨v, hb, ho, rfl⟩ hg hr
  obtain ⟨v', k1, k2, rfl⟩ := h1
  exact ⟨v', vals, k1, k2, fun i hi => by obtain ⟨rv, e1, e2⟩ := hv i hi; exact ⟨rv, e1, e2.own hg hr⟩⟩
theorem copied_next {w0 W W1 w2 : World} {pre : List (RowIn w0)} {x : RowIn w0} {v v1 v2 : Value} {vals : List Value} (o : Obj)
    (hvals : ∀ i (h : i < pre.length), ∃ rv, vals[i]? = some rv ∧ RowK W rv pre[i].1.2) (hr1 : RowK W1 v1 x.1.2) (hbw : Below W.heap.size W W1) (hv1 : Boxed W1 w0.heap.size 24 v) (hrow1 : W1.ownsRow w0.heap.size 40 1 v pre.length vals)
    (hgrow : (W1.alloc o).grownBy w2 v.ownBlock) (q1 : Boxed w2 w0.heap.size 24 v)
    (q2 : Boxed (w2.setCell ⟨w0.heap.size, 0, none⟩ v2) w0.heap.size 24 v2) (q3 : (w2.setCell ⟨w0.heap.size, 0, none⟩ v2).ownsRow w0.heap.size 40 1 v2 (pre.length + 1) (vals ++ [v1])) :
    Copied w0 (pre ++ [x]) (w2.setCell ⟨w0.heap.size, 0, none⟩ v2) := by
  have hfar : ∀ {rv : Value} {cs : List C3}, RowK W1 rv cs → RowK (w2.setCell ⟨w0.heap.size, 0, none⟩ v2) rv cs := by
    intro rv cs h
    have h1 := h.far (World.grownBy_alloc W1 o none) (fun r e => by cases e)
    have h2 := h1.far hgrow (fun r e => by
      rcases (hrow1.alloc o).2 with ⟨rfl, _⟩ | ⟨g, cap, cur, rfl, _, hg, _⟩
      · cases e
      · have e' : g = r := Option.some.inj e
        subst e'
        exact ⟨cur, _, _, hg, by decide⟩)
    exact h2.far (grownBy_setCell' w2 w0.heap.size v2) (fun r e => by
      have e' : w0.heap.size = r := Option.some.inj e
      subst e'
      exact ⟨_, _, _, q1, by decide⟩)
  have hvl : vals.length = pre.length := by have := hrow1.1; omega
  refine ⟨v2, vals ++ [v1], q2, by rw [List.length_append]; exact q3, fun i hi => ?_⟩
  by_cases h : i < pre.length
  · obtain ⟨rv, e1, e2⟩ := hvals i h
    refine ⟨rv, by rw [List.getElem?_append_left (by omega)]; exact e1, ?_⟩
    rw [List.getElem_append_left h]
    exact hfar (e2.far (grown_of hbw) (fun r e => by cases e))
  · have hi2 : i = pre.length := by simp at hi; omega
    subst hi2
    refine ⟨v1, by rw [List.getElem?_append_right (by omega), hvl]; simp, ?_⟩
    rw [List.getElem_append_right (Nat.le_refl _)]
    simpa using hfar hr1
set_option maxRecDepth 100000 in
set_option maxHeartbeats 4000000 in
theorem copies_any (w0 : World) (gf : Nat) (lb : Array Value) (xs : List (RowIn w0)) (hlen : xs.length ≤ 1000) (eg : ∀ args w, (callFunc gf args).run Tryz.prog w = .ok (.enter gf args) w) (hs : Hands 2 w0 gf lb xs w0) :
    CallsIn Fence.wide 3 Tryz.prog 59 #[.func (.func gf) #[] lb] w0 fun e w' => ∃ v, e = .returned v ∧ PicV w' v (xs.map fun x => x.1.2) ∧ Below w0.heap.size w0 w' := by
  obtain ⟨i0, hi, hz0, hz1, hz2⟩ := info_parts info_row
  refine callsIn_of_wp_marks Tryz.func59 rfl trivial ?_ rfl
  simp only [Tryz.ntmps59, List.size_toArray, List.length_cons, List.length_nil, Nat.reduceAdd, Nat.reduceSub, Array.replicate_succ, Array.replicate_zero, List.push_toArray, List.append_toArray, List.nil_append, List.cons_append]
  gi_wp2
  have bO := Boxed.new w0 24 (.slice none 0 0)
  have hB0 : Below w0.heap.size w0 (w0.alloc (.cells #[.slice none 0 0] 24)) := (Below.refl _ w0).alloc (Nat.le_refl _) _
  refine wpIn_rangeFunc_ownG rfl (by omega) (gf := gf) (lb := lb) rfl trivial eg hs belowK_t (belowK_b (by simp)) hB0 (fun _ => rfl)
    (fun pre W => Copied w0 pre W ∧ Below w0.heap.size w0 W)
    (fun _ _ _ => False)
    (OwnFrom.and (Own.from (copied_own w0) _) (ownFrom_below (Nat.le_refl _) (by simp)))
    (fun _ _ _ _ _ hs _ _ => hs)
    ⟨⟨_, [], bO, World.ownsRow_nil _ _ _ _, fun i h => by simp at h⟩, hB0⟩
    (fun x => { tmps := #[.func (.func gf) #[] lb, undef, .slice none 0 0, .pointer (some ⟨w0.heap.size, 0, none⟩), x.1.1, .func (.func gf) #[] lb, x.1.1, undef, undef, undef, undef, undef, undef], defers := [] }) ?assign ?body ?done ?stop
  case assign =>
    intro l x W K hK
    gi_wp2
    exact hK
  case body =>
    rintro l pre x W ⟨⟨v, vals, hv, hrow, hvals⟩, hB⟩ hlt
    have hc := hv.cell
    have hmx : Tryz.prog.follows .mixedOrders = true := by kernel_rfl
    have HCL := Lib.hid ((callsIn_wide (n := 3 - 1 - 1 - 1)).2 (clone_any x.1.1 x.1.2 W.drew (x.2.1.below hB.drew) x.2.2.1 x.2.2.2))
    have hB' := hB
    clear hB'
    gi_wp2
    refine wpIn_region_any hmx ?_
    try (change wpAnyIn _ _ _ _ _ _ _ _ _ (World.drew _))
    refine wpAnyIn_ready (rs := [0, 1]) (by kernel_rfl) (by simp) (AllReadyIn.cons rfl (fun K hK => ?_) (AllReadyIn.cons rfl (fun K hK => ?_) AllReadyIn.nil))
    · (go_simp; refine hK _ _ ?_; clear hK K)
      refine wpAnyIn_ready (rs := [1]) (by kernel_rfl) (by simp) (AllReadyIn.cons rfl (fun K hK => ?_) AllReadyIn.nil)
      (go_simp; refine hK _ _ ?_; clear hK K)
      refine wpAnyIn_ready (rs := [2]) (by kernel_rfl) (by simp) (AllReadyIn.cons rfl (fun K hK => ?_) AllReadyIn.nil)
      (go_simp; refine ⟨trivial, ?_⟩; gi_at_call 90; refine (CallsIn.inRound l HCL.out).mono ?_; rintro e W1 ⟨v1, rfl, hr1, hb1⟩; obtain ⟨a1, c1, rfl⟩ := hr1.1.lenv; have hbw : Below W.heap.size W W1 := ((Below.refl _ _).drew).trans hb1; have hv1 := hv.kept (grown_of hbw) (by simp); have hrow1 := hrow.kept (grown_of hbw) (by cases v.ownBlock <;> simp); have e0 := hv1.cell; have e1 := (hv1.alloc (.cells #[.slice a1 x.1.2.length c1] 40)).cell; obtain ⟨v2, w2, hrun, hown2, hgrow2, _⟩ := run_append_own (P := Tryz.prog) (W1.alloc (.cells #[.slice a1 x.1.2.length c1] 40)) w0.heap.size 24 24 40 i0 _ 1 24 Tryz.underlying24 hi hz0 hz1 hz2 rfl (by decide) v pre.length vals (hrow1.alloc _) ⟨W1.heap.size, 0, none⟩ 1 1 [.slice a1 x.1.2.length c1] rfl (cell_one_new _ _ _) (by simp [Value.oneCell']) (by unfold maxLen; omega) (by omega) (by have := hbw.size; have := hB.size; simp; omega); obtain ⟨g2, cap2, rfl⟩ := ownsRow_succ hown2; obtain ⟨q1, q2, q3, q4, q5⟩ := hv1.appended (by decide) hrow1 (by have := hbw.size; have := hB.size; omega) (Nat.le_refl _) hown2 hgrow2; have hc1 := q1.cell; have hf1 := q1.frozen; go_simp; refine hK _ _ ?_; clear hK K)
      refine wpAnyIn_ready (rs := [3]) (by kernel_rfl) (by simp) (AllReadyIn.cons rfl (fun K hK => ?_) AllReadyIn.nil)
      (go_simp; refine hK _ _ ?_; clear hK K)
      refine wpAnyIn_ready (rs := [4]) (by kernel_rfl) (by simp) (AllReadyIn.cons rfl (fun K hK => ?_) AllReadyIn.nil)
      (refine stepIn_append rfl (.tmp 7) (.tmp 10) 24 rfl rfl rfl hrun ?_; refine hK _ _ ?_; clear hK K)
      refine wpAnyIn_ready (rs := [5]) (by kernel_rfl) (by simp) (AllReadyIn.cons rfl (fun K hK => ?_) AllReadyIn.nil)
      (go_simp; refine hK _ _ ?_; clear hK K)
      refine wpAnyIn_done (by kernel_rfl) ?_ _
      (exact ⟨(KeepsFrom.of_grownBy (grown_of hbw) (fun j e => by cases e)).trans (q4.from _), (hbw.mono (by have := hB.size; omega)).trans q5, copied_next _ hvals hr1 hbw hv1 hrow1 hgrow2 q1 q2 q3, hB.trans ((hbw.mono (by have := hB.size; omega)).trans q5)⟩)
    · (go_simp; refine hK _ _ ?_; clear hK K)
      refine wpAnyIn_ready (rs := [0, 2]) (by kernel_rfl) (by simp) (AllReadyIn.cons rfl (fun K hK => ?_) (AllReadyIn.cons rfl (fun K hK => ?_) AllReadyIn.nil))
      · (go_simp; refine hK _ _ ?_; clear hK K)
        refine wpAnyIn_ready (rs := [2]) (by kernel_rfl) (by simp) (AllReadyIn.cons rfl (fun K hK => ?_) AllReadyIn.nil)
        (go_simp; refine ⟨trivial, ?_⟩; gi_at_call 90; refine (CallsIn.inRound l HCL.out).mono ?_; rintro e W1 ⟨v1, rfl, hr1, hb1⟩; obtain ⟨a1, c1, rfl⟩ := hr1.1.lenv; have hbw : Below W.heap.size W W1 := ((Below.refl _ _).drew).trans hb1; have hv1 := hv.kept (grown_of hbw) (by simp); have hrow1 := hrow.kept (grown_of hbw) (by cases v.ownBlock <;> simp); have e0 := hv1.cell; have e1 := (hv1.alloc (.cells #[.slice a1 x.1.2.length c1] 40)).cell; obtain ⟨v2, w2, hrun, hown2, hgrow2, _⟩ := run_append_own (P := Tryz.prog) (W1.alloc (.cells #[.slice a1 x.1.2.length c1] 40)) w0.heap.size 24 24 40 i0 _ 1 24 Tryz.underlying24 hi hz0 hz1 hz2 rfl (by decide) v pre.length vals (hrow1.alloc _) ⟨W1.heap.size, 0, none⟩ 1 1 [.slice a1 x.1.2.length c1] rfl (cell_one_new _ _ _) (by simp [Value.oneCell']) (by unfold maxLen; omega) (by omega) (by have := hbw.size; have := hB.size; simp; omega); obtain ⟨g2, cap2, rfl⟩ := ownsRow_succ hown2; obtain ⟨q1, q2, q3, q4, q5⟩ := hv1.appended (by decide) hrow1 (by have := hbw.size; have := hB.size; omega) (Nat.le_refl _) hown2 hgrow2; have hc1 := q1.cell; have hf1 := q1.frozen; go_simp; refine hK _ _ ?_; clear hK K)
        refine wpAnyIn_ready (rs := [3]) (by kernel_rfl) (by simp) (AllReadyIn.cons rfl (fun K hK => ?_) AllReadyIn.nil)
        (go_simp; refine hK _ _ ?_; clear hK K)
        refine wpAnyIn_ready (rs := [4]) (by kernel_rfl) (by simp) (AllReadyIn.cons rfl (fun K hK => ?_) AllReadyIn.nil)
        (refine stepIn_append rfl (.tmp 7) (.tmp 10) 24 rfl rfl rfl hrun ?_; refine hK _ _ ?_; clear hK K)
        refine wpAnyIn_ready (rs := [5]) (by kernel_rfl) (by simp) (AllReadyIn.cons rfl (fun K hK => ?_) AllReadyIn.nil)
        (go_simp; refine hK _ _ ?_; clear hK K)
        refine wpAnyIn_done (by kernel_rfl) ?_ _
        (exact ⟨(KeepsFrom.of_grownBy (grown_of hbw) (fun j e => by cases e)).trans (q4.from _), (hbw.mono (by have := hB.size; omega)).trans q5, copied_next _ hvals hr1 hbw hv1 hrow1 hgrow2 q1 q2 q3, hB.trans ((hbw.mono (by have := hB.size; omega)).trans q5)⟩)
      · (go_simp; refine ⟨trivial, ?_⟩; gi_at_call 90; refine (CallsIn.inRound l HCL.out).mono ?_; rintro e W1 ⟨v1, rfl, hr1, hb1⟩; obtain ⟨a1, c1, rfl⟩ := hr1.1.lenv; have hbw : Below W.heap.size W W1 := ((Below.refl _ _).drew).trans hb1; have hv1 := hv.kept (grown_of hbw) (by simp); have hrow1 := hrow.kept (grown_of hbw) (by cases v.ownBlock <;> simp); have e0 := hv1.cell; have e1 := (hv1.alloc (.cells #[.slice a1 x.1.2.length c1] 40)).cell; obtain ⟨v2, w2, hrun, hown2, hgrow2, _⟩ := run_append_own (P := Tryz.prog) (W1.alloc (.cells #[.slice a1 x.1.2.length c1] 40)) w0.heap.size 24 24 40 i0 _ 1 24 Tryz.underlying24 hi hz0 hz1 hz2 rfl (by decide) v pre.length vals (hrow1.alloc _) ⟨W1.heap.size, 0, none⟩ 1 1 [.slice a1 x.1.2.length c1] rfl (cell_one_new _ _ _) (by simp [Value.oneCell']) (by unfold maxLen; omega) (by omega) (by have := hbw.size; have := hB.size; simp; omega); obtain ⟨g2, cap2, rfl⟩ := ownsRow_succ hown2; obtain ⟨q1, q2, q3, q4, q5⟩ := hv1.appended (by decide) hrow1 (by have := hbw.size; have := hB.size; omega) (Nat.le_refl _) hown2 hgrow2; have hc1 := q1.cell; have hf1 := q1.frozen; go_simp; refine hK _ _ ?_; clear hK K)
        refine wpAnyIn_ready (rs := [0, 3]) (by kernel_rfl) (by simp) (AllReadyIn.cons rfl (fun K hK => ?_) (AllReadyIn.cons rfl (fun K hK => ?_) AllReadyIn.nil))
        · (go_simp; refine hK _ _ ?_; clear hK K)
          refine wpAnyIn_ready (rs := [3]) (by kernel_rfl) (by simp) (AllReadyIn.cons rfl (fun K hK => ?_) AllReadyIn.nil)
          (go_simp; refine hK _ _ ?_; clear hK K)
          refine wpAnyIn_ready (rs := [4]) (by kernel_rfl) (by simp) (AllReadyIn.cons rfl (fun K hK => ?_) AllReadyIn.nil)
          (refine stepIn_append rfl (.tmp 7) (.tmp 10) 24 rfl rfl rfl hrun ?_; refine hK _ _ ?_; clear hK K)
          refine wpAnyIn_ready (rs := [5]) (by kernel_rfl) (by simp) (AllReadyIn.cons rfl (fun K hK => ?_) AllReadyIn.nil)
          (go_simp; refine hK _ _ ?_; clear hK K)
          refine wpAnyIn_done (by kernel_rfl) ?_ _
          (exact ⟨(KeepsFrom.of_grownBy (grown_of hbw) (fun j e => by cases e)).trans (q4.from _), (hbw.mono (by have := hB.size; omega)).trans q5, copied_next _ hvals hr1 hbw hv1 hrow1 hgrow2 q1 q2 q3, hB.trans ((hbw.mono (by have := hB.size; omega)).trans q5)⟩)
        · (go_simp; refine hK _ _ ?_; clear hK K)
          refine wpAnyIn_ready (rs := [0]) (by kernel_rfl) (by simp) (AllReadyIn.cons rfl (fun K hK => ?_) AllReadyIn.nil)
          (go_simp; refine hK _ _ ?_; clear hK K)
          refine wpAnyIn_ready (rs := [4]) (by kernel_rfl) (by simp) (AllReadyIn.cons rfl (fun K hK => ?_) AllReadyIn.nil)
          (refine stepIn_append rfl (.tmp 7) (.tmp 10) 24 rfl rfl rfl hrun ?_; refine hK _ _ ?_; clear hK K)
          refine wpAnyIn_ready (rs := [5]) (by kernel_rfl) (by simp) (AllReadyIn.cons rfl (fun K hK => ?_) AllReadyIn.nil)
          (go_simp; refine hK _ _ ?_; clear hK K)
          refine wpAnyIn_done (by kernel_rfl) ?_ _
          (exact ⟨(KeepsFrom.of_grownBy (grown_of hbw) (fun j e => by cases e)).trans (q4.from _), (hbw.mono (by have := hB.size; omega)).trans q5, copied_next _ hvals hr1 hbw hv1 hrow1 hgrow2 q1 q2 q3, hB.trans ((hbw.mono (by have := hB.size; omega)).trans q5)⟩)
  case done =>
    rintro D ys W hD rfl ⟨⟨v, vals, hv, hrow, hvals⟩, hB⟩ hK
    have hc := hv.cell
    gi_wp2
    refine ⟨by simp, .inl ⟨_, _, rfl, run_takeDeferred hK, ?_⟩⟩
    refine ⟨_, results_tmp rfl _ _ _, v, rfl, ?_, hB.trans (belowK_b (w := w0) (Nat.le_refl _) W D _ _ (by simp at hD; omega) hK rfl rfl)⟩
    exact copied_pic ⟨v, vals, hv, hrow, hvals⟩ hv hrow hvals (grownBy_putObj' W D _) (fun r e => by cases e; exact ⟨_, hK, rfl⟩)
  case stop =>
    rintro D c pre W _ _ h _
    exact h.elim
end Go.Proofs.YtobpnoiienpipaaGreat
