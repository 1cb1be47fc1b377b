/-
  What is proved: the copies of a picture's rows, as a list of rows in new memory.
  Conditions: the rows can be read and are not empty.
-/
import Derived.Test.YtobpnoiienpipaaGreatRec2
import Derived.Test.YtobpnoiienpipaaGreatPz37
import Derived.Maps.AppendAt
import Derived.Test.YtobpnoiienpipaaGreatPz38
namespace Go.Proofs.YtobpnoiienpipaaGreat
set_option linter.unusedVariables false
open Go.RowKit Go.Shelf
attribute [local go_sem] run_store_float run_store_complex unary_negf neg256 Oper.semAt_some

def CloneN (cs : List C3) (w : World) (e : Ending) (w' : World) : Prop := ∃ v', e = .returned v' ∧ RNew w' w.heap.size v' cs ∧ Below w.heap.size w w'
theorem CloneN.mk {cs : List C3} {w w' : World} {v' : Value} (h : RNew w' w.heap.size v' cs) (hb : Below w.heap.size w w') : CloneN cs w (.returned v') w' := ⟨v', rfl, h, hb⟩
set_option maxHeartbeats 1000000 in
theorem cloneN_any (v : Value) (cs : List C3) (w : World) (h : RowV w v cs) (hne : cs ≠ []) (hl : cs.length ≤ 1000000) :
    Calls Tryz.prog 90 #[v] w fun e w' => CloneN cs w e w' := by
  have hb := (Below.refl w.heap.size w).alloc (Nat.le_refl _) (.cells #[] 61)
  have hrow := h.below hb
  have HO := Lib.hid (OwnC.made0 w)
  have hsz : (w.alloc (.cells #[] 61)).heap.size = w.heap.size + 1 := by simp
  have hpos : 0 < cs.length := List.length_pos_iff.2 hne
  obtain ⟨g, o, cap, rfl, _, _⟩ := h.len hne
  have HR := Lib.hid hrow
  have heq := fun W => eql_nil_row g o cs.length cap W
  clear h hne hrow
  go_enter Tryz.func90, Tryz.ntmps90
  go_wp2_with (at_builtin; refine own_append rfl (.tmp 5) (.tmp 6) rfl w.heap.size _ [] cs rfl HO.out _ _ _ rfl HR.out hpos (by simp; omega) (by omega) ?_; intro g2 cap2 w2 ho2 hg2 hor2 hlt2)
  simp only [List.nil_append, List.length_nil, Nat.zero_add] at ho2
  go_ret
  simp only [List.length_nil, Nat.zero_add]
  exact CloneN.mk ho2.rnew (hb.grown hg2 hb.size (fun r hr => (HO.out.lt r hr).1))
/-- A list of rows shares no memory with a variable that holds a list of rows. -/
theorem GridN.notBox {W : World} {base B : Nat} {v u : Value} {rows : List (List C3)} {ss : List SV} (h : GridN W base v rows ss) (hb : Boxed W B 24 u) : ∀ k, GBlk v ss k → k ≠ B := by
  rintro k (hk | ⟨i, hi, hk⟩) rfl
  · rcases h.own.2 with ⟨rfl, _⟩ | ⟨g, cap, cur, rfl, _, hgb, _⟩
    · cases hk
    · cases hk
      have e := hb.symm.trans hgb
      cases e
  · rcases h.row i hi (by rw [← h.len]; exact hi) with ⟨e, _⟩ | ⟨g, cap, cur, e, _, _, hgb, _⟩
    · rw [e] at hk; cases hk
    · rw [e] at hk
      cases hk
      have e := hb.symm.trans hgb
      cases e
/-- What has been copied when pre has come. -/
def CopiedN (w0 : World) (pre : List (RowIn w0)) (W : World) : Prop :=
  ∃ v ss, Boxed W w0.heap.size 24 v ∧ GridN W w0.heap.size v (pre.map fun x => x.1.2) ss
theorem copiedN_own (w0 : World) : Own (CopiedN w0) := by
  rintro pre X Y row ⟨v, ss, hb, ho⟩ hg hr
  have h1 := holdsRow_own (β := Unit) w0.heap.size w0.heap.size 24 40 1 (fun _ => ss.length) (fun _ => LSc.cells ss) (fun _ u => u = v) () X Y row ⟨v, hb, ho.own, rfl⟩ hg hr
  obtain ⟨v', k1, k2, rfl⟩ := h1
  exact ⟨v', ss, k1, ho.ownC hg hr⟩
theorem copiedN_next {w0 W W1 w2 : World} {pre : List (RowIn w0)} {x : RowIn w0} {v : Value} {ss : List SV} {s : SV} {g2 n2 cap2 : Nat} (o : Obj)
    (h : GridN W w0.heap.size v (pre.map fun x => x.1.2) ss) (hr1 : RNew W1 W.heap.size s.v x.1.2) (hbw : Below W.heap.size W W1) (hor : (Value.slice (some ⟨g2, 0, none⟩) n2 cap2).ownBlock = v.ownBlock ∨ (Value.slice (some ⟨g2, 0, none⟩) n2 cap2).ownBlock = some (W1.alloc o).heap.size) (hsz : w0.heap.size ≤ W.heap.size)
    (hown : w2.ownsRow w0.heap.size 40 1 (.slice (some ⟨g2, 0, none⟩) n2 cap2) (pre.length + 1) (LSc.cells ss ++ [s.v])) (hgrow : (W1.alloc o).grownBy w2 v.ownBlock) (q1 : Boxed w2 w0.heap.size 24 v)
    (q2 : Boxed (w2.setCell ⟨w0.heap.size, 0, none⟩ (.slice (some ⟨g2, 0, none⟩) n2 cap2)) w0.heap.size 24 (.slice (some ⟨g2, 0, none⟩) n2 cap2)) :
    CopiedN w0 (pre ++ [x]) (w2.setCell ⟨w0.heap.size, 0, none⟩ (.slice (some ⟨g2, 0, none⟩) n2 cap2)) := by
  have ho : LSc.Own w2 w0.heap.size (.slice (some ⟨g2, 0, none⟩) n2 cap2) (ss ++ [s]) := by
    show w2.ownsRow w0.heap.size 40 1 _ (ss ++ [s]).length (LSc.cells (ss ++ [s]))
    have hl := h.len
    rw [List.length_map] at hl
    rw [List.length_append, hl, show LSc.cells (ss ++ [s]) = LSc.cells ss ++ [s.v] by unfold Lay.cells; rw [List.flatMap_append]; rfl]
    exact hown
  have hor' : v.ownBlock = some g2 ∨ g2 = (W1.alloc o).heap.size := by
    rcases hor with e | e
    · exact .inl e.symm
    · exact .inr (Option.some.inj e)
  obtain ⟨k1, k2⟩ := h.step hsz hbw hr1 o ho hgrow hor'
  refine ⟨_, ss ++ [s], q2, ?_⟩
  rw [List.map_append]
  exact k1.turn (Turn.grown (row := some w0.heap.size) (grownBy_setCell' w2 w0.heap.size _)) (fun k hk e => k1.notBox q1 k hk (Option.some.inj e).symm)
set_option maxRecDepth 100000 in
set_option maxHeartbeats 4000000 in
theorem copiesN_any (w0 : World) (gf : Nat) (lb : Array Value) (xs : List (RowIn w0)) (hlen : xs.length ≤ 1000) (eg : ∀ args w, (callFunc gf args).run Tryz.prog w = .ok (.enter gf args) w) (hs : Hands 2 w0 gf lb xs w0) :
    CallsIn Fence.wide 3 Tryz.prog 59 #[.func (.func gf) #[] lb] w0 fun e w' => ∃ v ss, e = .returned v ∧ GridN w' w0.heap.size v (xs.map fun x => x.1.2) ss ∧ Below w0.heap.size w0 w' := by
  obtain ⟨i0, hi, hz0, hz1, hz2⟩ := info_parts info_row
  refine callsIn_of_wp_marks Tryz.func59 rfl trivial ?_ rfl
  simp only [Tryz.ntmps59, List.size_toArray, List.length_cons, List.length_nil, Nat.reduceAdd, Nat.reduceSub, Array.replicate_succ, Array.replicate_zero, List.push_toArray, List.append_toArray, List.nil_append, List.cons_append]
  gi_wp2
  have bO := Boxed.new w0 24 (.slice none 0 0)
  have hB0 : Below w0.heap.size w0 (w0.alloc (.cells #[.slice none 0 0] 24)) := (Below.refl _ w0).alloc (Nat.le_refl _) _
  refine wpIn_rangeFunc_ownG rfl (by omega) (gf := gf) (lb := lb) rfl trivial eg hs belowK_t (belowK_b (by simp)) hB0 (fun _ => rfl)
    (fun pre W => CopiedN w0 pre W ∧ Below w0.heap.size w0 W)
    (fun _ _ _ => False)
    (OwnFrom.and (Own.from (copiedN_own w0) _) (ownFrom_below (Nat.le_refl _) (by simp)))
    (fun _ _ _ _ _ hs _ _ => hs)
    ⟨⟨_, [], bO, GridN.nil0 _ _⟩, hB0⟩
    (fun x => { tmps := #[.func (.func gf) #[] lb, undef, .slice none 0 0, .pointer (some ⟨w0.heap.size, 0, none⟩), x.1.1, .func (.func gf) #[] lb, x.1.1, undef, undef, undef, undef, undef, undef], defers := [] }) ?assign ?body ?done ?stop
  case assign =>
    intro l x W K hK
    gi_wp2
    exact hK
  case body =>
    rintro l pre x W ⟨⟨v, ss, hv, hG⟩, hB⟩ hlt
    have hrow : W.ownsRow w0.heap.size 40 1 v pre.length (LSc.cells ss) := by rw [← List.length_map (f := fun x : RowIn w0 => x.1.2), ← hG.len]; exact hG.own
    have hc := hv.cell
    have hmx : Tryz.prog.follows .mixedOrders = true := by kernel_rfl
    have HCL := Lib.hid ((callsIn_wide (n := 3 - 1 - 1 - 1)).2 (cloneN_any x.1.1 x.1.2 W.drew (x.2.1.below hB.drew) x.2.2.1 x.2.2.2))
    have hB' := hB
    clear hB'
    gi_wp2
    refine wpIn_region_any hmx ?_
    try (change wpAnyIn _ _ _ _ _ _ _ _ _ (World.drew _))
    refine wpAnyIn_ready (rs := [0, 1]) (by kernel_rfl) (by simp) (AllReadyIn.cons rfl (fun K hK => ?_) (AllReadyIn.cons rfl (fun K hK => ?_) AllReadyIn.nil))
    · (go_simp; refine hK _ _ ?_; clear hK K)
      refine wpAnyIn_ready (rs := [1]) (by kernel_rfl) (by simp) (AllReadyIn.cons rfl (fun K hK => ?_) AllReadyIn.nil)
      (go_simp; refine hK _ _ ?_; clear hK K)
      refine wpAnyIn_ready (rs := [2]) (by kernel_rfl) (by simp) (AllReadyIn.cons rfl (fun K hK => ?_) AllReadyIn.nil)
      (go_simp; refine ⟨trivial, ?_⟩; gi_at_call 90; refine (CallsIn.inRound l HCL.out).mono ?_; rintro e W1 ⟨v1, rfl, hr1, hb1⟩; obtain ⟨a1, c1, rfl⟩ := hr1.row.lenv; have hbw : Below W.heap.size W W1 := ((Below.refl _ _).drew).trans hb1; have hv1 := hv.kept (grown_of hbw) (by simp); have hrow1 := hrow.kept (grown_of hbw) (by cases v.ownBlock <;> simp); have e0 := hv1.cell; have e1 := (hv1.alloc (.cells #[.slice a1 x.1.2.length c1] 40)).cell; obtain ⟨v2, w2, hrun, hown2, hgrow2, _, hor2⟩ := run_append_own_at (P := Tryz.prog) (W1.alloc (.cells #[.slice a1 x.1.2.length c1] 40)) w0.heap.size 24 24 40 i0 _ 1 24 Tryz.underlying24 hi hz0 hz1 hz2 rfl (by decide) v pre.length (LSc.cells ss) (hrow1.alloc _) ⟨W1.heap.size, 0, none⟩ 1 1 [.slice a1 x.1.2.length c1] rfl (cell_one_new _ _ _) (by simp [Value.oneCell']) (by unfold maxLen; omega) (by omega) (by have := hbw.size; have := hB.size; simp; omega); obtain ⟨g2, cap2, rfl⟩ := ownsRow_succ hown2; obtain ⟨q1, q2, q3, q4, q5⟩ := hv1.appended (by decide) hrow1 (by have := hbw.size; have := hB.size; omega) (Nat.le_refl _) hown2 hgrow2; have hc1 := q1.cell; have hf1 := q1.frozen; go_simp; refine hK _ _ ?_; clear hK K)
      refine wpAnyIn_ready (rs := [3]) (by kernel_rfl) (by simp) (AllReadyIn.cons rfl (fun K hK => ?_) AllReadyIn.nil)
      (go_simp; refine hK _ _ ?_; clear hK K)
      refine wpAnyIn_ready (rs := [4]) (by kernel_rfl) (by simp) (AllReadyIn.cons rfl (fun K hK => ?_) AllReadyIn.nil)
      (refine stepIn_append rfl (.tmp 7) (.tmp 10) 24 rfl rfl rfl hrun ?_; refine hK _ _ ?_; clear hK K)
      refine wpAnyIn_ready (rs := [5]) (by kernel_rfl) (by simp) (AllReadyIn.cons rfl (fun K hK => ?_) AllReadyIn.nil)
      (go_simp; refine hK _ _ ?_; clear hK K)
      refine wpAnyIn_done (by kernel_rfl) ?_ _
      (exact ⟨(KeepsFrom.of_grownBy (grown_of hbw) (fun j e => by cases e)).trans (q4.from _), (hbw.mono (by have := hB.size; omega)).trans q5, copiedN_next (s := (a1, x.1.2.length, c1)) _ hG hr1 hbw hor2 (by have := hB.size; omega) hown2 hgrow2 q1 q2, hB.trans ((hbw.mono (by have := hB.size; omega)).trans q5)⟩)
    · (go_simp; refine hK _ _ ?_; clear hK K)
      refine wpAnyIn_ready (rs := [0, 2]) (by kernel_rfl) (by simp) (AllReadyIn.cons rfl (fun K hK => ?_) (AllReadyIn.cons rfl (fun K hK => ?_) AllReadyIn.nil))
      · (go_simp; refine hK _ _ ?_; clear hK K)
        refine wpAnyIn_ready (rs := [2]) (by kernel_rfl) (by simp) (AllReadyIn.cons rfl (fun K hK => ?_) AllReadyIn.nil)
        (go_simp; refine ⟨trivial, ?_⟩; gi_at_call 90; refine (CallsIn.inRound l HCL.out).mono ?_; rintro e W1 ⟨v1, rfl, hr1, hb1⟩; obtain ⟨a1, c1, rfl⟩ := hr1.row.lenv; have hbw : Below W.heap.size W W1 := ((Below.refl _ _).drew).trans hb1; have hv1 := hv.kept (grown_of hbw) (by simp); have hrow1 := hrow.kept (grown_of hbw) (by cases v.ownBlock <;> simp); have e0 := hv1.cell; have e1 := (hv1.alloc (.cells #[.slice a1 x.1.2.length c1] 40)).cell; obtain ⟨v2, w2, hrun, hown2, hgrow2, _, hor2⟩ := run_append_own_at (P := Tryz.prog) (W1.alloc (.cells #[.slice a1 x.1.2.length c1] 40)) w0.heap.size 24 24 40 i0 _ 1 24 Tryz.underlying24 hi hz0 hz1 hz2 rfl (by decide) v pre.length (LSc.cells ss) (hrow1.alloc _) ⟨W1.heap.size, 0, none⟩ 1 1 [.slice a1 x.1.2.length c1] rfl (cell_one_new _ _ _) (by simp [Value.oneCell']) (by unfold maxLen; omega) (by omega) (by have := hbw.size; have := hB.size; simp; omega); obtain ⟨g2, cap2, rfl⟩ := ownsRow_succ hown2; obtain ⟨q1, q2, q3, q4, q5⟩ := hv1.appended (by decide) hrow1 (by have := hbw.size; have := hB.size; omega) (Nat.le_refl _) hown2 hgrow2; have hc1 := q1.cell; have hf1 := q1.frozen; go_simp; refine hK _ _ ?_; clear hK K)
        refine wpAnyIn_ready (rs := [3]) (by kernel_rfl) (by simp) (AllReadyIn.cons rfl (fun K hK => ?_) AllReadyIn.nil)
        (go_simp; refine hK _ _ ?_; clear hK K)
        refine wpAnyIn_ready (rs := [4]) (by kernel_rfl) (by simp) (AllReadyIn.cons rfl (fun K hK => ?_) AllReadyIn.nil)
        (refine stepIn_append rfl (.tmp 7) (.tmp 10) 24 rfl rfl rfl hrun ?_; refine hK _ _ ?_; clear hK K)
        refine wpAnyIn_ready (rs := [5]) (by kernel_rfl) (by simp) (AllReadyIn.cons rfl (fun K hK => ?_) AllReadyIn.nil)
        (go_simp; refine hK _ _ ?_; clear hK K)
        refine wpAnyIn_done (by kernel_rfl) ?_ _
        (exact ⟨(KeepsFrom.of_grownBy (grown_of hbw) (fun j e => by cases e)).trans (q4.from _), (hbw.mono (by have := hB.size; omega)).trans q5, copiedN_next (s := (a1, x.1.2.length, c1)) _ hG hr1 hbw hor2 (by have := hB.size; omega) hown2 hgrow2 q1 q2, hB.trans ((hbw.mono (by have := hB.size; omega)).trans q5)⟩)
      · (go_simp; refine ⟨trivial, ?_⟩; gi_at_call 90; refine (CallsIn.inRound l HCL.out).mono ?_; rintro e W1 ⟨v1, rfl, hr1, hb1⟩; obtain ⟨a1, c1, rfl⟩ := hr1.row.lenv; have hbw : Below W.heap.size W W1 := ((Below.refl _ _).drew).trans hb1; have hv1 := hv.kept (grown_of hbw) (by simp); have hrow1 := hrow.kept (grown_of hbw) (by cases v.ownBlock <;> simp); have e0 := hv1.cell; have e1 := (hv1.alloc (.cells #[.slice a1 x.1.2.length c1] 40)).cell; obtain ⟨v2, w2, hrun, hown2, hgrow2, _, hor2⟩ := run_append_own_at (P := Tryz.prog) (W1.alloc (.cells #[.slice a1 x.1.2.length c1] 40)) w0.heap.size 24 24 40 i0 _ 1 24 Tryz.underlying24 hi hz0 hz1 hz2 rfl (by decide) v pre.length (LSc.cells ss) (hrow1.alloc _) ⟨W1.heap.size, 0, none⟩ 1 1 [.slice a1 x.1.2.length c1] rfl (cell_one_new _ _ _) (by simp [Value.oneCell']) (by unfold maxLen; omega) (by omega) (by have := hbw.size; have := hB.size; simp; omega); obtain ⟨g2, cap2, rfl⟩ := ownsRow_succ hown2; obtain ⟨q1, q2, q3, q4, q5⟩ := hv1.appended (by decide) hrow1 (by have := hbw.size; have := hB.size; omega) (Nat.le_refl _) hown2 hgrow2; have hc1 := q1.cell; have hf1 := q1.frozen; go_simp; refine hK _ _ ?_; clear hK K)
        refine wpAnyIn_ready (rs := [0, 3]) (by kernel_rfl) (by simp) (AllReadyIn.cons rfl (fun K hK => ?_) (AllReadyIn.cons rfl (fun K hK => ?_) AllReadyIn.nil))
        · (go_simp; refine hK _ _ ?_; clear hK K)
          refine wpAnyIn_ready (rs := [3]) (by kernel_rfl) (by simp) (AllReadyIn.cons rfl (fun K hK => ?_) AllReadyIn.nil)
          (go_simp; refine hK _ _ ?_; clear hK K)
          refine wpAnyIn_ready (rs := [4]) (by kernel_rfl) (by simp) (AllReadyIn.cons rfl (fun K hK => ?_) AllReadyIn.nil)
          (refine stepIn_append rfl (.tmp 7) (.tmp 10) 24 rfl rfl rfl hrun ?_; refine hK _ _ ?_; clear hK K)
          refine wpAnyIn_ready (rs := [5]) (by kernel_rfl) (by simp) (AllReadyIn.cons rfl (fun K hK => ?_) AllReadyIn.nil)
          (go_simp; refine hK _ _ ?_; clear hK K)
          refine wpAnyIn_done (by kernel_rfl) ?_ _
          (exact ⟨(KeepsFrom.of_grownBy (grown_of hbw) (fun j e => by cases e)).trans (q4.from _), (hbw.mono (by have := hB.size; omega)).trans q5, copiedN_next (s := (a1, x.1.2.length, c1)) _ hG hr1 hbw hor2 (by have := hB.size; omega) hown2 hgrow2 q1 q2, hB.trans ((hbw.mono (by have := hB.size; omega)).trans q5)⟩)
        · (go_simp; refine hK _ _ ?_; clear hK K)
          refine wpAnyIn_ready (rs := [0]) (by kernel_rfl) (by simp) (AllReadyIn.cons rfl (fun K hK => ?_) AllReadyIn.nil)
          (go_simp; refine hK _ _ ?_; clear hK K)
          refine wpAnyIn_ready (rs := [4]) (by kernel_rfl) (by simp) (AllReadyIn.cons rfl (fun K hK => ?_) AllReadyIn.nil)
          (refine stepIn_append rfl (.tmp 7) (.tmp 10) 24 rfl rfl rfl hrun ?_; refine hK _ _ ?_; clear hK K)
          refine wpAnyIn_ready (rs := [5]) (by kernel_rfl) (by simp) (AllReadyIn.cons rfl (fun K hK => ?_) AllReadyIn.nil)
          (go_simp; refine hK _ _ ?_; clear hK K)
          refine wpAnyIn_done (by kernel_rfl) ?_ _
          (exact ⟨(KeepsFrom.of_grownBy (grown_of hbw) (fun j e => by cases e)).trans (q4.from _), (hbw.mono (by have := hB.size; omega)).trans q5, copiedN_next (s := (a1, x.1.2.length, c1)) _ hG hr1 hbw hor2 (by have := hB.size; omega) hown2 hgrow2 q1 q2, hB.trans ((hbw.mono (by have := hB.size; omega)).trans q5)⟩)
  case done =>
    rintro D ys W hD rfl ⟨⟨v, ss, hv, hG⟩, hB⟩ hK
    have hc := hv.cell
    gi_wp2
    refine ⟨by simp, .inl ⟨_, _, rfl, run_takeDeferred hK, ?_⟩⟩
    refine ⟨_, results_tmp rfl _ _ _, v, ss, rfl, ?_, hB.trans (belowK_b (w := w0) (Nat.le_refl _) W D _ _ (by simp at hD; omega) hK rfl rfl)⟩
    exact hG.ownC (grownBy_putObj' W D _) (fun r e => by cases e; exact ⟨_, hK, rfl⟩)
  case stop =>
    rintro D c pre W _ _ h _
    exact h.elim
end Go.Proofs.YtobpnoiienpipaaGreat

/-
  What is proved: the walk of Weave over two fields of equal length: the woven picture as a list of rows in new memory.
  Conditions: the fields can be read, and lie where the woven picture's rows are told of.
-/
namespace Go.Proofs.YtobpnoiienpipaaGreat
set_option linter.unusedVariables false
open Go.RowKit Go.Shelf
attribute [local go_sem] run_store_float run_store_complex unary_negf neg256 Oper.semAt_some

/-- The answer: the rows, if they are a picture, in new memory. -/
def WeaveN (rs : List (List C3)) (w : World) (e : Ending) (w' : World) : Prop := ∃ v' ss, e = .returned (.tuple #[v', .bool (pok rs)]) ∧ GridN w' w.heap.size v' (if pok rs = true then rs else []) ss ∧ Below w.heap.size w w'
theorem WeaveN.no {rs : List (List C3)} {w w' : World} (hp : pok rs = false) (h : Aft w w') : WeaveN rs w (.returned (.tuple #[.slice none 0 0, .bool false])) w' := by
  refine ⟨.slice none 0 0, [], by rw [hp], ?_, h⟩
  rw [if_neg (by rw [hp]; simp)]
  exact GridN.nil0 _ _
theorem WeaveN.yes {rs : List (List C3)} {w w2 w' : World} {v : Value} {ss : List SV} (hp : pok rs = true) (h : GridN w' w2.heap.size v rs ss) (h2 : Aft w w2) (hb : Aft w w') : WeaveN rs w (.returned (.tuple #[v, .bool true])) w' := by
  refine ⟨v, ss, by rw [hp], ?_, hb⟩
  rw [if_pos hp]
  exact h.mono h2.size
set_option maxRecDepth 100000 in
set_option maxHeartbeats 4000000 in
theorem weaveN_any (g o cap g' o' cap' n : Nat) (hn : n ≤ 1000) (rs : List (List C3)) (hrs : rs.length = 2 * n) (ht : Thin rs) (w : World)
    (hcell : ∀ k, k < n → ∀ (hq : 2 * k < rs.length), ∃ a c, w.cell? ⟨g, o + k, none⟩ = some (.slice a rs[2 * k].length c) ∧ RowV w (.slice a rs[2 * k].length c) rs[2 * k])
    (hcell' : ∀ k, k < n → ∀ (hq : 2 * k + 1 < rs.length), ∃ a c, w.cell? ⟨g', o' + k, none⟩ = some (.slice a rs[2 * k + 1].length c) ∧ RowV w (.slice a rs[2 * k + 1].length c) rs[2 * k + 1]) :
    Calls Tryz.prog 34 #[.slice (some ⟨g, o, none⟩) n cap, .slice (some ⟨g', o', none⟩) n cap'] w fun e w' => WeaveN rs w e w' := by
  have HC := Lib.hid hcell
  have HC' := Lib.hid hcell'
  have HRS := Lib.hid hrs
  have HT := Lib.hid ht
  have hst := Lib.hid (Wov.start w rs)
  clear hcell hcell' hrs ht
  have HST := Lib.hid (Wov.start w rs n (List.replicate (2 * n) (.slice none 0 0)) (by simp))
  have hmk := make_rows n hn w
  have HPI := Lib.hid (fun W (h : Wov w rs n n W) => h.pic HRS.out)
  obtain ⟨m, hm⟩ : ∃ m, m = 2 * n := ⟨_, rfl⟩
  rw [← hm] at HST hmk HPI
  have HM := Lib.hid hm
  clear hst hm
  go_enter Tryz.func34, Tryz.ntmps34
  go_wp2
  go_loopw [19] (fun i wr => ∃ k : Nat, k ≤ n ∧ i = .int .i64 (k : Int) ∧ Wov w rs n k wr) (fun i _ => n - (intOf i).toNat)
  case atStart => exact ⟨0, Nat.zero_le _, rfl, HST.out⟩
  case round =>
    obtain ⟨k, hk, rfl, hm⟩ := hrel
    by_cases hlt : k < n
    · obtain ⟨L, hg, hL, hwo, hbl⟩ := hm
      have hq1 : 2 * k + 1 < rs.length := by have := HRS.out; omega
      obtain ⟨a, c, hc, hr⟩ := HC.out k hlt (by omega)
      obtain ⟨a', c', hc', hr'⟩ := HC'.out k hlt hq1
      have HNX := Lib.hid (hwo.next hL hlt (u1 := .slice a (rs[2 * k]'(by omega)).length c) (u2 := .slice a' rs[2 * k + 1].length c') (fun _ => ⟨a, c, rfl, hr⟩) (fun _ => ⟨a', c', rfl, hr'⟩))
      have HLN := Lib.hid hL
      have HBL := Lib.hid hbl
      have m0 := (grown_of hbl).cell hc (by simp)
      have m1 := (grown_of hbl).cell hc' (by simp)
      have HG := fun o => Lib.hid (show ((wr.alloc o).drew).heap[w.heap.size]? = some (.cells L.toArray 40 (0, 0)) from (Below.heap_alloc wr o _ (Array.getElem?_eq_some_iff.1 hg).1).trans hg)
      generalize (rs[2 * k]'(by omega)).length = na at *
      generalize rs[2 * k + 1].length = nb at *
      obtain ⟨q, hq⟩ : ∃ q, q = 2 * k := ⟨_, rfl⟩
      have hwr : IntKind.i64.wrap (2 * (k : Int)) = (q : Int) := by rw [IntWalk.i64_in _ (by omega)]; omega
      have hql : q + 2 ≤ m := by have := HM.out; omega
      have hq3 : q ≤ m := by omega
      have hq4 : ¬ m = q := by omega
      have hq5 : ¬ m - q = 0 := by omega
      rw [← hq] at HNX
      have HQ := Lib.hid hq
      clear hq
      have HNEW := Lib.hid (World.news_of_block (w := (wr.alloc (.cells #[.slice a na c, .slice a' nb c'] 40)).drew) (heap_alloc_new wr _))
      clear hr hr' hc hc' hwo hL hg hbl HST
      go_wp2
      go_region_law (refine step_copy_splice rfl (.tmp 25) (.tmp 34) 24 24 rfl 40 Tryz.underlying24 (by kernel_rfl) _ _ _ _ _ _ rfl rfl w.heap.size q L 40 (HG _).out [.slice a na c, .slice a' nb c'] (by show 2 = Nat.min 2 _; exact (Nat.min_eq_left (by omega)).symm) (fun _ => ⟨rfl, _, rfl, HNEW.out⟩) (by have := HLN.out; have := HM.out; simp; omega) (by simp [Value.oneCell']) w.heap.size w ((HBL.out.alloc HBL.out.size _).trans ⟨rfl, rfl, rfl, Nat.le_refl _, fun _ _ => rfl⟩) (Nat.le_refl _) ?_; intro w4 hg4 hb4)
      all_goals
        go_wp2
        go_roundw
        case rel => exact ⟨k + 1, by omega, by go_num, _, hg4.out, by rw [length_splice _ _ _ (by have := HLN.out; have := HM.out; simp; omega)]; exact HLN.out, HNX.out, hb4⟩
        case measure => simp [intOf]; omega
    · have hkk : k = n := by omega
      subst hkk
      have hpv := HPI.out wr hm
      have HA := Lib.hid (show Aft w wr from hm.choose_spec.2.2.2)
      clear HC HC' hm HST HPI
      obtain rfl : m = rs.length := by have := HM.out; have := HRS.out; omega
      have HP := Lib.hid (pictureOk_any _ rs wr hpv HT.out (by have := HRS.out; omega))
      cases hp : pok rs with
      | false =>
        rw [hp] at HP
        have HPF := Lib.hid hp
        clear hp hpv
        go_wp2_with fail
        refine HP.out.mono ?_
        rintro e w1 ⟨rfl, hb⟩
        go_wp2
        go_ret2
        exact WeaveN.no HPF.out (HA.out.next hb)
      | true =>
        rw [hp] at HP
        have HPF := Lib.hid hp
        obtain ⟨h4, h5, h6⟩ := pok_size_of hp
        have hne : rs ≠ [] := by rintro rfl; simp at h5
        have HRN := Lib.hid (pok_rows_ne hp)
        obtain ⟨g1, o1, cap1, hv1, _, hcell1⟩ := hpv.len hne
        cases hv1
        have HC := Lib.hid hcell1
        clear hp hpv hcell1 hne h4
        go_wp2_with fail
        refine HP.out.mono ?_
        rintro e w1 ⟨rfl, hb⟩
        have HA1 := Lib.hid (HA.out.next hb)
        go_wp2_with fail
        refine (values_any _ _ _ w1).mono ?_
        rintro e w2 ⟨rfl, rfl⟩
        have hb2 : Below wr.heap.size wr (w1.alloc (.cells #[.slice (some ⟨w.heap.size, 0, none⟩) rs.length rs.length] 24)) := hb.alloc hb.size _
        have HA2 := Lib.hid (HA.out.next hb2)
        have k1 : (w1.alloc (.cells #[.slice (some ⟨w.heap.size, 0, none⟩) rs.length rs.length] 24)).cell? ⟨w1.heap.size, 0, none⟩ = some (.slice (some ⟨w.heap.size, 0, none⟩) rs.length rs.length) := (cell_of_row _ _ 0 _ _ _ (heap_alloc_new w1 _)).trans rfl
        obtain ⟨w2, hw2⟩ : ∃ w2, w1.alloc (.cells #[.slice (some ⟨w.heap.size, 0, none⟩) rs.length rs.length] 24) = w2 := ⟨_, rfl⟩
        rw [hw2] at hb2 k1 HA2
        obtain ⟨L, e1, e2, e3⟩ := rows_in (w0 := w2) hb2 HRN.out HC.out
        rw [← e1] at k1
        have HH := Lib.hid (copiesN_any w2 _ _ L (by omega) (enters_of Tryz.func99 (by kernel_rfl) rfl)
          (values_hands 2 (by omega) w2 w1.heap.size w.heap.size 0 L.length L (by omega) e3 k1))
        rw [e2] at HH
        clear k1 e1 e2 e3 hb hb2 HC HP
        go_wp2_with fail
        try rw [hw2]
        refine (callsIn_wide.1 HH.out).mono ?_
        rintro e w3 ⟨v3, s3, rfl, hv3, hb3⟩
        have HV3 := Lib.hid hv3
        clear hv3 hw2
        go_wp2
        go_ret2
        exact WeaveN.yes HPF.out HV3.out HA2.out (HA2.out.next hb3)
end Go.Proofs.YtobpnoiienpipaaGreat

