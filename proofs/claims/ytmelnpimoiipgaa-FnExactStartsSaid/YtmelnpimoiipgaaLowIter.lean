/-
  What is proved: the walk of the iterator over the runs of low samples.
  Conditions: the stream can be read.
-/
import Derived.RangeFuncNested
import Derived.RangeFuncBound
import Derived.RangeFuncCalls
import Derived.RangeFuncLeaves
import Derived.RangeFuncBox
import Derived.Shelf.Abstract
import Derived.Shelf.RegionOpen
import Derived.OwnWalkIn
import Derived.TacticsInMore
import Derived.LoopNIn
import Derived.LoopIn
import Derived.Maps.AppendAt
import Derived.Sort.QuietTacIn
import Derived.Stop.RegionWithIn
import Derived.Deep.RegionHeld3
import Derived.IntWalk
import Derived.Test.YtmelnpimoiipgaaPkStarts
import Derived.Test.YtmelnpimoiipgaaChunk
namespace Go.Proofs.Ytmelnpimoiipgaa
set_option linter.unusedVariables false
open Go.RowKit Go.Shelf
attribute [local go_sem] run_store_float run_store_complex unary_negf neg256 Oper.semAt_some

/-- The first n of these samples are low, and the next one is not. -/
structure LowRun (zs : List Nat) (s n : Nat) : Prop where
  le : n ≤ zs.length
  yes : ∀ j (h : j < zs.length), j < n → leb zs[j] s = true
  no : ∀ h : n < zs.length, leb zs[n] s = false
set_option maxHeartbeats 1000000 in
theorem lowSamples_any (v : Value) (zs : List Nat) (s : Nat) (w : World) (h : FRow w v zs) (hl : zs.length ≤ 4000000) :
    Calls Try.prog 89 #[v, .float .f32 s] w fun e w' => ∃ n, LowRun zs s n ∧ e = .returned (.int .i64 (n : Int)) ∧ w = w' := by
  obtain ⟨a, c, rfl, hc⟩ := h.any
  have HC := Lib.hid hc
  clear hc h
  go_enter Try.func89, Try.ntmps89
  go_wp2
  go_loopw [9] (fun i wr => ∃ k : Nat, k ≤ zs.length ∧ i = .int .i64 (k : Int) ∧ (∀ j (h : j < zs.length), j < k → leb zs[j] s = true) ∧ wr = w) (fun i _ => zs.length - (intOf i).toNat)
  case atStart => exact ⟨0, Nat.zero_le _, rfl, fun j h hj => absurd hj (by omega), rfl⟩
  case round =>
    obtain ⟨k, hk, rfl, hlow, rfl⟩ := hrel
    have HL := Lib.hid hlow
    clear hlow
    by_cases hlt : k < zs.length
    · obtain ⟨g, o, rfl, hcap, hcell⟩ := HC.out k hlt
      obtain ⟨z, hz⟩ : ∃ z, zs[k] = z := ⟨_, rfl⟩
      rw [hz] at hcell
      have HZ := Lib.hid hz
      clear hz
      cases hq : leb z s with
      | true =>
        have HQ := Lib.hid hq
        have hq' : (FloatKind.f32.format.order z s == some .lt || FloatKind.f32.format.order z s == some .eq) = true := hq
        clear hq
        go_wp2
        go_roundw
        case rel =>
          refine ⟨k + 1, by omega, by go_num, fun j h hj => ?_, by trivial⟩
          by_cases e : j = k
          · subst e; rw [HZ.out]; exact HQ.out
          · exact HL.out j h (by omega)
        case measure => simp [intOf]; omega
      | false =>
        have HQ := Lib.hid hq
        have hq' : (FloatKind.f32.format.order z s == some .lt || FloatKind.f32.format.order z s == some .eq) = false := hq
        clear hq
        go_wp2
        go_ret
        exact ⟨k, ⟨hk, HL.out, fun h => by rw [HZ.out]; exact HQ.out⟩, rfl, rfl⟩
    · have hkk : k = zs.length := by omega
      subst hkk
      go_wp2
      go_ret
      exact ⟨zs.length, ⟨Nat.le_refl _, HL.out, fun h => absurd h (by omega)⟩, rfl, rfl⟩
theorem LowRun.at {xs : List Nat} {s k n : Nat} (h : LowRun (xs.drop k) s n) : (∀ j, j < n → low xs s (k + j) = true) ∧ low xs s (k + n) = false := by
  have hl := h.le
  rw [List.length_drop] at hl
  refine ⟨fun j hj => ?_, ?_⟩
  · have := h.yes j (by rw [List.length_drop]; omega) hj
    rw [List.getElem_drop] at this
    unfold low
    rw [List.getD_eq_getElem?_getD, List.getElem?_eq_getElem (show k + j < xs.length by omega)]
    simp [this]
    omega
  · unfold low
    by_cases hn : k + n < xs.length
    · have := h.no (by rw [List.length_drop]; omega)
      rw [List.getElem_drop] at this
      rw [List.getD_eq_getElem?_getD, List.getElem?_eq_getElem hn]
      simp [this]
    · simp [hn]
theorem lowsK_steps {xs : List Nat} {s k : Nat} {rs : List R2} (h0 : lowsK xs s k = (rs, 0)) : ∀ n, (∀ j, j < n → low xs s (k + j) = true) → lowsK xs s (k + n) = (rs, n)
  | 0, _ => h0
  | n + 1, h => by
    have := lowsK_steps h0 n (fun j hj => h j (by omega))
    rw [← Nat.add_assoc, lowsK_low (h n (by omega)), this]
theorem lowsK_run {xs : List Nat} {s k n : Nat} {rs : List R2} (h0 : lowsK xs s k = (rs, 0)) (h : LowRun (xs.drop k) s n) : lowsK xs s (k + n + 1) = (if 5 ≤ n then rs ++ [(k, n)] else rs, 0) := by
  have h1 := lowsK_steps h0 n h.at.1
  by_cases h5 : 5 ≤ n
  · rw [lowsK_cut h.at.2 (by rw [h1]; exact h5), h1, if_pos h5]
    simp
  · rw [lowsK_none h.at.2 (by rw [h1]; exact h5), h1, if_neg h5]
theorem lowsK_over {xs : List Nat} {s k : Nat} {rs : List R2} (h0 : lowsK xs s k = (rs, 0)) (hk : xs.length ≤ k) (hk1 : k ≤ xs.length + 1) : (lowsK xs s (xs.length + 1)).1 = rs := by
  by_cases e : k = xs.length + 1
  · rw [← e, h0]
  · have e' : k = xs.length := by omega
    rw [← e', lowsK_none (by unfold low; simp; omega) (by rw [h0]; simp), h0]
theorem FRow.from {w : World} {xs : List Nat} {g o n cap : Nat} (h : FRow w (.slice (some ⟨g, o, none⟩) n cap) xs) (hn : xs.length = n) (k : Nat) (hk : k < n) : FRow w (.slice (some ⟨g, o + k, none⟩) (n - k) (cap - k)) (xs.drop k) := by
  rcases h with ⟨⟨a, c, e⟩, h1⟩ | ⟨g', o', cap', e, hcap, hcell⟩
  · subst h1; simp at hn; omega
  · cases e
    refine .inr ⟨g, o + k, cap - k, by rw [List.length_drop], by rw [List.length_drop]; omega, fun i hi => ?_⟩
    rw [List.length_drop] at hi
    rw [List.getElem_drop, Nat.add_assoc]
    exact hcell (k + i) (by omega)
/-- Block Bb holds a slice of runs whose own block, if it has one, lies from lo on. -/
structure RowIn (lo : Nat) (W : World) (Bb : Nat) (v : Value) : Prop where
  box : Boxed W Bb 28 v
  size : lo ≤ W.heap.size
  own : ∀ k, v.ownBlock = some k → lo ≤ k ∧ k < W.heap.size
/-- What a round of the loop over the runs keeps: all but the box and the block of the slice in it. -/
structure KeepR (lo Bb : Nat) (A B : World) : Prop where
  below : Below lo A B
  row : ∀ v, RowIn lo A Bb v → (∃ v', RowIn lo B Bb v' ∧ (v'.ownBlock = v.ownBlock ∨ ∀ k, v'.ownBlock = some k → A.heap.size ≤ k)) ∧
    ∀ (b : Nat) (o : Obj), A.heap[b]? = some o → o.isCells = true → b ≠ Bb → v.ownBlock ≠ some b → B.heap[b]? = some o
theorem KeepR.trans {lo Bb : Nat} {A B C : World} (h : KeepR lo Bb A B) (k : KeepR lo Bb B C) : KeepR lo Bb A C := by
  refine ⟨h.below.trans k.below, fun v hv => ?_⟩
  obtain ⟨⟨v1, hr1, ho1⟩, hc1⟩ := h.row v hv
  obtain ⟨⟨v2, hr2, ho2⟩, hc2⟩ := k.row v1 hr1
  refine ⟨⟨v2, hr2, ?_⟩, fun b o hb hc hne hno => hc2 b o (hc1 b o hb hc hne hno) hc hne (fun e => ?_)⟩
  · rcases ho2 with e2 | g2
    · rcases ho1 with e1 | g1
      · exact .inl (e2.trans e1)
      · exact .inr (fun j hj => g1 j (e2.symm.trans hj))
    · exact .inr (fun j hj => Nat.le_trans h.below.size (g2 j hj))
  · rcases ho1 with e1 | g1
    · exact hno (e1.symm.trans e)
    · have := g1 b e
      have := (Array.getElem?_eq_some_iff.1 hb).1
      omega
theorem KeepR.put {lo Bb : Nat} {w : World} (hlo : lo ≤ w.heap.size) (W : World) (l : Nat) (o o' : Obj) (hl : w.heap.size ≤ l) (h : W.heap[l]? = some o) (hc : o.isCells = false) (hw : o.isWalk = false) : KeepR lo Bb W (W.putObj l o') := by
  refine ⟨belowK_b hlo W l o o' hl h hc hw, fun v hv => ⟨⟨v, ⟨?_, ?_, ?_⟩, .inl rfl⟩, fun b o2 hb hc2 _ _ => ?_⟩⟩
  · refine (World.putObj_heap_other (fun e => ?_)).trans hv.box
    have hb := hv.box
    unfold Boxed at hb
    subst e
    rw [h] at hb
    cases hb
    cases hc
  · exact Nat.le_trans hv.size (grownBy_putObj' W l o').size
  · exact fun k e => ⟨(hv.own k e).1, Nat.lt_of_lt_of_le (hv.own k e).2 (grownBy_putObj' W l o').size⟩
  · refine (World.putObj_heap_other (fun e => ?_)).trans hb
    subst e
    rw [h] at hb
    cases hb
    rw [hc] at hc2
    cases hc2
theorem RowIn.grown {lo Bb : Nat} {A B : World} {v : Value} (h : RowIn lo A Bb v) (hg : A.grownBy B none) : RowIn lo B Bb v :=
  ⟨h.box.kept hg (by simp), Nat.le_trans h.size hg.size, fun k e => ⟨(h.own k e).1, Nat.lt_of_lt_of_le (h.own k e).2 hg.size⟩⟩
theorem KeepR.grown {lo Bb : Nat} {A B : World} (hlo : lo ≤ A.heap.size) (hg : A.grownBy B none) : KeepR lo Bb A B :=
  ⟨(Below.refl lo A).grown hg hlo (fun k e => by cases e), fun v hv => ⟨⟨v, hv.grown hg, .inl rfl⟩, fun b o hb _ _ _ => (hg.block b (Array.getElem?_eq_some_iff.1 hb).1 (by simp)).trans hb⟩⟩
/-- A run as the iterator hands it out. -/
def runV (x : R2) : Value := .agg #[.int .i64 (x.1 : Int), .int .i64 (x.2 : Int)]
set_option maxRecDepth 100000 in
set_option maxHeartbeats 8000000 in
theorem lowRuns1_in (n : Nat) (hn : 1 ≤ n) (w0 : World) (l Bs Bn Bb : Nat) (ad : Option Addr) (cap L : Nat) (xs : List Nat) (s : Nat) (hx : FRow w0 (.slice ad L cap) xs) (hL : xs.length = L) (hl : L ≤ 20000) (J Jx : List R2 → World → Prop) (B : Nat) (hJ : AbidesFrom B J)
    (hY : ∀ pre (x : R2) W, J pre W → pre.length < L + 1 → YieldAt Fence.wide (n - 1) Try.prog l #[runV x] W fun e W' =>
      (e = .returned (.bool true) ∧ J (pre ++ [x]) W' ∧ KeepR w0.heap.size Bb W W') ∨ (e = .returned (.bool false) ∧ Jx (pre ++ [x]) W'))
    (W : World) (hW : Below w0.heap.size w0 W) (v0 : Value) (hR0 : RowIn w0.heap.size W Bb v0) (hBs : w0.cell? ⟨Bs, 0, none⟩ = some (.slice ad L cap)) (hBn : w0.cell? ⟨Bn, 0, none⟩ = some (.float .f32 s)) (h0 : J [] W) :
    CallsIn Fence.wide n Try.prog 88 #[.func (.yield l) #[] #[], .pointer (some ⟨Bs, 0, none⟩), .pointer (some ⟨Bn, 0, none⟩)] W fun e W' => (∃ v, e = .returned v) ∧
      ((∃ ys, ys = (lowsK xs s (L + 1)).1 ∧ J ys W') ∨ (∃ pre : List R2, True ∧ Jx pre W')) := by
  have hbls := World.block_lt_of_cell? w0 _ hBs
  have hbln := World.block_lt_of_cell? w0 _ hBn
  have HX := Lib.hid hx
  have HLL := Lib.hid hL
  clear hx hL
  refine callsIn_of_wp Try.func88 rfl trivial ?_ rfl
  simp only [Try.ntmps88, List.size_toArray, List.length_cons, List.length_nil, Nat.reduceAdd, Nat.reduceSub, Array.replicate_succ, Array.replicate_zero, List.push_toArray, List.append_toArray, List.nil_append, List.cons_append]
  gi_wp2
  gi_loopw [4] (fun i wr => ∃ (k : Nat) (rs : List R2), k ≤ L + 1 ∧ i = .int .i64 (k : Int) ∧ lowsK xs s k = (rs, 0) ∧ J rs wr ∧ Below w0.heap.size w0 wr ∧ ∃ v, RowIn w0.heap.size wr Bb v) (fun i _ => L + 2 - (intOf i).toNat)
  case atStart => exact ⟨0, [], Nat.zero_le _, rfl, rfl, h0, hW, v0, hR0⟩
  case round =>
    obtain ⟨k, rs, hk, rfl, hrs, hJs, hb, v, hri⟩ := hrel
    have hbs := (World.cell?_of_block (a := ⟨Bs, 0, none⟩) (hb.block Bs hbls)).trans hBs
    have hbn := (World.cell?_of_block (a := ⟨Bn, 0, none⟩) (hb.block Bn hbln)).trans hBn
    have HJ := Lib.hid hJs
    have HRS := Lib.hid hrs
    have HB := Lib.hid hb
    have HRI := Lib.hid hri
    have hle := Lib.hid (lowsK_le xs s k)
    clear hJs hrs hri
    by_cases hlt : k < L
    · obtain ⟨g, o, rfl, hcap⟩ : ∃ g o, ad = some ⟨g, o, none⟩ ∧ L ≤ cap := by
        rcases HX.out with ⟨⟨a, c, e⟩, h1⟩ | ⟨g', o', cap', e, hcap, _⟩
        · have := HLL.out; subst h1; simp at this; omega
        · have hll := HLL.out; cases e; exact ⟨g', o', rfl, hcap⟩
      have hkc : k < cap := by omega
      have HCL := Lib.hid (fun (V : World) (hv : Below w0.heap.size w0 V) => (lowSamples_any (.slice (some ⟨g, o + k, none⟩) (L - k) (cap - k)) (xs.drop k) s V (FRow.from (HX.out.below hv) HLL.out k hlt) (by rw [List.length_drop]; have := HLL.out; omega)))
      have hlen : rs.length < L + 1 := by have h1 := hle.out.2; rw [HRS.out] at h1; simp at h1; omega
      clear hb hbls hbln
      have hi1 : (0 : Int) ≤ (k : Int) := by omega
      have hi2 : (k : Int) ≤ (L : Int) := by omega
      have hi3 : (L : Int) ≤ (cap : Int) := by omega
      have hi4 : k ≤ L := by omega
      have hi5 : ¬ cap - k = 0 := by omega
      have hi6 : ¬ cap = k := by omega
      have hn1 := World.new_ne wr ⟨Bs, 0, none⟩ hbs
      have hn2 := World.new_ne wr ⟨Bn, 0, none⟩ hbn
      gi_wp2
      refine wpIn_wide.2 ?_
      go_region_held3 (fun W => W.cell? ⟨Bs, 0, none⟩ = some (.slice (some ⟨g, o, none⟩) L cap) ∧ W.cell? ⟨Bn, 0, none⟩ = some (.float .f32 s)) (go_keep) (first | (go_at_call 89; refine (HCL.out _ (by first | exact HB.out.drew | exact HB.out.drew.alloc HB.out.size _)).mono ?_; rintro e W1 ⟨m, hm, rfl, rfl⟩; have HM := Lib.hid hm; clear hm) | fail)
      all_goals
        have hml : m + k ≤ L := by have h1 := HM.out.le; rw [List.length_drop, HLL.out] at h1; omega
        have hg1 : wr.grownBy (wr.alloc (.cells #[.int .i64 (k : Int), .int .i64 (m : Int)] 31)).drew none := grownN (World.grownBy_alloc wr _ none) 1
        have HJ1 := Lib.hid (hJ rs wr _ none HJ.out hg1 (fun r e => by cases e))
        have HR1 := Lib.hid (HRI.out.grown hg1)
        have HB1 := Lib.hid ((HB.out.alloc HB.out.size (.cells #[.int .i64 (k : Int), .int .i64 (m : Int)] 31)).drew)
        have hblk : (wr.alloc (.cells #[.int .i64 (k : Int), .int .i64 (m : Int)] 31)).drew.heap[wr.heap.size]? = some (.cells #[.int .i64 (k : Int), .int .i64 (m : Int)] 31 (0, 0)) := heap_alloc_new wr _
        have HBL := Lib.hid hblk
        have hc0 := cell_of_row _ _ 0 _ _ _ hblk
        have hc1 := cell_of_row _ _ 1 _ _ _ hblk
        clear hg1 hblk hn1 hn2 hbs hbn
        generalize hW1 : (wr.alloc (.cells #[.int .i64 (k : Int), .int .i64 (m : Int)] 31)).drew = W1 at *
        clear hW1
        have hw1 : IntKind.i64.wrap ((k : Int) + (m : Int)) = ((k + m : Nat) : Int) := by rw [IntWalk.i64_in _ (by omega)]; omega
        have HRUN := Lib.hid (lowsK_run HRS.out HM.out)
        by_cases h5 : 5 ≤ m
        · have h5i : (5 : Int) ≤ (m : Int) := by omega
          obtain ⟨fn, tmps, assign, body, hy, hR⟩ := hY rs (k, m) W1 HJ1.out hlen
          have HR := Lib.hid hR
          unfold runV at hy
          simp only at hy
          clear hR hw1
          gi_wp2
          refine HR.out.mono ?_
          rintro e W3 (⟨rfl, hJ3, hk3⟩ | ⟨rfl, hJx3⟩)
          · obtain ⟨⟨v3, hr3, _⟩, hc3⟩ := hk3.row v HR1.out
            have hb3 := hc3 wr.heap.size _ HBL.out rfl (by have := HRI.out.box.lt; omega) (fun e => by have := (HRI.out.own _ e).2; omega)
            have hd0 := cell_of_row _ _ 0 _ _ _ hb3
            have hd1 := cell_of_row _ _ 1 _ _ _ hb3
            have HR3 := Lib.hid hr3
            have HB3 := Lib.hid (HB1.out.trans hk3.below)
            have hw1 : IntKind.i64.wrap ((k : Int) + (m : Int)) = ((k + m : Nat) : Int) := by rw [IntWalk.i64_in _ (by omega)]; omega
            have HJ3 := Lib.hid hJ3
            clear hr3 hc3 hk3 hb3 hc0 hc1 hJ3
            gi_wp2
            go_roundw
            case rel => exact ⟨k + m + 1, rs ++ [(k, m)], by omega, by go_num, by rw [HRUN.out, if_pos h5], HJ3.out, HB3.out, v3, HR3.out⟩
            case measure => simp [intOf]; omega
          · gi_wp2
            refine bodyPost_ret (results_none rfl _ _ _) rfl ?_
            exact ⟨⟨_, rfl⟩, .inr ⟨_, trivial, hJx3⟩⟩
        · have h5i : ¬ (5 : Int) ≤ (m : Int) := by omega
          gi_wp2
          refine ⟨fun f h => (by cases h), ?_⟩
          gi_wp2
          go_roundw
          case rel => exact ⟨k + m + 1, rs, by omega, by go_num, by rw [HRUN.out, if_neg h5], HJ1.out, HB1.out, v, HR1.out⟩
          case measure => simp [intOf]; omega
    · have hov := Lib.hid HRS.out
      have hd : decide ((k : Int) < (L : Int)) = false := by simp; omega
      have hd2 : ¬ (k : Int) < (L : Int) := by omega
      gi_wp2
      go_end0
      exact ⟨⟨_, rfl⟩, .inl (by have := lowsK_over hov.out (by have := HLL.out; omega) (by have := HLL.out; omega); rw [HLL.out] at this; rw [this]; exact HJ.out)⟩
end Go.Proofs.Ytmelnpimoiipgaa
