/-
  What is proved: the walk of the flywheel's turn, its deferred function included.
  Conditions: the pulses can be read.
-/
import Derived.Defers
import Derived.Deep.RegionHeld3
import Derived.IntWalk
import Derived.Test.YtobpnoiienpipaaGreatPz13
import Derived.RangeFuncNested
import Derived.RangeFuncBound
import Derived.RangeFuncCalls
import Derived.RangeFuncLeaves
import Derived.RangeFuncBox
import Derived.Shelf.Abstract
import Derived.Shelf.RegionOpen
import Derived.OwnWalkIn
import Derived.TacticsInMore
import Derived.LoopNIn
import Derived.LoopIn
import Derived.Maps.AppendAt
import Derived.Sort.QuietTacIn
import Derived.Stop.RegionWithIn
import Derived.Test.YtobpnoiienpipaaGreatPz11
import Derived.Test.YtobpnoiienpipaaGreatChunk
namespace Go.Proofs.YtobpnoiienpipaaGreat
set_option linter.unusedVariables false
open Go.RowKit
attribute [local go_sem] run_store_float run_store_complex unary_negf neg256

theorem IdxPost.int {rs : List R2} {want : Nat} {w w' : World} {e : Ending} (h : IdxPost rs want w e w') : ∃ i : Int, e = .returned (.int .i64 i) ∧ ((∃ k, ∃ h : k < rs.length, i = (k : Int) ∧ nearR rs want = some rs[k].1) ∨ (i = -1 ∧ nearR rs want = none)) ∧ Below w.heap.size w w' := by
  obtain ⟨⟨k, hk, he, hn⟩ | ⟨he, hn⟩, hb⟩ := h
  · exact ⟨_, he, .inl ⟨k, hk, rfl, hn⟩, hb⟩
  · exact ⟨_, he, .inr ⟨rfl, hn⟩, hb⟩
theorem grown_far {a w w' : World} {g h : Nat} (h1 : a.grownBy w (some g)) (h2 : w.grownBy w' (some h)) (hh : a.heap.size ≤ h) : a.grownBy w' (some g) :=
  ⟨h2.os.trans h1.os, h2.tape.trans h1.tape, h2.output.trans h1.output, Nat.le_trans h1.size h2.size, fun k hk hne => (h2.block k (Nat.lt_of_lt_of_le hk h1.size) (fun e => by have := Option.some.inj e; omega)).trans (h1.block k hk hne)⟩
/-- The place at which the line that is wanted begins, and how many lines were missed up to there. -/
def turnAt (rs : List R2) (want missed : Nat) : Nat × Nat := match nearR rs want with
  | some b => (b, 0)
  | none => (want, missed + 1)
set_option maxRecDepth 100000 in
set_option maxHeartbeats 4000000 in
theorem turn_any (pb : Nat) (v : Value) (len want missed : Nat) (rs : List R2) (W : World) (hr : LR.Row W v rs) (h : Wheel W pb v len want missed) (hne : v.ownBlock ≠ some pb) (hb : ∀ r ∈ rs, r.1 ≤ 100000000) (hw : want ≤ 100000000) (hl : rs.length ≤ 100000000) (hlen : len ≤ 100000000) (hm : missed ≤ 100000000) :
    Calls Tryz.prog 95 #[.pointer (some ⟨pb, 0, none⟩)] W fun e w' => e = .returned (.int .i64 ((turnAt rs want missed).1 : Int)) ∧ Wheel w' pb v len ((turnAt rs want missed).1 + len) (turnAt rs want missed).2 ∧ W.grownBy w' (some pb) := by
  have hmf : ∀ (fn : Fn) (first cap : Array Value) (w : World), (Instr.makeFunc fn first cap).run Tryz.prog w = .ok (.func fn first cap) w := fun _ _ _ _ => rfl
  have hB : Below W.heap.size W ((W.alloc (.cells #[.pointer (some ⟨pb, 0, none⟩)] 152)).alloc (.cells #[.int .i64 0] 3)) := ((Below.refl _ W).alloc (Nat.le_refl _) _).alloc (by simp) _
  have hsz : ((W.alloc (.cells #[.pointer (some ⟨pb, 0, none⟩)] 152)).alloc (.cells #[.int .i64 0] 3)).heap.size = W.heap.size + 2 := by simp
  have hb0 : ((W.alloc (.cells #[.pointer (some ⟨pb, 0, none⟩)] 152)).alloc (.cells #[.int .i64 0] 3)).heap[W.heap.size]? = some (.cells #[.pointer (some ⟨pb, 0, none⟩)] 152 (0, 0)) := (Below.heap_alloc _ _ _ (by simp)).trans (heap_alloc_new W _)
  have hb1 : ((W.alloc (.cells #[.pointer (some ⟨pb, 0, none⟩)] 152)).alloc (.cells #[.int .i64 0] 3)).heap[W.heap.size + 1]? = some (.cells #[.int .i64 0] 3 (0, 0)) := by
    have h2 := heap_alloc_new (W.alloc (.cells #[.pointer (some ⟨pb, 0, none⟩)] 152)) (.cells #[.int .i64 0] 3)
    rwa [World.size_alloc] at h2
  go_enter_defers Tryz.func95, Tryz.ntmps95
  go_wp2
  generalize (W.alloc (.cells #[.pointer (some ⟨pb, 0, none⟩)] 152)).alloc (.cells #[.int .i64 0] 3) = w1 at *
  have hne' : ∀ k, v.ownBlock = some k → (some pb : Option Nat) ≠ some k := fun k e e' => hne (by rw [e, e'])
  have hw1 := h.kept (grown_any none hB) (by simp)
  have hr1 := hr.far (grown_any none hB) (fun k _ => by simp)
  have k0 := cell_of_row _ _ 0 _ _ _ hb0
  have k1 := hw1.at.1
  have hpl := h.lt
  have HIX := Lib.hid (fun V (hv : Below w1.heap.size w1 V) => indexFunc_any pb v v len want missed rs V (hr1.below hv) (hw1.kept (grown_any none hv) (by simp)) (fun r hr => Nat.le_trans (hb r hr) (by decide)) (by omega) (by omega))
  have HW1 := Lib.hid hw1
  have HR1 := Lib.hid hr1
  have HB0 := Lib.hid hb0
  have HB1 := Lib.hid hb1
  have HBW := Lib.hid hB
  have hb02k := hb
  clear hw1 hr1 hb0 hb1 hB hr h hb
  go_region_held3 (fun V => V.cell? ⟨W.heap.size, 0, none⟩ = some (.pointer (some ⟨pb, 0, none⟩)) ∧ V.cell? ⟨pb, 0, none⟩ = some v) (go_keep) (first | (go_at_call 122; refine (HIX.out _ ((Below.refl _ _).drew)).mono ?_; intro e w2 hix; obtain ⟨i, rfl, hi, hb2⟩ := hix.int; have k0' := (grown_of hb2).cell (show w1.drew.cell? ⟨W.heap.size, 0, none⟩ = _ from k0) (by simp); have k1' := (grown_of hb2).cell (show w1.drew.cell? ⟨pb, 0, none⟩ = _ from k1) (by simp)) | fail)
  all_goals
    have hb02 : Below W.heap.size W w2 := (HBW.out.drew).trans (hb2.mono (by show W.heap.size ≤ w1.heap.size; omega))
    have hg2 : w1.grownBy w2 none := (grownN (World.grownBy.refl w1 none) 1).trans (grown_any none hb2)
    have hw2 := HW1.out.kept hg2 (by simp)
    have hr2 := HR1.out.far hg2 (fun k _ => by simp)
    have hx0 := (hg2.block _ (Array.getElem?_eq_some_iff.1 HB0.out).1 (by simp)).trans HB0.out
    have hx1 := (hg2.block _ (Array.getElem?_eq_some_iff.1 HB1.out).1 (by simp)).trans HB1.out
    have hH0 : W.heap.size ≠ pb := by omega
    have hH1 : W.heap.size + 1 ≠ pb := by omega
    have hsz2 : W.heap.size + 2 ≤ w2.heap.size := by have := hg2.size; omega
    clear k0 k1 HB0 HB1 HIX HW1 HR1 hb2 hg2 hix k0' k1'
    rcases hi with ⟨k, hk, rfl, hn⟩ | ⟨rfl, hn⟩
    · have HTA := Lib.hid (show turnAt rs want missed = (rs[k].1, 0) by unfold turnAt; rw [hn])
      have hbk := hb02k rs[k] (List.getElem_mem hk)
      obtain ⟨a, c, rfl, hrc⟩ := runs_any hr2
      obtain ⟨g, o, rfl, hcap, h0, _⟩ := hrc k hk
      have hgp : g ≠ pb := fun e => hne (by rw [e]; rfl)
      obtain ⟨b, hbb⟩ : ∃ b, rs[k].1 = b := ⟨_, rfl⟩
      rw [hbb] at h0 hbk HTA
      have hki : (0 : Int) ≤ (k : Int) := by omega
      have e0 := cell_of_row _ _ 0 _ _ _ hx0
      have e1 := cell_of_row _ _ 0 _ _ _ hx1
      have ez : w2.frozen? ⟨W.heap.size + 1, 0, none⟩ = false := by simp [World.frozen?, hx1]
      obtain ⟨c0, c1, c2, c3⟩ := hw2.at
      have hfz := hw2.free 3
      have hs := hw2.setMissed 0
      have hg := wheel_set w2 pb 3 (.int .i64 ((0 : Nat) : Int))
      rw [show ((0 : Nat) : Int) = 0 from rfl] at hs hg
      have d0 := hg.cell e0 (by intro e; exact hH0 (Option.some.inj e))
      have d1 := hg.cell e1 (by intro e; exact hH1 (Option.some.inj e))
      have d2 := hs.at.1
      have d4 := hg.cell h0 (by intro e; exact hgp (Option.some.inj e))
      have h5 := (hg.block _ (Array.getElem?_eq_some_iff.1 hx1).1 (by intro e; exact hH1 (Option.some.inj e))).trans hx1
      have H5 := Lib.hid h5
      have dz : (w2.setCell ⟨pb, 3, none⟩ (.int .i64 0)).frozen? ⟨W.heap.size + 1, 0, none⟩ = false := by
        simp [World.frozen?, h5]
      have HS := Lib.hid hs
      have HG := Lib.hid hg
      clear hs hg hw2 hr2 hx0 hx1 hn h5 hrc hbb h0
      have hg4 := wheel_set (w2.setCell ⟨pb, 3, none⟩ (.int .i64 0)) (W.heap.size + 1) 0 (.int .i64 (b : Int))
      have hW4 := HS.out.kept hg4 (by intro e; exact hH1 (Option.some.inj e).symm)
      have hB4 := hg4.cell d0 (by intro e; have := Option.some.inj e; simp at this)
      have h6 := heap_put (i := 0) (v := .int .i64 (b : Int)) H5.out
      have hP4 := cell_of_row _ _ 0 _ _ _ h6
      have hG4 := grown_far ((grown_any (some pb) hb02).trans HG.out) hg4 (Nat.le_succ _)
      simp at hP4
      go_wp2
      generalize (w2.setCell ⟨pb, 3, none⟩ (.int .i64 0)).setCell ⟨W.heap.size + 1, 0, none⟩ (.int .i64 (b : Int)) = w4 at *
      refine leaves_cons (f := 121) (args := #[.pointer (some ⟨W.heap.size + 1, 0, none⟩), .pointer (some ⟨W.heap.size, 0, none⟩)]) (by simp) (by simp [go_sem]) ?_
      refine (turn1_d (W.heap.size + 1) W.heap.size pb _ len want 0 b .returning w4 hP4 hB4 hW4 (by omega) (by omega) hH1 hH0).mono ?_
      rintro e u' w5 ⟨rfl, rfl, hW5, hG5⟩
      have hres := hG5.cell hP4 (by intro e; exact hH1 (Option.some.inj e))
      have HFIN := Lib.hid (And.intro hW5 (hG4.trans hG5))
      clear hW5 hG5 hG4 hP4 hB4 hW4 hg4 h6
      simp [Leaves, settle, results, Tryz.results95, go_sem, hres]
      rw [HTA.out]
      exact ⟨rfl, HFIN.out.1, HFIN.out.2⟩
    · have HTA := Lib.hid (show turnAt rs want missed = (want, missed + 1) by unfold turnAt; rw [hn])
      have hwr : IntKind.i64.wrap ((missed : Int) + 1) = (missed : Int) + 1 := by rw [IntWalk.i64_in _ (by omega)]
      have hct : ((missed + 1 : Nat) : Int) = (missed : Int) + 1 := rfl
      have e0 := cell_of_row _ _ 0 _ _ _ hx0
      have e1 := cell_of_row _ _ 0 _ _ _ hx1
      have ez : w2.frozen? ⟨W.heap.size + 1, 0, none⟩ = false := by simp [World.frozen?, hx1]
      obtain ⟨c0, c1, c2, c3⟩ := hw2.at
      have hfz := hw2.free 3
      have hs := hw2.setMissed (missed + 1)
      have hg := wheel_set w2 pb 3 (.int .i64 ((missed + 1 : Nat) : Int))
      rw [hct] at hs hg
      have d0 := hg.cell e0 (by intro e; exact hH0 (Option.some.inj e))
      have d1 := hg.cell e1 (by intro e; exact hH1 (Option.some.inj e))
      have d2 := hs.at.2.2.1
      have h5 := (hg.block _ (Array.getElem?_eq_some_iff.1 hx1).1 (by intro e; exact hH1 (Option.some.inj e))).trans hx1
      have H5 := Lib.hid h5
      have dz : (w2.setCell ⟨pb, 3, none⟩ (.int .i64 ((missed : Int) + 1))).frozen? ⟨W.heap.size + 1, 0, none⟩ = false := by
        simp [World.frozen?, h5]
      have HS := Lib.hid hs
      have HG := Lib.hid hg
      clear hs hg hw2 hr2 hx0 hx1 hn h5
      have hg4 := wheel_set (w2.setCell ⟨pb, 3, none⟩ (.int .i64 ((missed : Int) + 1))) (W.heap.size + 1) 0 (.int .i64 (want : Int))
      have hW4 := HS.out.kept hg4 (by intro e; exact hH1 (Option.some.inj e).symm)
      have hB4 := hg4.cell d0 (by intro e; have := Option.some.inj e; simp at this)
      have h6 := heap_put (i := 0) (v := .int .i64 (want : Int)) H5.out
      have hP4 := cell_of_row _ _ 0 _ _ _ h6
      have hG4 := grown_far ((grown_any (some pb) hb02).trans HG.out) hg4 (Nat.le_succ _)
      simp at hP4
      go_wp2
      generalize (w2.setCell ⟨pb, 3, none⟩ (.int .i64 ((missed : Int) + 1))).setCell ⟨W.heap.size + 1, 0, none⟩ (.int .i64 (want : Int)) = w4 at *
      refine leaves_cons (f := 121) (args := #[.pointer (some ⟨W.heap.size + 1, 0, none⟩), .pointer (some ⟨W.heap.size, 0, none⟩)]) (by simp) (by simp [go_sem]) ?_
      refine (turn1_d (W.heap.size + 1) W.heap.size pb v len want (missed + 1) want .returning w4 hP4 hB4 hW4 (by omega) (by omega) hH1 hH0).mono ?_
      rintro e u' w5 ⟨rfl, rfl, hW5, hG5⟩
      have hres := hG5.cell hP4 (by intro e; exact hH1 (Option.some.inj e))
      have HFIN := Lib.hid (And.intro hW5 (hG4.trans hG5))
      clear hW5 hG5 hG4 hP4 hB4 hW4 hg4 h6
      simp [Leaves, settle, results, Tryz.results95, go_sem, hres]
      rw [HTA.out]
      exact ⟨rfl, HFIN.out.1, HFIN.out.2⟩
end Go.Proofs.YtobpnoiienpipaaGreat

/-
  What is proved: the walk of the iterator over the runs of low samples.
  Conditions: the stream can be read.
-/
namespace Go.Proofs.YtobpnoiienpipaaGreat
set_option linter.unusedVariables false
open Go.RowKit Go.Shelf
attribute [local go_sem] run_store_float run_store_complex unary_negf neg256 Oper.semAt_some

/-- The first n of these samples are low, and the next one is not. -/
structure LowRun (zs : List Nat) (s n : Nat) : Prop where
  le : n ≤ zs.length
  yes : ∀ j (h : j < zs.length), j < n → leb zs[j] s = true
  no : ∀ h : n < zs.length, leb zs[n] s = false
set_option maxHeartbeats 1000000 in
theorem lowSamples_any (v : Value) (zs : List Nat) (s : Nat) (w : World) (h : FRow w v zs) (hl : zs.length ≤ 4000000) :
    Calls Tryz.prog 145 #[v, .float .f32 s] w fun e w' => ∃ n, LowRun zs s n ∧ e = .returned (.int .i64 (n : Int)) ∧ w = w' := by
  obtain ⟨a, c, rfl, hc⟩ := h.any
  have HC := Lib.hid hc
  clear hc h
  go_enter Tryz.func145, Tryz.ntmps145
  go_wp2
  go_loopw [9] (fun i wr => ∃ k : Nat, k ≤ zs.length ∧ i = .int .i64 (k : Int) ∧ (∀ j (h : j < zs.length), j < k → leb zs[j] s = true) ∧ wr = w) (fun i _ => zs.length - (intOf i).toNat)
  case atStart => exact ⟨0, Nat.zero_le _, rfl, fun j h hj => absurd hj (by omega), rfl⟩
  case round =>
    obtain ⟨k, hk, rfl, hlow, rfl⟩ := hrel
    have HL := Lib.hid hlow
    clear hlow
    by_cases hlt : k < zs.length
    · obtain ⟨g, o, rfl, hcap, hcell⟩ := HC.out k hlt
      obtain ⟨z, hz⟩ : ∃ z, zs[k] = z := ⟨_, rfl⟩
      rw [hz] at hcell
      have HZ := Lib.hid hz
      clear hz
      cases hq : leb z s with
      | true =>
        have HQ := Lib.hid hq
        have hq' : (FloatKind.f32.format.order z s == some .lt || FloatKind.f32.format.order z s == some .eq) = true := hq
        clear hq
        go_wp2
        go_roundw
        case rel =>
          refine ⟨k + 1, by omega, by go_num, fun j h hj => ?_, by trivial⟩
          by_cases e : j = k
          · subst e; rw [HZ.out]; exact HQ.out
          · exact HL.out j h (by omega)
        case measure => simp [intOf]; omega
      | false =>
        have HQ := Lib.hid hq
        have hq' : (FloatKind.f32.format.order z s == some .lt || FloatKind.f32.format.order z s == some .eq) = false := hq
        clear hq
        go_wp2
        go_ret
        exact ⟨k, ⟨hk, HL.out, fun h => by rw [HZ.out]; exact HQ.out⟩, rfl, rfl⟩
    · have hkk : k = zs.length := by omega
      subst hkk
      go_wp2
      go_ret
      exact ⟨zs.length, ⟨Nat.le_refl _, HL.out, fun h => absurd h (by omega)⟩, rfl, rfl⟩
theorem LowRun.at {xs : List Nat} {s k n : Nat} (h : LowRun (xs.drop k) s n) : (∀ j, j < n → low xs s (k + j) = true) ∧ low xs s (k + n) = false := by
  have hl := h.le
  rw [List.length_drop] at hl
  refine ⟨fun j hj => ?_, ?_⟩
  · have := h.yes j (by rw [List.length_drop]; omega) hj
    rw [List.getElem_drop] at this
    unfold low
    rw [List.getD_eq_getElem?_getD, List.getElem?_eq_getElem (show k + j < xs.length by omega)]
    simp [this]
    omega
  · unfold low
    by_cases hn : k + n < xs.length
    · have := h.no (by rw [List.length_drop]; omega)
      rw [List.getElem_drop] at this
      rw [List.getD_eq_getElem?_getD, List.getElem?_eq_getElem hn]
      simp [this]
    · simp [hn]
theorem lowsK_steps {xs : List Nat} {s k : Nat} {rs : List R2} (h0 : lowsK xs s k = (rs, 0)) : ∀ n, (∀ j, j < n → low xs s (k + j) = true) → lowsK xs s (k + n) = (rs, n)
  | 0, _ => h0
  | n + 1, h => by
    have := lowsK_steps h0 n (fun j hj => h j (by omega))
    rw [← Nat.add_assoc, lowsK_low (h n (by omega)), this]
theorem lowsK_run {xs : List Nat} {s k n : Nat} {rs : List R2} (h0 : lowsK xs s k = (rs, 0)) (h : LowRun (xs.drop k) s n) : lowsK xs s (k + n + 1) = (if 5 ≤ n then rs ++ [(k, n)] else rs, 0) := by
  have h1 := lowsK_steps h0 n h.at.1
  by_cases h5 : 5 ≤ n
  · rw [lowsK_cut h.at.2 (by rw [h1]; exact h5), h1, if_pos h5]
    simp
  · rw [lowsK_none h.at.2 (by rw [h1]; exact h5), h1, if_neg h5]
theorem lowsK_over {xs : List Nat} {s k : Nat} {rs : List R2} (h0 : lowsK xs s k = (rs, 0)) (hk : xs.length ≤ k) (hk1 : k ≤ xs.length + 1) : (lowsK xs s (xs.length + 1)).1 = rs := by
  by_cases e : k = xs.length + 1
  · rw [← e, h0]
  · have e' : k = xs.length := by omega
    rw [← e', lowsK_none (by unfold low; simp; omega) (by rw [h0]; simp), h0]
theorem FRow.from {w : World} {xs : List Nat} {g o n cap : Nat} (h : FRow w (.slice (some ⟨g, o, none⟩) n cap) xs) (hn : xs.length = n) (k : Nat) (hk : k < n) : FRow w (.slice (some ⟨g, o + k, none⟩) (n - k) (cap - k)) (xs.drop k) := by
  rcases h with ⟨⟨a, c, e⟩, h1⟩ | ⟨g', o', cap', e, hcap, hcell⟩
  · subst h1; simp at hn; omega
  · cases e
    refine .inr ⟨g, o + k, cap - k, by rw [List.length_drop], by rw [List.length_drop]; omega, fun i hi => ?_⟩
    rw [List.length_drop] at hi
    rw [List.getElem_drop, Nat.add_assoc]
    exact hcell (k + i) (by omega)
/-- Block Bb holds a slice of runs whose own block, if it has one, lies from lo on. -/
structure BoxIn (lo : Nat) (W : World) (Bb : Nat) (v : Value) : Prop where
  box : Boxed W Bb 103 v
  size : lo ≤ W.heap.size
  own : ∀ k, v.ownBlock = some k → lo ≤ k ∧ k < W.heap.size
/-- What a round of the loop over the runs keeps: all but the box and the block of the slice in it. -/
structure KeepR (lo Bb : Nat) (A B : World) : Prop where
  below : Below lo A B
  row : ∀ v, BoxIn lo A Bb v → (∃ v', BoxIn lo B Bb v' ∧ (v'.ownBlock = v.ownBlock ∨ ∀ k, v'.ownBlock = some k → A.heap.size ≤ k)) ∧
    ∀ (b : Nat) (o : Obj), A.heap[b]? = some o → o.isCells = true → b ≠ Bb → v.ownBlock ≠ some b → B.heap[b]? = some o
theorem KeepR.trans {lo Bb : Nat} {A B C : World} (h : KeepR lo Bb A B) (k : KeepR lo Bb B C) : KeepR lo Bb A C := by
  refine ⟨h.below.trans k.below, fun v hv => ?_⟩
  obtain ⟨⟨v1, hr1, ho1⟩, hc1⟩ := h.row v hv
  obtain ⟨⟨v2, hr2, ho2⟩, hc2⟩ := k.row v1 hr1
  refine ⟨⟨v2, hr2, ?_⟩, fun b o hb hc hne hno => hc2 b o (hc1 b o hb hc hne hno) hc hne (fun e => ?_)⟩
  · rcases ho2 with e2 | g2
    · rcases ho1 with e1 | g1
      · exact .inl (e2.trans e1)
      · exact .inr (fun j hj => g1 j (e2.symm.trans hj))
    · exact .inr (fun j hj => Nat.le_trans h.below.size (g2 j hj))
  · rcases ho1 with e1 | g1
    · exact hno (e1.symm.trans e)
    · have := g1 b e
      have := (Array.getElem?_eq_some_iff.1 hb).1
      omega
theorem KeepR.put {lo Bb : Nat} {w : World} (hlo : lo ≤ w.heap.size) (W : World) (l : Nat) (o o' : Obj) (hl : w.heap.size ≤ l) (h : W.heap[l]? = some o) (hc : o.isCells = false) (hw : o.isWalk = false) : KeepR lo Bb W (W.putObj l o') := by
  refine ⟨belowK_b hlo W l o o' hl h hc hw, fun v hv => ⟨⟨v, ⟨?_, ?_, ?_⟩, .inl rfl⟩, fun b o2 hb hc2 _ _ => ?_⟩⟩
  · refine (World.putObj_heap_other (fun e => ?_)).trans hv.box
    have hb := hv.box
    unfold Boxed at hb
    subst e
    rw [h] at hb
    cases hb
    cases hc
  · exact Nat.le_trans hv.size (grownBy_putObj' W l o').size
  · exact fun k e => ⟨(hv.own k e).1, Nat.lt_of_lt_of_le (hv.own k e).2 (grownBy_putObj' W l o').size⟩
  · refine (World.putObj_heap_other (fun e => ?_)).trans hb
    subst e
    rw [h] at hb
    cases hb
    rw [hc] at hc2
    cases hc2
theorem BoxIn.grown {lo Bb : Nat} {A B : World} {v : Value} (h : BoxIn lo A Bb v) (hg : A.grownBy B none) : BoxIn lo B Bb v :=
  ⟨h.box.kept hg (by simp), Nat.le_trans h.size hg.size, fun k e => ⟨(h.own k e).1, Nat.lt_of_lt_of_le (h.own k e).2 hg.size⟩⟩
theorem KeepR.grown {lo Bb : Nat} {A B : World} (hlo : lo ≤ A.heap.size) (hg : A.grownBy B none) : KeepR lo Bb A B :=
  ⟨(Below.refl lo A).grown hg hlo (fun k e => by cases e), fun v hv => ⟨⟨v, hv.grown hg, .inl rfl⟩, fun b o hb _ _ _ => (hg.block b (Array.getElem?_eq_some_iff.1 hb).1 (by simp)).trans hb⟩⟩
/-- A run as the iterator hands it out. -/
def runV (x : R2) : Value := .agg #[.int .i64 (x.1 : Int), .int .i64 (x.2 : Int)]
set_option maxRecDepth 100000 in
set_option maxHeartbeats 8000000 in
theorem lowRuns1_in (n : Nat) (hn : 1 ≤ n) (w0 : World) (l Bs Bn Bb : Nat) (ad : Option Addr) (cap L : Nat) (xs : List Nat) (s : Nat) (hx : FRow w0 (.slice ad L cap) xs) (hL : xs.length = L) (hl : L ≤ 20000) (J Jx : List R2 → World → Prop) (B : Nat) (hJ : AbidesFrom B J)
    (hY : ∀ pre (x : R2) W, J pre W → pre.length < L + 1 → YieldAt Fence.wide (n - 1) Tryz.prog l #[runV x] W fun e W' =>
      (e = .returned (.bool true) ∧ J (pre ++ [x]) W' ∧ KeepR w0.heap.size Bb W W') ∨ (e = .returned (.bool false) ∧ Jx (pre ++ [x]) W'))
    (W : World) (hW : Below w0.heap.size w0 W) (v0 : Value) (hR0 : BoxIn w0.heap.size W Bb v0) (hBs : w0.cell? ⟨Bs, 0, none⟩ = some (.slice ad L cap)) (hBn : w0.cell? ⟨Bn, 0, none⟩ = some (.float .f32 s)) (h0 : J [] W) :
    CallsIn Fence.wide n Tryz.prog 144 #[.func (.yield l) #[] #[], .pointer (some ⟨Bs, 0, none⟩), .pointer (some ⟨Bn, 0, none⟩)] W fun e W' => (∃ v, e = .returned v) ∧
      ((∃ ys, ys = (lowsK xs s (L + 1)).1 ∧ J ys W') ∨ (∃ pre : List R2, True ∧ Jx pre W')) := by
  have hbls := World.block_lt_of_cell? w0 _ hBs
  have hbln := World.block_lt_of_cell? w0 _ hBn
  have HX := Lib.hid hx
  have HLL := Lib.hid hL
  clear hx hL
  refine callsIn_of_wp Tryz.func144 rfl trivial ?_ rfl
  simp only [Tryz.ntmps144, List.size_toArray, List.length_cons, List.length_nil, Nat.reduceAdd, Nat.reduceSub, Array.replicate_succ, Array.replicate_zero, List.push_toArray, List.append_toArray, List.nil_append, List.cons_append]
  gi_wp2
  gi_loopw [4] (fun i wr => ∃ (k : Nat) (rs : List R2), k ≤ L + 1 ∧ i = .int .i64 (k : Int) ∧ lowsK xs s k = (rs, 0) ∧ J rs wr ∧ Below w0.heap.size w0 wr ∧ ∃ v, BoxIn w0.heap.size wr Bb v) (fun i _ => L + 2 - (intOf i).toNat)
  case atStart => exact ⟨0, [], Nat.zero_le _, rfl, rfl, h0, hW, v0, hR0⟩
  case round =>
    obtain ⟨k, rs, hk, rfl, hrs, hJs, hb, v, hri⟩ := hrel
    have hbs := (World.cell?_of_block (a := ⟨Bs, 0, none⟩) (hb.block Bs hbls)).trans hBs
    have hbn := (World.cell?_of_block (a := ⟨Bn, 0, none⟩) (hb.block Bn hbln)).trans hBn
    have HJ := Lib.hid hJs
    have HRS := Lib.hid hrs
    have HB := Lib.hid hb
    have HRI := Lib.hid hri
    have hle := Lib.hid (lowsK_le xs s k)
    clear hJs hrs hri
    by_cases hlt : k < L
    · obtain ⟨g, o, rfl, hcap⟩ : ∃ g o, ad = some ⟨g, o, none⟩ ∧ L ≤ cap := by
        rcases HX.out with ⟨⟨a, c, e⟩, h1⟩ | ⟨g', o', cap', e, hcap, _⟩
        · have := HLL.out; subst h1; simp at this; omega
        · have hll := HLL.out; cases e; exact ⟨g', o', rfl, hcap⟩
      have hkc : k < cap := by omega
      have HCL := Lib.hid (fun (V : World) (hv : Below w0.heap.size w0 V) => (lowSamples_any (.slice (some ⟨g, o + k, none⟩) (L - k) (cap - k)) (xs.drop k) s V (FRow.from (HX.out.below hv) HLL.out k hlt) (by rw [List.length_drop]; have := HLL.out; omega)))
      have hlen : rs.length < L + 1 := by have h1 := hle.out.2; rw [HRS.out] at h1; simp at h1; omega
      clear hb hbls hbln
      have hi1 : (0 : Int) ≤ (k : Int) := by omega
      have hi2 : (k : Int) ≤ (L : Int) := by omega
      have hi3 : (L : Int) ≤ (cap : Int) := by omega
      have hi4 : k ≤ L := by omega
      have hi5 : ¬ cap - k = 0 := by omega
      have hi6 : ¬ cap = k := by omega
      have hn1 := World.new_ne wr ⟨Bs, 0, none⟩ hbs
      have hn2 := World.new_ne wr ⟨Bn, 0, none⟩ hbn
      gi_wp2
      refine wpIn_wide.2 ?_
      go_region_held3 (fun W => W.cell? ⟨Bs, 0, none⟩ = some (.slice (some ⟨g, o, none⟩) L cap) ∧ W.cell? ⟨Bn, 0, none⟩ = some (.float .f32 s)) (go_keep) (first | (go_at_call 145; refine (HCL.out _ (by first | exact HB.out.drew | exact HB.out.drew.alloc HB.out.size _)).mono ?_; rintro e W1 ⟨m, hm, rfl, rfl⟩; have HM := Lib.hid hm; clear hm) | fail)
      all_goals
        have hml : m + k ≤ L := by have h1 := HM.out.le; rw [List.length_drop, HLL.out] at h1; omega
        have hg1 : wr.grownBy (wr.alloc (.cells #[.int .i64 (k : Int), .int .i64 (m : Int)] 106)).drew none := grownN (World.grownBy_alloc wr _ none) 1
        have HJ1 := Lib.hid (hJ rs wr _ none HJ.out hg1 (fun r e => by cases e))
        have HR1 := Lib.hid (HRI.out.grown hg1)
        have HB1 := Lib.hid ((HB.out.alloc HB.out.size (.cells #[.int .i64 (k : Int), .int .i64 (m : Int)] 106)).drew)
        have hblk : (wr.alloc (.cells #[.int .i64 (k : Int), .int .i64 (m : Int)] 106)).drew.heap[wr.heap.size]? = some (.cells #[.int .i64 (k : Int), .int .i64 (m : Int)] 106 (0, 0)) := heap_alloc_new wr _
        have HBL := Lib.hid hblk
        have hc0 := cell_of_row _ _ 0 _ _ _ hblk
        have hc1 := cell_of_row _ _ 1 _ _ _ hblk
        clear hg1 hblk hn1 hn2 hbs hbn
        generalize hW1 : (wr.alloc (.cells #[.int .i64 (k : Int), .int .i64 (m : Int)] 106)).drew = W1 at *
        clear hW1
        have hw1 : IntKind.i64.wrap ((k : Int) + (m : Int)) = ((k + m : Nat) : Int) := by rw [IntWalk.i64_in _ (by omega)]; omega
        have HRUN := Lib.hid (lowsK_run HRS.out HM.out)
        by_cases h5 : 5 ≤ m
        · have h5i : (5 : Int) ≤ (m : Int) := by omega
          obtain ⟨fn, tmps, assign, body, hy, hR⟩ := hY rs (k, m) W1 HJ1.out hlen
          have HR := Lib.hid hR
          unfold runV at hy
          simp only at hy
          clear hR hw1
          gi_wp2
          refine HR.out.mono ?_
          rintro e W3 (⟨rfl, hJ3, hk3⟩ | ⟨rfl, hJx3⟩)
          · obtain ⟨⟨v3, hr3, _⟩, hc3⟩ := hk3.row v HR1.out
            have hb3 := hc3 wr.heap.size _ HBL.out rfl (by have := HRI.out.box.lt; omega) (fun e => by have := (HRI.out.own _ e).2; omega)
            have hd0 := cell_of_row _ _ 0 _ _ _ hb3
            have hd1 := cell_of_row _ _ 1 _ _ _ hb3
            have HR3 := Lib.hid hr3
            have HB3 := Lib.hid (HB1.out.trans hk3.below)
            have hw1 : IntKind.i64.wrap ((k : Int) + (m : Int)) = ((k + m : Nat) : Int) := by rw [IntWalk.i64_in _ (by omega)]; omega
            have HJ3 := Lib.hid hJ3
            clear hr3 hc3 hk3 hb3 hc0 hc1 hJ3
            gi_wp2
            go_roundw
            case rel => exact ⟨k + m + 1, rs ++ [(k, m)], by omega, by go_num, by rw [HRUN.out, if_pos h5], HJ3.out, HB3.out, v3, HR3.out⟩
            case measure => simp [intOf]; omega
          · gi_wp2
            refine bodyPost_ret (results_none rfl _ _ _) rfl ?_
            exact ⟨⟨_, rfl⟩, .inr ⟨_, trivial, hJx3⟩⟩
        · have h5i : ¬ (5 : Int) ≤ (m : Int) := by omega
          gi_wp2
          refine ⟨fun f h => (by cases h), ?_⟩
          gi_wp2
          go_roundw
          case rel => exact ⟨k + m + 1, rs, by omega, by go_num, by rw [HRUN.out, if_neg h5], HJ1.out, HB1.out, v, HR1.out⟩
          case measure => simp [intOf]; omega
    · have hov := Lib.hid HRS.out
      have hd : decide ((k : Int) < (L : Int)) = false := by simp; omega
      have hd2 : ¬ (k : Int) < (L : Int) := by omega
      gi_wp2
      go_end0
      exact ⟨⟨_, rfl⟩, .inl (by have := lowsK_over hov.out (by have := HLL.out; omega) (by have := HLL.out; omega); rw [HLL.out] at this; rw [this]; exact HJ.out)⟩
end Go.Proofs.YtobpnoiienpipaaGreat
