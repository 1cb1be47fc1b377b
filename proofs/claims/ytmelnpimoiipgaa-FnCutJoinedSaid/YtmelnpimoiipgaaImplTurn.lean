/-
  What is proved: the walk of the flywheel's turn, its deferred function included.
  Conditions: the pulses can be read.
-/
import Derived.Defers
import Derived.Deep.RegionHeld3
import Derived.IntWalk
import Derived.Test.YtmelnpimoiipgaaFlywheel
import Derived.Test.YtmelnpimoiipgaaPkMake
namespace Go.Proofs.Ytmelnpimoiipgaa
set_option linter.unusedVariables false
open Go.RowKit
attribute [local go_sem] run_store_float run_store_complex unary_negf neg256

theorem IdxPost.int {rs : List R2} {want : Nat} {w w' : World} {e : Ending} (h : IdxPost rs want w e w') : ∃ i : Int, e = .returned (.int .i64 i) ∧ ((∃ k, ∃ h : k < rs.length, i = (k : Int) ∧ nearR rs want = some rs[k].1) ∨ (i = -1 ∧ nearR rs want = none)) ∧ Below w.heap.size w w' := by
  obtain ⟨⟨k, hk, he, hn⟩ | ⟨he, hn⟩, hb⟩ := h
  · exact ⟨_, he, .inl ⟨k, hk, rfl, hn⟩, hb⟩
  · exact ⟨_, he, .inr ⟨rfl, hn⟩, hb⟩
theorem grown_far {a w w' : World} {g h : Nat} (h1 : a.grownBy w (some g)) (h2 : w.grownBy w' (some h)) (hh : a.heap.size ≤ h) : a.grownBy w' (some g) :=
  ⟨h2.os.trans h1.os, h2.tape.trans h1.tape, h2.output.trans h1.output, Nat.le_trans h1.size h2.size, fun k hk hne => (h2.block k (Nat.lt_of_lt_of_le hk h1.size) (fun e => by have := Option.some.inj e; omega)).trans (h1.block k hk hne)⟩
/-- The place at which the line that is wanted begins, and how many lines were missed up to there. -/
def turnAt (rs : List R2) (want missed : Nat) : Nat × Nat := match nearR rs want with
  | some b => (b, 0)
  | none => (want, missed + 1)
set_option maxRecDepth 100000 in
set_option maxHeartbeats 4000000 in
theorem turn_any (pb : Nat) (v : Value) (len want missed : Nat) (rs : List R2) (W : World) (hr : LR.Row W v rs) (h : Wheel W pb v len want missed) (hne : v.ownBlock ≠ some pb) (hb : ∀ r ∈ rs, r.1 ≤ 100000000) (hw : want ≤ 100000000) (hl : rs.length ≤ 100000000) (hlen : len ≤ 100000000) (hm : missed ≤ 100000000) :
    Calls Try.prog 66 #[.pointer (some ⟨pb, 0, none⟩)] W fun e w' => e = .returned (.int .i64 ((turnAt rs want missed).1 : Int)) ∧ Wheel w' pb v len ((turnAt rs want missed).1 + len) (turnAt rs want missed).2 ∧ W.grownBy w' (some pb) := by
  have hmf : ∀ (fn : Fn) (first cap : Array Value) (w : World), (Instr.makeFunc fn first cap).run Try.prog w = .ok (.func fn first cap) w := fun _ _ _ _ => rfl
  have hB : Below W.heap.size W ((W.alloc (.cells #[.pointer (some ⟨pb, 0, none⟩)] 117)).alloc (.cells #[.int .i64 0] 3)) := ((Below.refl _ W).alloc (Nat.le_refl _) _).alloc (by simp) _
  have hsz : ((W.alloc (.cells #[.pointer (some ⟨pb, 0, none⟩)] 117)).alloc (.cells #[.int .i64 0] 3)).heap.size = W.heap.size + 2 := by simp
  have hb0 : ((W.alloc (.cells #[.pointer (some ⟨pb, 0, none⟩)] 117)).alloc (.cells #[.int .i64 0] 3)).heap[W.heap.size]? = some (.cells #[.pointer (some ⟨pb, 0, none⟩)] 117 (0, 0)) := (Below.heap_alloc _ _ _ (by simp)).trans (heap_alloc_new W _)
  have hb1 : ((W.alloc (.cells #[.pointer (some ⟨pb, 0, none⟩)] 117)).alloc (.cells #[.int .i64 0] 3)).heap[W.heap.size + 1]? = some (.cells #[.int .i64 0] 3 (0, 0)) := by
    have h2 := heap_alloc_new (W.alloc (.cells #[.pointer (some ⟨pb, 0, none⟩)] 117)) (.cells #[.int .i64 0] 3)
    rwa [World.size_alloc] at h2
  go_enter_defers Try.func66, Try.ntmps66
  go_wp2
  generalize (W.alloc (.cells #[.pointer (some ⟨pb, 0, none⟩)] 117)).alloc (.cells #[.int .i64 0] 3) = w1 at *
  have hne' : ∀ k, v.ownBlock = some k → (some pb : Option Nat) ≠ some k := fun k e e' => hne (by rw [e, e'])
  have hw1 := h.kept (grown_any none hB) (by simp)
  have hr1 := hr.far (grown_any none hB) (fun k _ => by simp)
  have k0 := cell_of_row _ _ 0 _ _ _ hb0
  have k1 := hw1.at.1
  have hpl := h.lt
  have HIX := Lib.hid (fun V (hv : Below w1.heap.size w1 V) => indexFunc_any pb v v len want missed rs V (hr1.below hv) (hw1.kept (grown_any none hv) (by simp)) (fun r hr => Nat.le_trans (hb r hr) (by decide)) (by omega) (by omega))
  have HW1 := Lib.hid hw1
  have HR1 := Lib.hid hr1
  have HB0 := Lib.hid hb0
  have HB1 := Lib.hid hb1
  have HBW := Lib.hid hB
  have hb02k := hb
  clear hw1 hr1 hb0 hb1 hB hr h hb
  go_region_held3 (fun V => V.cell? ⟨W.heap.size, 0, none⟩ = some (.pointer (some ⟨pb, 0, none⟩)) ∧ V.cell? ⟨pb, 0, none⟩ = some v) (go_keep) (first | (go_at_call 97; refine (HIX.out _ ((Below.refl _ _).drew)).mono ?_; intro e w2 hix; obtain ⟨i, rfl, hi, hb2⟩ := hix.int; have k0' := (grown_of hb2).cell (show w1.drew.cell? ⟨W.heap.size, 0, none⟩ = _ from k0) (by simp); have k1' := (grown_of hb2).cell (show w1.drew.cell? ⟨pb, 0, none⟩ = _ from k1) (by simp)) | fail)
  all_goals
    have hb02 : Below W.heap.size W w2 := (HBW.out.drew).trans (hb2.mono (by show W.heap.size ≤ w1.heap.size; omega))
    have hg2 : w1.grownBy w2 none := (grownN (World.grownBy.refl w1 none) 1).trans (grown_any none hb2)
    have hw2 := HW1.out.kept hg2 (by simp)
    have hr2 := HR1.out.far hg2 (fun k _ => by simp)
    have hx0 := (hg2.block _ (Array.getElem?_eq_some_iff.1 HB0.out).1 (by simp)).trans HB0.out
    have hx1 := (hg2.block _ (Array.getElem?_eq_some_iff.1 HB1.out).1 (by simp)).trans HB1.out
    have hH0 : W.heap.size ≠ pb := by omega
    have hH1 : W.heap.size + 1 ≠ pb := by omega
    have hsz2 : W.heap.size + 2 ≤ w2.heap.size := by have := hg2.size; omega
    clear k0 k1 HB0 HB1 HIX HW1 HR1 hb2 hg2 hix k0' k1'
    rcases hi with ⟨k, hk, rfl, hn⟩ | ⟨rfl, hn⟩
    · have HTA := Lib.hid (show turnAt rs want missed = (rs[k].1, 0) by unfold turnAt; rw [hn])
      have hbk := hb02k rs[k] (List.getElem_mem hk)
      obtain ⟨a, c, rfl, hrc⟩ := runs_any hr2
      obtain ⟨g, o, rfl, hcap, h0, _⟩ := hrc k hk
      have hgp : g ≠ pb := fun e => hne (by rw [e]; rfl)
      obtain ⟨b, hbb⟩ : ∃ b, rs[k].1 = b := ⟨_, rfl⟩
      rw [hbb] at h0 hbk HTA
      have hki : (0 : Int) ≤ (k : Int) := by omega
      have e0 := cell_of_row _ _ 0 _ _ _ hx0
      have e1 := cell_of_row _ _ 0 _ _ _ hx1
      have ez : w2.frozen? ⟨W.heap.size + 1, 0, none⟩ = false := by simp [World.frozen?, hx1]
      obtain ⟨c0, c1, c2, c3⟩ := hw2.at
      have hfz := hw2.free 3
      have hs := hw2.setMissed 0
      have hg := wheel_set w2 pb 3 (.int .i64 ((0 : Nat) : Int))
      rw [show ((0 : Nat) : Int) = 0 from rfl] at hs hg
      have d0 := hg.cell e0 (by intro e; exact hH0 (Option.some.inj e))
      have d1 := hg.cell e1 (by intro e; exact hH1 (Option.some.inj e))
      have d2 := hs.at.1
      have d4 := hg.cell h0 (by intro e; exact hgp (Option.some.inj e))
      have h5 := (hg.block _ (Array.getElem?_eq_some_iff.1 hx1).1 (by intro e; exact hH1 (Option.some.inj e))).trans hx1
      have H5 := Lib.hid h5
      have dz : (w2.setCell ⟨pb, 3, none⟩ (.int .i64 0)).frozen? ⟨W.heap.size + 1, 0, none⟩ = false := by
        simp [World.frozen?, h5]
      have HS := Lib.hid hs
      have HG := Lib.hid hg
      clear hs hg hw2 hr2 hx0 hx1 hn h5 hrc hbb h0
      have hg4 := wheel_set (w2.setCell ⟨pb, 3, none⟩ (.int .i64 0)) (W.heap.size + 1) 0 (.int .i64 (b : Int))
      have hW4 := HS.out.kept hg4 (by intro e; exact hH1 (Option.some.inj e).symm)
      have hB4 := hg4.cell d0 (by intro e; have := Option.some.inj e; simp at this)
      have h6 := heap_put (i := 0) (v := .int .i64 (b : Int)) H5.out
      have hP4 := cell_of_row _ _ 0 _ _ _ h6
      have hG4 := grown_far ((grown_any (some pb) hb02).trans HG.out) hg4 (Nat.le_succ _)
      simp at hP4
      go_wp2
      generalize (w2.setCell ⟨pb, 3, none⟩ (.int .i64 0)).setCell ⟨W.heap.size + 1, 0, none⟩ (.int .i64 (b : Int)) = w4 at *
      refine leaves_cons (f := 96) (args := #[.pointer (some ⟨W.heap.size + 1, 0, none⟩), .pointer (some ⟨W.heap.size, 0, none⟩)]) (by simp) (by simp [go_sem]) ?_
      refine (turn1_d (W.heap.size + 1) W.heap.size pb _ len want 0 b .returning w4 hP4 hB4 hW4 (by omega) (by omega) hH1 hH0).mono ?_
      rintro e u' w5 ⟨rfl, rfl, hW5, hG5⟩
      have hres := hG5.cell hP4 (by intro e; exact hH1 (Option.some.inj e))
      have HFIN := Lib.hid (And.intro hW5 (hG4.trans hG5))
      clear hW5 hG5 hG4 hP4 hB4 hW4 hg4 h6
      simp [Leaves, settle, results, Try.results66, go_sem, hres]
      rw [HTA.out]
      exact ⟨rfl, HFIN.out.1, HFIN.out.2⟩
    · have HTA := Lib.hid (show turnAt rs want missed = (want, missed + 1) by unfold turnAt; rw [hn])
      have hwr : IntKind.i64.wrap ((missed : Int) + 1) = (missed : Int) + 1 := by rw [IntWalk.i64_in _ (by omega)]
      have hct : ((missed + 1 : Nat) : Int) = (missed : Int) + 1 := rfl
      have e0 := cell_of_row _ _ 0 _ _ _ hx0
      have e1 := cell_of_row _ _ 0 _ _ _ hx1
      have ez : w2.frozen? ⟨W.heap.size + 1, 0, none⟩ = false := by simp [World.frozen?, hx1]
      obtain ⟨c0, c1, c2, c3⟩ := hw2.at
      have hfz := hw2.free 3
      have hs := hw2.setMissed (missed + 1)
      have hg := wheel_set w2 pb 3 (.int .i64 ((missed + 1 : Nat) : Int))
      rw [hct] at hs hg
      have d0 := hg.cell e0 (by intro e; exact hH0 (Option.some.inj e))
      have d1 := hg.cell e1 (by intro e; exact hH1 (Option.some.inj e))
      have d2 := hs.at.2.2.1
      have h5 := (hg.block _ (Array.getElem?_eq_some_iff.1 hx1).1 (by intro e; exact hH1 (Option.some.inj e))).trans hx1
      have H5 := Lib.hid h5
      have dz : (w2.setCell ⟨pb, 3, none⟩ (.int .i64 ((missed : Int) + 1))).frozen? ⟨W.heap.size + 1, 0, none⟩ = false := by
        simp [World.frozen?, h5]
      have HS := Lib.hid hs
      have HG := Lib.hid hg
      clear hs hg hw2 hr2 hx0 hx1 hn h5
      have hg4 := wheel_set (w2.setCell ⟨pb, 3, none⟩ (.int .i64 ((missed : Int) + 1))) (W.heap.size + 1) 0 (.int .i64 (want : Int))
      have hW4 := HS.out.kept hg4 (by intro e; exact hH1 (Option.some.inj e).symm)
      have hB4 := hg4.cell d0 (by intro e; have := Option.some.inj e; simp at this)
      have h6 := heap_put (i := 0) (v := .int .i64 (want : Int)) H5.out
      have hP4 := cell_of_row _ _ 0 _ _ _ h6
      have hG4 := grown_far ((grown_any (some pb) hb02).trans HG.out) hg4 (Nat.le_succ _)
      simp at hP4
      go_wp2
      generalize (w2.setCell ⟨pb, 3, none⟩ (.int .i64 ((missed : Int) + 1))).setCell ⟨W.heap.size + 1, 0, none⟩ (.int .i64 (want : Int)) = w4 at *
      refine leaves_cons (f := 96) (args := #[.pointer (some ⟨W.heap.size + 1, 0, none⟩), .pointer (some ⟨W.heap.size, 0, none⟩)]) (by simp) (by simp [go_sem]) ?_
      refine (turn1_d (W.heap.size + 1) W.heap.size pb v len want (missed + 1) want .returning w4 hP4 hB4 hW4 (by omega) (by omega) hH1 hH0).mono ?_
      rintro e u' w5 ⟨rfl, rfl, hW5, hG5⟩
      have hres := hG5.cell hP4 (by intro e; exact hH1 (Option.some.inj e))
      have HFIN := Lib.hid (And.intro hW5 (hG4.trans hG5))
      clear hW5 hG5 hG4 hP4 hB4 hW4 hg4 h6
      simp [Leaves, settle, results, Try.results66, go_sem, hres]
      rw [HTA.out]
      exact ⟨rfl, HFIN.out.1, HFIN.out.2⟩
end Go.Proofs.Ytmelnpimoiipgaa
