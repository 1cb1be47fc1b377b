/-
  What is proved: the walk of the model's AddSamples.
  Conditions: the lists can be read.
-/
import Derived.Test.YtnkmcjiohmnfhaaJoined
import Derived.Deep.AppendLies
import Derived.Deep.RegionHeld3
namespace Go.Proofs.Ytnkmcjiohmnfhaa
set_option linter.unusedVariables false
open Go.RowKit
attribute [local go_sem] run_store_float run_store_complex unary_negf neg256

set_option maxHeartbeats 2000000 in
theorem specAdd_any (v v' : Value) (xs ys : List Nat) (w : World) (h : FRow w v xs) (h' : FRow w v' ys) (hl : xs.length ≤ 100000000) (hl' : ys.length ≤ 100000000) :
    Calls Try.prog 44 #[v, v'] w fun e w' => Ans (addOk xs ys) (AddR xs ys) w e w' := by
  obtain ⟨a, c, rfl, hcell⟩ := h.any
  obtain ⟨a', c', rfl, hcell'⟩ := h'.any
  have hbel := (Below.refl w.heap.size w).alloc (Nat.le_refl _) (.cells #[] 39)
  have hown := OwnF.made0 w
  have hsz : w.heap.size < (w.alloc (.cells #[] 39)).heap.size := by simp
  have HC := Lib.hid hcell
  have HC' := Lib.hid hcell'
  have HN := Lib.hid hown.new
  have HOW := Lib.hid hown
  clear hcell hcell' h h' hown
  by_cases h1 : xs.length = ys.length
  · by_cases h2 : xs.length ≤ 256
    · have ho : addOk xs ys = true := by unfold addOk; simp; exact ⟨h1, h2⟩
      have HO := Lib.hid ho
      have hb : (((xs.length : Int)) != (ys.length : Int)) = false := by rw [h1]; simp
      have HL := Lib.hid h1
      rw [ho]
      clear ho hl hl' h1
      go_enter Try.func44, Try.ntmps44
      go_wp2
      generalize w.alloc (.cells #[] 39) = w1 at *
      go_loopw [6, 7] (fun out i wr => ∃ (k g cap : Nat) (rs : List Nat), k ≤ xs.length ∧ i = .int .i64 (k : Int) ∧ out = .slice (some ⟨g, 0, none⟩) k cap ∧ Below w.heap.size w wr ∧ w.heap.size < wr.heap.size ∧ rs.length = k ∧ ResL .add xs ys rs ∧ OwnF wr w.heap.size (.slice (some ⟨g, 0, none⟩) k cap) rs) (fun _ i _ => xs.length - (intOf i).toNat)
      case atStart => exact ⟨0, _, 0, [], Nat.zero_le _, rfl, rfl, hbel, hsz, rfl, ResL.nil _ _ _, HOW.out⟩
      case round =>
        obtain ⟨k, g, cap, rs, hk, rfl, rfl, hb, hs, hrl, hrr, hown⟩ := hrel
        have HOK := Lib.hid hown
        have HR := Lib.hid (And.intro hrl hrr)
        clear hown HOW hrl hrr
        by_cases hlt : k < xs.length
        · obtain ⟨g1, o1, rfl, hcap1, hcc⟩ := HC.out k hlt
          have hlt' : k < ys.length := by have := HL.out; omega
          obtain ⟨g2, o2, rfl, hcap2, hcc'⟩ := HC'.out k hlt'
          have hc0 := (grown_of hb).cell hcc (by simp)
          have hc0' := (grown_of hb).cell hcc' (by simp)
          have HLT := Lib.hid hlt'
          obtain ⟨x, hx⟩ : ∃ x, xs[k] = x := ⟨_, rfl⟩
          obtain ⟨y, hy⟩ : ∃ y, ys[k]'hlt' = y := ⟨_, rfl⟩
          rw [hx] at hc0
          rw [hy] at hc0'
          have HXY := Lib.hid (And.intro hx hy)
          have HL6 := Lib.hid (fun w6 (hb6 : Below w.heap.size w w6) => And.intro ((grown_of hb6).cell hcc (by simp)) ((grown_of hb6).cell hcc' (by simp)))
          rw [hx, hy] at HL6
          have HSZ := Lib.hid hb.size
          clear hcc hcc' hx hy
          rcases res_any .add (.inl rfl) x y with ⟨r, hr, hrun⟩ | hrun
          · have HRR := Lib.hid hr
            have HOA := Lib.hid (fun (o : Obj) => (show OwnF (wr.alloc o).drew w.heap.size (.slice (some ⟨g, 0, none⟩) k cap) rs from HOK.out.alloc o))
            have HLC := Lib.hid (fun (z : Nat) => (show (wr.alloc (.cells #[.float .f32 z] 39)).drew.cell? ⟨wr.heap.size, 0, none⟩ = some (.float .f32 z) from lit_cell z wr))
            have HBB := Lib.hid (fun (o : Obj) (w6 : World) (hg6 : (wr.alloc o).drew.grownBy w6 (Value.slice (some ⟨g, 0, none⟩) k cap).ownBlock) => snoc_below hb HOK.out o (show (wr.alloc o).grownBy w6 _ from ⟨hg6.os, hg6.tape, hg6.output, hg6.size, hg6.block⟩))
            clear hr
            go_wp2
            go_region_held3 (fun W => W.cell? ⟨g1, o1 + k, none⟩ = some (.float .f32 x) ∧ W.cell? ⟨g2, o2 + k, none⟩ = some (.float .f32 y)) (go_keep)
              (first | (refine stepF_snoc (by rfl) (.tmp 26) (.tmp 36) (by rfl) w.heap.size _ rs k (by rfl) (HOA.out _) HR.out.1 wr.heap.size (by rfl) r (HLC.out _) (by omega) (by have := HSZ.out; simp; omega) ?_; intro g6 cap6 w6 ho6 hg6 hor6 hlt6; have hb6 := HBB.out _ _ hg6; obtain ⟨k0, k1⟩ := HL6.out w6 hb6))
            have hs6 : w.heap.size < w6.heap.size := by have := hg6.size; simp at this; omega
            have HO6 := Lib.hid ho6
            have HR6 := Lib.hid (HR.out.2.snoc HR.out.1 hlt HLT.out (by rw [HXY.out.1, HXY.out.2]; exact HRR.out))
            clear ho6 hg6 hor6 k0 k1
            go_wp2
            go_roundw
            case rel => exact ⟨k + 1, g6, cap6, rs ++ [r], by omega, by go_num, rfl, hb6, hs6, by simp [HR.out.1], HR6.out, HO6.out⟩
            case measure => simp [intOf]; omega
          · obtain ⟨r, hr, hrd⟩ := hrun wr.drew
            have HRR := Lib.hid hr
            have HOA := Lib.hid (fun (o : Obj) => (show OwnF (wr.alloc o).drew.drew w.heap.size (.slice (some ⟨g, 0, none⟩) k cap) rs from HOK.out.alloc o))
            have HLC := Lib.hid (fun (z : Nat) => (show (wr.alloc (.cells #[.float .f32 z] 39)).drew.drew.cell? ⟨wr.heap.size, 0, none⟩ = some (.float .f32 z) from lit_cell z wr))
            have HBB := Lib.hid (fun (o : Obj) (w6 : World) (hg6 : (wr.alloc o).drew.drew.grownBy w6 (Value.slice (some ⟨g, 0, none⟩) k cap).ownBlock) => snoc_below hb HOK.out o (show (wr.alloc o).grownBy w6 _ from ⟨hg6.os, hg6.tape, hg6.output, hg6.size, hg6.block⟩))
            clear hr hrun
            go_wp2
            go_region_law
              (first | (refine stepF_snoc (by rfl) (.tmp 26) (.tmp 36) (by rfl) w.heap.size _ rs k (by rfl) (HOA.out _) HR.out.1 wr.heap.size (by rfl) r (HLC.out _) (by omega) (by have := HSZ.out; simp; omega) ?_; intro g6 cap6 w6 ho6 hg6 hor6 hlt6; have hb6 := HBB.out _ _ hg6; obtain ⟨k0, k1⟩ := HL6.out w6 hb6))
            all_goals
              have hs6 : w.heap.size < w6.heap.size := by have := hg6.size; simp at this; omega
              have HO6 := Lib.hid ho6
              have HR6 := Lib.hid (HR.out.2.snoc HR.out.1 hlt HLT.out (by rw [HXY.out.1, HXY.out.2]; exact HRR.out))
              clear ho6 hg6 hor6 k0 k1
              go_wp2
              go_roundw
              case rel => exact ⟨k + 1, g6, cap6, rs ++ [r], by omega, by go_num, rfl, hb6, hs6, by simp [HR.out.1], HR6.out, HO6.out⟩
              case measure => simp [intOf]; omega
        · have hkk : k = xs.length := by omega
          subst hkk
          have HNN := Lib.hid (fnew_of HOK.out rfl HR.out.1)
          have HRR := Lib.hid (AddR.yes HO.out HR.out.1 HR.out.2)
          go_wp2
          go_ret2
          exact Ans.mk HRR.out HNN.out hb
    · have ho : addOk xs ys = false := by unfold addOk; simp; intro _; omega
      have HO := Lib.hid ho
      have hb : (((xs.length : Int)) != (ys.length : Int)) = false := by rw [h1]; simp
      rw [ho]
      clear ho hl hl' h1
      go_enter Try.func44, Try.ntmps44
      go_wp2
      go_ret2
      exact Ans.mk (AddR.no HO.out) HN.out hbel
  · have ho : addOk xs ys = false := by unfold addOk; simp [h1]
    have HO := Lib.hid ho
    have hb : (((xs.length : Int)) != (ys.length : Int)) = true := by simp; omega
    rw [ho]
    clear ho hl hl' h1
    go_enter Try.func44, Try.ntmps44
    go_wp2
    go_ret2
    exact Ans.mk (AddR.no HO.out) HN.out hbel
end Go.Proofs.Ytnkmcjiohmnfhaa
