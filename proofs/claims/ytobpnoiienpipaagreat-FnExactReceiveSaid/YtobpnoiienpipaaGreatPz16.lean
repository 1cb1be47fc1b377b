/-
  What is proved: the walk of the model's CutLines.
  Conditions: the stream and the places can be read; the numbers are those of an int.
-/
import Derived.Test.YtobpnoiienpipaaGreatPz15
import Derived.Test.YtobpnoiienpipaaGreatPz10
import Derived.Deep.RegionHeld3
import Derived.IntWalk
import Derived.Test.YtobpnoiienpipaaGreatPz04
import Derived.Test.YtobpnoiienpipaaGreatPz05
import Derived.Lib.SliceRun
import Derived.Lib.MinMax
import Derived.Test.YtobpnoiienpipaaGreatPz13
namespace Go.Proofs.YtobpnoiienpipaaGreat
set_option linter.unusedVariables false
open Go.RowKit
attribute [local go_sem] run_store_float run_store_complex unary_negf neg256

theorem undrew {w w' : World} {row : Option Nat} (h : w.drew.grownBy w' row) : w.grownBy w' row := ⟨h.os, h.tape, h.output, h.size, h.block⟩
set_option maxHeartbeats 8000000 in
set_option maxRecDepth 100000 in
theorem specCut_any (v vp : Value) (xs : List Nat) (ps : List Int) (n : Int) (w : World) (h : FRow w v xs) (hps : LI.Row w vp ps) (hi : ∀ p ∈ ps, I64 p) (hn : I64 n) (hl : xs.length ≤ 4000000) (hl2 : ps.length ≤ 4000000) :
    Calls Tryz.prog 40 #[v, vp, .int .i64 n] w fun e w' => GotG (cuts xs ps n) w e w' := by
  have HIN := fun W => Lib.hid (l01In_any n 28 280 W hn)
  have HOW := Lib.hid (show LSf.Own (w.alloc (.cells #[] 31)) w.heap.size (.slice (some ⟨w.heap.size, 0, none⟩) 0 0) [] from LSf.own0 w)
  have HB := Lib.hid ((Below.refl w.heap.size w).alloc (Nat.le_refl _) (.cells #[] 31))
  have HG0 := Lib.hid (show Grid (w.alloc (.cells #[] 31)) w.heap.size (.slice (some ⟨w.heap.size, 0, none⟩) 0 0) [] [] from ⟨HOW.out, Lines.nil _ _ _⟩)
  have hrow := h
  obtain ⟨av, cv, rfl⟩ := h.lenv
  obtain ⟨ap, cp, rfl, hcell⟩ := ints_any hps
  have HROW := Lib.hid hrow
  have HC := Lib.hid hcell
  have HI := Lib.hid hi
  clear h hrow hcell hps hi HOW
  cases hin : lineN n with
  | false =>
    have hin' : (decide (28 ≤ n) && decide (n ≤ 280)) = false := hin
    rw [hin'] at HIN
    have HE := Lib.hid (show cuts xs ps n = [] by unfold cuts; rw [if_neg]; rw [hin]; intro hh; cases hh.1)
    clear hin hin' hn
    go_enter Tryz.func40, Tryz.ntmps40
    go_wp2_with fail
    refine (HIN _).out.mono ?_
    rintro e w1 ⟨rfl, rfl⟩
    go_wp2
    go_ret
    rw [HE.out]
    exact GotG.mk HG0.out HB.out
  | true =>
    have hin' : (decide (28 ≤ n) && decide (n ≤ 280)) = true := hin
    rw [hin'] at HIN
    have hn2 : 28 ≤ n ∧ n ≤ 280 := by simpa using hin'
    by_cases hbig : 20000 < xs.length
    · have HE := Lib.hid (show cuts xs ps n = [] by unfold cuts; rw [if_neg]; intro hh; omega)
      clear hin hin' hn
      go_enter Tryz.func40, Tryz.ntmps40
      go_wp2_with fail
      refine (HIN _).out.mono ?_
      rintro e w1 ⟨rfl, rfl⟩
      go_wp2
      go_ret
      rw [HE.out]
      exact GotG.mk HG0.out HB.out
    · obtain ⟨len, rfl⟩ : ∃ m : Nat, n = m := Int.eq_ofNat_of_zero_le (by omega)
      have HE := Lib.hid (show cuts xs ps (len : Int) = cutsK xs len ps by unfold cuts; rw [if_pos ⟨hin, by omega⟩]; rfl)
      clear hin hin' hn
      go_enter Tryz.func40, Tryz.ntmps40
      go_wp2_with fail
      refine (HIN _).out.mono ?_
      rintro e w1 ⟨rfl, rfl⟩
      go_wp2
      generalize w.alloc (.cells #[] 31) = w1 at *
      go_loopw [7, 8] (fun out i wr => ∃ (k g cap : Nat) (ss : List SV), k ≤ ps.length ∧ i = .int .i64 (k : Int) ∧ out = .slice (some ⟨g, 0, none⟩) ss.length cap ∧ Below w.heap.size w wr ∧ Grid wr w.heap.size (.slice (some ⟨g, 0, none⟩) ss.length cap) (cutsK xs len (ps.take k)) ss) (fun _ i _ => ps.length - (intOf i).toNat)
      case atStart => exact ⟨0, _, 0, [], Nat.zero_le _, rfl, rfl, HB.out, HG0.out⟩
      case round =>
        obtain ⟨k, g, cap, ss, hk, rfl, rfl, hb, hgr⟩ := hrel
        have HGR := Lib.hid hgr
        have hss : ss.length ≤ k := by have := cutsK_len xs len k ps; rw [← hgr.lines.len] at this; exact this
        clear hgr
        by_cases hlt : k < ps.length
        · obtain ⟨g1, o1, rfl, hcap1, hc1⟩ := HC.out k hlt
          have hc1' := (grown_of hb).cell hc1 (by simp)
          have hg1w : g1 < w.heap.size := World.block_lt_of_cell? _ _ hc1
          have hgw : w.heap.size ≤ g := (HGR.out.own.lt g rfl).1
          have hgr : g < wr.heap.size := (HGR.out.own.lt g rfl).2
          have hsz : w.heap.size ≤ wr.heap.size := hb.size
          have hpi := HI.out ps[k] (List.getElem_mem hlt)
          have HYES := Lib.hid (cutsK_yes (xs := xs) (n := len) hlt)
          have HNO := Lib.hid (cutsK_no (xs := xs) (n := len) hlt)
          have HIC := fun W => Lib.hid (l01In_any ps[k] 0 ((xs.length : Int) - (len : Int)) W hpi)
          have hcs : (decide (0 ≤ ps[k]) && decide (ps[k] ≤ (xs.length : Int) - (len : Int))) = cutAt xs len ps[k] := rfl
          rw [hcs] at HIC
          clear hc1 hcs
          obtain ⟨p, hp⟩ : ∃ p, ps[k] = p := ⟨_, rfl⟩
          rw [hp] at hc1' hpi HYES HNO HIC
          clear hp
          cases hca : cutAt xs len p with
          | false =>
            rw [hca] at HIC
            have HS := Lib.hid (HNO.out hca)
            clear hca hpi
            go_wp2_with fail
            refine (HIC _).out.mono ?_
            rintro e w7 ⟨rfl, rfl⟩
            go_wp2
            go_roundw
            case rel => exact ⟨k + 1, g, cap, ss, by omega, by go_num, rfl, hb, by rw [HS.out]; exact HGR.out⟩
            case measure => simp [intOf]; omega
          | true =>
            rw [hca] at HIC
            have HS := Lib.hid (HYES.out hca)
            have hpr : 0 ≤ p ∧ p ≤ (xs.length : Int) - (len : Int) := by unfold cutAt at hca; simpa using hca
            obtain ⟨q, rfl⟩ : ∃ q : Nat, p = q := Int.eq_ofNat_of_zero_le hpr.1
            clear hca hpi
            rcases HROW.out with ⟨_, h1⟩ | ⟨g0, o0, cap0, he, hcap0, hcell0⟩
            · rw [h1] at hpr; simp at hpr; omega
            · cases he
              have HP := Lib.hid (fun j (hj : j < (part xs q len).length) => (show (wr.alloc (.cells #[] 25)).cell? ⟨g0, o0 + q + j, none⟩ = some (.float .f32 (part xs q len)[j]) from by
                have hpl := part_len xs q len (by omega)
                rw [part_get xs q len j hj (by omega), Nat.add_assoc]
                exact (World.grownBy_alloc wr _ none).cell ((grown_of hb).cell (hcell0 (q + j) (by omega)) (by simp)) (by simp)))
              have HPL := Lib.hid (part_len xs q len (by omega))
              have hwrap : IntKind.i64.wrap ((q : Int) + (len : Int)) = (q : Int) + (len : Int) := IntWalk.i64_in _ (by omega)
              have hi1 : (0 : Int) ≤ (q : Int) := by omega
              have hi2 : (q : Int) ≤ (q : Int) + (len : Int) := by omega
              have hi3 : (q : Int) + (len : Int) ≤ (cv : Int) := by omega
              have hi4 : ¬ cv = q := by omega
              have hi5 : ¬ q = cv := by omega
              have hi6 : ((q : Int) + (len : Int)).toNat = q + len := by omega
              have HL5 := Lib.hid (fun (w5 : World) (hg5 : (wr.alloc (.cells #[] 25)).grownBy w5 (some wr.heap.size)) => (show w5.cell? ⟨g1, o1 + k, none⟩ = some (.int .i64 (q : Int)) from
                hg5.cell ((World.grownBy_alloc wr _ none).cell hc1' (by simp)) (by
                  have hg1w : g1 < wr.heap.size := World.block_lt_of_cell? _ _ hc1'
                  intro e; simp at e; omega)))
              have HL6 := Lib.hid (fun (w5 w6 : World) (o : Obj) (h5 : w5.cell? ⟨g1, o1 + k, none⟩ = some (.int .i64 (q : Int))) (hg6 : (w5.alloc o).grownBy w6 (some g)) => (show w6.cell? ⟨g1, o1 + k, none⟩ = some (.int .i64 (q : Int)) from
                hg6.cell ((World.grownBy_alloc w5 _ none).cell h5 (by simp)) (by intro e; simp at e; omega)))
              have HG5 := Lib.hid (fun (w5 : World) (o : Obj) (hg5 : (wr.alloc (.cells #[] 25)).grownBy w5 (some wr.heap.size)) => (show LSf.Own (w5.alloc o) w.heap.size (.slice (some ⟨g, 0, none⟩) ss.length cap) ss from
                ((HGR.out.own.alloc _).kept hg5 (.inr (by
                  have := (HGR.out.own.lt g rfl).2
                  intro e; simp [Value.ownBlock] at e; omega))).alloc o))
              clear hcell0
              go_wp2_with fail
              refine (HIC _).out.mono ?_
              rintro e w7 ⟨rfl, rfl⟩
              go_wp2
              go_region_held3 (fun W => W.cell? ⟨g1, o1 + k, none⟩ = some (.int .i64 (q : Int))) (go_keep) (first | (refine stepF_append (by rfl) (.tmp 35) (.tmp 47) (by rfl) wr.heap.size _ [] (part xs q len) (by rfl) (OwnF.made0 wr) g0 (o0 + q) len _ (by rfl) HPL.out HP.out (by omega) (by simp; omega) (by simp) ?_; intro g5 cap5 w5 ho5 hg5 hor5 hlt5; have hg5' := undrew hg5; have k5 := HL5.out w5 hg5') | ((refine LSf_ok.step (by rfl) (.tmp 34) (.tmp 49) (by rfl) w.heap.size _ ss _ (by rfl) (HG5.out _ _ hg5') rfl w5.heap.size (by rfl) (some ⟨g5, 0, none⟩, _, cap5) (lit_cells w5 _ _) (by omega) (by have := (HG5.out w5 (.cells #[] 25) hg5').lt g rfl; have h5 := hg5'.size; simp at h5 ⊢; omega) ?_); intro g6 cap6 w6 ho6 hg6 hor6 hlt6; have k6 := HL6.out _ w6 _ k5 hg6))
              all_goals
                have hgr5 : wr.grownBy w5 (some g) := putGrown (World.grownBy.refl _ _) (Nat.le_refl _) hg5' (.inr (Nat.le_refl _))
                have hgr6 : wr.grownBy w6 (some g) := putGrown hgr5 hgr5.size hg6 (.inl rfl)
                have hlt5 := ho5.lt g5 rfl
                have ho5' : OwnF w5 wr.heap.size (.slice (some ⟨g5, 0, none⟩) len cap5) (part xs q len) := by simpa using ho5
                have hs5 : FNew w6 w.heap.size (.slice (some ⟨g5, 0, none⟩) len cap5) (part xs q len) := ((ho5'.new.far (World.grownBy_alloc w5 _ none) (by simp)).far hg6 (by intro k e; cases e; intro e; cases e; omega)).mono hsz
                have hor : g6 = g ∨ w5.heap.size < g6 := by
                  rcases hor6 with h | h
                  · exact .inl (Option.some.inj h).symm
                  · simp at h; exact .inr (by omega)
                have h5s : wr.heap.size ≤ w5.heap.size := hgr5.size
                have hne : g5 ≠ g6 := by rcases hor with h | h <;> omega
                have hor' : g6 = g ∨ wr.heap.size ≤ g6 := by rcases hor with h | h
                                                             · exact .inl h
                                                             · exact .inr (by omega)
                have HGG := Lib.hid (HGR.out.snoc (s := (some ⟨g5, 0, none⟩, len, cap5)) hgr6 hs5 (by intro k e; cases e; exact ⟨hlt5.1, hne⟩) hor' ho6)
                have hb6 := hb.grown hgr6 hsz (fun k e => by cases e; exact hgw)
                clear ho5 ho5' hg5 hor5 ho6 hg6 hor6 hs5 k5 k6 hg5'
                go_wp2
                go_roundw
                case rel => exact ⟨k + 1, g6, cap6, ss ++ [(some ⟨g5, 0, none⟩, len, cap5)], by omega, by go_num, by simp, hb6, by rw [HS.out, List.length_append]; exact HGG.out⟩
                case measure => simp [intOf]; omega
        · have hkk : k = ps.length := by omega
          have HT := Lib.hid (show ps.take k = ps from List.take_of_length_le (by omega))
          subst hkk
          go_wp2
          go_ret
          rw [HE.out]
          have hfin := HGR.out
          rw [HT.out] at hfin
          exact GotG.mk hfin hb
end Go.Proofs.YtobpnoiienpipaaGreat

/-
  What is proved: the walk of the model's Erase.
  Conditions: the stream can be read.
-/
namespace Go.Proofs.YtobpnoiienpipaaGreat
set_option linter.unusedVariables false
open Go.RowKit
attribute [local go_sem] run_store_float run_store_complex unary_negf neg256

/-- An answer that is a list which may be appended to. -/
def GotO (ys : List Nat) (w : World) (e : Ending) (w' : World) : Prop := ∃ g cap, e = .returned (.slice (some ⟨g, 0, none⟩) ys.length cap) ∧ OwnF w' w.heap.size (.slice (some ⟨g, 0, none⟩) ys.length cap) ys ∧ Below w.heap.size w w'
theorem GotO.mk {ys : List Nat} {w w' : World} {g n cap : Nat} (hn : ys.length = n) (h : OwnF w' w.heap.size (.slice (some ⟨g, 0, none⟩) n cap) ys) (hb : Below w.heap.size w w') : GotO ys w (.returned (.slice (some ⟨g, 0, none⟩) n cap)) w' := by
  subst hn; exact ⟨g, cap, rfl, h, hb⟩
end Go.Proofs.YtobpnoiienpipaaGreat

/-
  What is proved: the walk of the program's Erase.
  Conditions: the stream can be read.
-/
namespace Go.Proofs.YtobpnoiienpipaaGreat
set_option linter.unusedVariables false
open Go.RowKit
attribute [local go_sem] run_store_float run_store_complex unary_negf neg256

set_option maxHeartbeats 1000000 in
theorem cloneE_any (v : Value) (xs : List Nat) (w : World) (h : FRow w v xs) (hl : xs.length ≤ 4000000) :
    Calls Tryz.prog 93 #[v] w fun e w' => GotF xs w e w' := by
  by_cases h0 : 0 < xs.length
  · exact cloneF_any v xs w h h0 hl
  · obtain ⟨a, c, rfl⟩ := h.lenv
    obtain rfl : xs = [] := List.length_eq_zero_iff.1 (by omega)
    clear h h0 hl
    cases a with
    | none =>
      have hnil : ∀ W, (binOp .eql 31 (.slice none 0 c) (.slice none 0 0)).run Tryz.prog W = .ok (.bool true) W := fun W => eql_nil W none 0 c
      go_enter Tryz.func93, Tryz.ntmps93
      go_wp2
      go_ret
      exact GotF.mk (FNew.nil _ _) (Below.refl _ _)
    | some ad =>
      have hnil : ∀ W, (binOp .eql 31 (.slice (some ad) 0 c) (.slice none 0 0)).run Tryz.prog W = .ok (.bool false) W := fun W => eql_nil W (some ad) 0 c
      have HO := Lib.hid (OwnF.made0 w)
      have HB := Lib.hid ((Below.refl w.heap.size w).alloc (Nat.le_refl _) (.cells #[] 25))
      go_enter Tryz.func93, Tryz.ntmps93
      go_wp2_with (at_builtin; refine ownF_row rfl (.tmp 5) (.tmp 6) rfl w.heap.size _ _ _ [] [] rfl rfl HO.out _ rfl (.inl ⟨⟨_, _, rfl⟩, rfl⟩) 0 rfl (by omega) (by simp) ?_; intro g6 cap6 w6 ho6 hg6 hor6 hlt6)
      have HO6 := Lib.hid (show OwnF w6 w.heap.size (.slice (some ⟨g6, 0, none⟩) 0 cap6) [] by simpa using ho6)
      have HB6 := Lib.hid (HB.out.grown hg6 HB.out.size (fun k hk => (HO.out.lt k hk).1))
      clear ho6 hg6 hor6
      go_wp2
      go_ret
      exact GotF.own rfl HO6.out HB6.out
end Go.Proofs.YtobpnoiienpipaaGreat

/-
  What is proved: the walk of the program's CutLines.
  Conditions: the stream and the places can be read.
-/
namespace Go.Proofs.YtobpnoiienpipaaGreat
set_option linter.unusedVariables false
open Go.RowKit
attribute [local go_sem] run_store_float run_store_complex unary_negf neg256

/-- A list of lines with one line more, whatever block it lies in. -/
theorem Grid.snocV {wr w6 : World} {base g6 n6 cap6 : Nat} {v : Value} {rows : List (List Nat)} {ss : List SV} {s : SV} {ys : List Nat} (h : Grid wr base v rows ss) (hg : wr.grownBy w6 v.ownBlock) (hs : FNew w6 base s.v ys)
    (hk : ∀ k, s.v.ownBlock = some k → wr.heap.size ≤ k ∧ k ≠ g6) (hg6 : v.ownBlock = some g6 ∨ wr.heap.size ≤ g6) (ho : LSf.Own w6 base (.slice (some ⟨g6, 0, none⟩) n6 cap6) (ss ++ [s])) : Grid w6 base (.slice (some ⟨g6, 0, none⟩) n6 cap6) (rows ++ [ys]) (ss ++ [s]) := by
  have hlt : ∀ i (hi : i < ss.length) k, ss[i].v.ownBlock = some k → k < wr.heap.size := fun i hi k e => (h.lines.row i hi (by rw [← h.lines.len]; exact hi)).blk e
  refine ⟨ho, h.lines.snoc hg hs (fun k e => ⟨fun i hi e' => ?_, fun e' => ?_⟩) ?_⟩
  · have := hlt i hi k e'
    have := (hk k e).1
    omega
  · have e2 : g6 = k := Option.some.inj e'
    exact (hk k e).2 e2.symm
  · rcases hg6 with e | h6
    · exact .inl e.symm
    · exact .inr ⟨g6, rfl, fun i hi e' => by have := hlt i hi g6 e'; omega⟩
theorem isLine_any (n : Int) (w : World) : Calls Tryz.prog 92 #[.int .i64 n] w fun e w' => e = .returned (.bool (lineN n)) ∧ w = w' := by
  by_cases h1 : 28 ≤ n
  · by_cases h2 : n ≤ 280
    · have HL := Lib.hid (show lineN n = true by unfold lineN; simp [h1, h2])
      go_enter Tryz.func92, Tryz.ntmps92
      go_wp2
      go_ret
      exact ⟨by rw [HL.out]; rfl, rfl⟩
    · have HL := Lib.hid (show lineN n = false by unfold lineN; simp [h2])
      go_enter Tryz.func92, Tryz.ntmps92
      go_wp2
      go_ret
      exact ⟨by rw [HL.out]; rfl, rfl⟩
  · have HL := Lib.hid (show lineN n = false by unfold lineN; simp [h1])
    go_enter Tryz.func92, Tryz.ntmps92
    go_wp2
    go_ret
    exact ⟨by rw [HL.out]; rfl, rfl⟩
set_option maxRecDepth 100000 in
set_option maxHeartbeats 4000000 in
theorem cut_any (v vp : Value) (xs : List Nat) (ps : List Int) (n : Int) (w : World) (h : FRow w v xs) (hps : LI.Row w vp ps) (hi : ∀ p ∈ ps, I64 p) (hn : I64 n) (hl : xs.length ≤ 4000000) (hl2 : ps.length ≤ 4000000) :
    Calls Tryz.prog 63 #[v, vp, .int .i64 n] w fun e w' => GotG (cuts xs ps n) w e w' := by
  have HIN := fun W => Lib.hid (isLine_any n W)
  have HG0 := Lib.hid (show Grid w w.heap.size (.slice none 0 0) [] [] from ⟨LSf.ownNil _ _, Lines.nil _ _ _⟩)
  have hrow := h
  obtain ⟨av, cv, rfl⟩ := h.lenv
  obtain ⟨ap, cp, rfl, hcell⟩ := ints_any hps
  have HROW := Lib.hid hrow
  have HC := Lib.hid hcell
  have HI := Lib.hid hi
  clear h hrow hcell hps hi
  cases hin : lineN n with
  | false =>
    rw [hin] at HIN
    have HE := Lib.hid (show cuts xs ps n = [] by unfold cuts; rw [if_neg]; rw [hin]; intro hh; cases hh.1)
    clear hin hn
    go_enter Tryz.func63, Tryz.ntmps63
    go_wp2_with fail
    refine (HIN _).out.mono ?_
    rintro e w1 ⟨rfl, rfl⟩
    go_wp2
    go_ret
    rw [HE.out]
    exact GotG.mk HG0.out (Below.refl _ _)
  | true =>
    rw [hin] at HIN
    have hn2 : 28 ≤ n ∧ n ≤ 280 := by unfold lineN at hin; simpa using hin
    by_cases hbig : 20000 < xs.length
    · have HE := Lib.hid (show cuts xs ps n = [] by unfold cuts; rw [if_neg]; intro hh; omega)
      clear hin hn
      go_enter Tryz.func63, Tryz.ntmps63
      go_wp2_with fail
      refine (HIN _).out.mono ?_
      rintro e w1 ⟨rfl, rfl⟩
      go_wp2
      go_ret
      rw [HE.out]
      exact GotG.mk HG0.out (Below.refl _ _)
    · obtain ⟨len, rfl⟩ : ∃ m : Nat, n = m := Int.eq_ofNat_of_zero_le (by omega)
      have HE := Lib.hid (show cuts xs ps (len : Int) = cutsK xs len ps by unfold cuts; rw [if_pos ⟨hin, by omega⟩]; rfl)
      have hwl : IntKind.i64.wrap ((xs.length : Int) - (len : Int)) = (xs.length : Int) - (len : Int) := IntWalk.i64_in _ (by omega)
      clear hin hn
      go_enter Tryz.func63, Tryz.ntmps63
      go_wp2_with fail
      refine (HIN _).out.mono ?_
      rintro e w1 ⟨rfl, rfl⟩
      go_wp2
      go_loopw [7, 20] (fun out i wr => ∃ (k : Nat) (ss : List SV), k ≤ ps.length ∧ i = .int .i64 (k : Int) ∧ Below w.heap.size w wr ∧ Grid wr w.heap.size out (cutsK xs len (ps.take k)) ss) (fun _ i _ => ps.length - (intOf i).toNat)
      case atStart => exact ⟨0, [], Nat.zero_le _, rfl, Below.refl _ _, HG0.out⟩
      case round =>
        obtain ⟨k, ss, hk, rfl, hb, hgr⟩ := hrel
        have HGR := Lib.hid hgr
        have hss : ss.length ≤ k := by have := cutsK_len xs len k ps; rw [← hgr.lines.len] at this; exact this
        clear hgr
        by_cases hlt : k < ps.length
        · obtain ⟨g1, o1, rfl, hcap1, hc1⟩ := HC.out k hlt
          have hc1' := (grown_of hb).cell hc1 (by simp)
          have hpi := HI.out ps[k] (List.getElem_mem hlt)
          have HYES := Lib.hid (cutsK_yes (xs := xs) (n := len) hlt)
          have HNO := Lib.hid (cutsK_no (xs := xs) (n := len) hlt)
          clear hc1
          obtain ⟨p, hp⟩ : ∃ p, ps[k] = p := ⟨_, rfl⟩
          rw [hp] at hc1' hpi HYES HNO
          clear hp
          by_cases h0 : 0 ≤ p
          · by_cases h1 : p ≤ (xs.length : Int) - (len : Int)
            · have HS := Lib.hid (HYES.out (by unfold cutAt; simp [h0, h1]))
              obtain ⟨q, rfl⟩ : ∃ q : Nat, p = q := Int.eq_ofNat_of_zero_le h0
              have hql : q + len ≤ xs.length := by omega
              obtain ⟨g0, o0, rfl, hcap0⟩ : ∃ g o, av = some ⟨g, o, none⟩ ∧ xs.length ≤ cv := by
                rcases HROW.out with ⟨_, e1⟩ | ⟨g0, o0, cap0, he, hcap0, _⟩
                · rw [e1] at hql; simp at hql; omega
                · cases he; exact ⟨g0, o0, rfl, hcap0⟩
              have HPR := Lib.hid (FRow.part (HROW.out.below hb) rfl q len (cv - q) hql (by omega) (by omega))
              have HPL := Lib.hid (part_len xs q len hql)
              have HCLN := Lib.hid (cloneE_any (.slice (some ⟨g0, o0 + q, none⟩) len (cv - q)) (part xs q len) wr HPR.out (by have := HPL.out; omega))
              have hwrap : IntKind.i64.wrap ((q : Int) + (len : Int)) = (q : Int) + (len : Int) := IntWalk.i64_in _ (by omega)
              have hi1 : (0 : Int) ≤ (q : Int) := by omega
              have hi2 : (q : Int) ≤ (q : Int) + (len : Int) := by omega
              have hi3 : (q : Int) + (len : Int) ≤ (cv : Int) := by omega
              have hi4 : ¬ cv = q := by omega
              have hi5 : ¬ q = cv := by omega
              have hi6 : ((q : Int) + (len : Int)).toNat = q + len := by omega
              clear hpi
              go_wp2_with fail
              refine HCLN.out.mono ?_
              rintro e w5 ⟨v5, rfl, hn5, hb5⟩
              obtain ⟨g5, cap5, rfl⟩ := hn5.row4 (by have := HPL.out; omega)
              rw [HPL.out] at hn5 ⊢
              have hsz : w.heap.size ≤ wr.heap.size := hb.size
              have hlt5 := hn5.lt g5 rfl
              have HN5 := Lib.hid hn5
              have HB5 := Lib.hid hb5
              have HOW5 := Lib.hid ((HGR.out.own.kept (grown_of hb5) (by cases u7.ownBlock <;> simp)).alloc (.cells #[.slice (some ⟨g5, 0, none⟩) len cap5] 31))
              have h5s := hb5.size
              clear hn5 hb5 hc1' hi1 hi2 hi3 hi4 hi5 hi6 hwrap
              go_wp2_with (at_builtin; refine LSf_ok.snoc rfl (.tmp 34) (.tmp 42) rfl w.heap.size _ ss _ rfl HOW5.out rfl _ rfl (some ⟨g5, 0, none⟩, len, cap5) (lit_cells w5 _ _) (by omega) (by simp; omega) ?_; intro g6 cap6 w6 ho6 hg6 hor6 hlt6)
              have hA : Below wr.heap.size wr (w5.alloc (.cells #[.slice (some ⟨g5, 0, none⟩) len cap5] 31)) := HB5.out.alloc h5s _
              have hgr6 : wr.grownBy w6 u7.ownBlock := (grown_any u7.ownBlock hA).trans hg6
              have hown := fun k e => (HGR.out.own.lt k e)
              have hs5 : FNew w6 w.heap.size (.slice (some ⟨g5, 0, none⟩) len cap5) (part xs q len) := ((HN5.out.far (World.grownBy_alloc w5 _ none) (by simp)).far hg6 (fun k e e' => by
                have h1 := (hown k e').2
                have h2 : g5 = k := Option.some.inj e
                omega)).mono hsz
              have hne : g5 ≠ g6 := by
                rcases hor6 with h | h
                · have := (hown g6 h).2; omega
                · simp at h; omega
              have hor' : u7.ownBlock = some g6 ∨ wr.heap.size ≤ g6 := by
                rcases hor6 with h | h
                · exact .inl h
                · simp at h; exact .inr (by omega)
              have HGG := Lib.hid (HGR.out.snocV (s := (some ⟨g5, 0, none⟩, len, cap5)) hgr6 hs5 (fun k e => by cases e; exact ⟨hlt5.1, hne⟩) hor' ho6)
              have hb6 := hb.grown hgr6 hsz (fun k e => (hown k e).1)
              clear ho6 hg6 hor6 hs5 hown hgr6 hA
              go_wp2
              go_roundw
              case rel => exact ⟨k + 1, ss ++ [(some ⟨g5, 0, none⟩, len, cap5)], by omega, by go_num, hb6, by rw [HS.out]; exact HGG.out⟩
              case measure => simp [intOf]; omega
            · have HS := Lib.hid (HNO.out (by unfold cutAt; simp [h1]))
              go_wp2
              go_roundw
              case rel => exact ⟨k + 1, ss, by omega, by go_num, hb, by rw [HS.out]; exact HGR.out⟩
              case measure => simp [intOf]; omega
          · have HS := Lib.hid (HNO.out (by unfold cutAt; simp [h0]))
            go_wp2
            go_roundw
            case rel => exact ⟨k + 1, ss, by omega, by go_num, hb, by rw [HS.out]; exact HGR.out⟩
            case measure => simp [intOf]; omega
        · have hkk : k = ps.length := by omega
          have HT := Lib.hid (show ps.take k = ps from List.take_of_length_le (by omega))
          subst hkk
          go_wp2
          go_ret
          rw [HE.out]
          have hfin := HGR.out
          rw [HT.out] at hfin
          exact GotG.mk hfin hb
end Go.Proofs.YtobpnoiienpipaaGreat
