/-
  What is proved: the walk of the model's ToLevel.
  Conditions: the line can be read.
-/
import Derived.Test.YtobpnoiienpipaaGreatPz18
import Derived.Test.YtobpnoiienpipaaGreatPz03
import Derived.Test.YtobpnoiienpipaaGreatPz10
import Derived.Test.YtobpnoiienpipaaGreatPz13
import Derived.Deep.RegionWith
namespace Go.Proofs.YtobpnoiienpipaaGreat
set_option linter.unusedVariables false
open Go.RowKit
open Flt (Mag sumv subv mulv quov)
attribute [local go_sem] run_store_float run_store_complex unary_negf neg256

theorem ansLev_no {xs ys : List Nat} {w w' : World} {v : Value} (h : levOk xs = false) (hy : ys = []) (hn : FNew w' w.heap.size v ys) (hb : Below w.heap.size w w') : Ans (levOk xs) (levR xs) w (.returned (.tuple #[v, .bool false])) w' := by
  subst hy; exact ⟨v, [], by rw [h], by unfold levR; rw [h]; rfl, hn, hb⟩
theorem ansLev_yes {xs rs : List Nat} {w w' : World} {v : Value} (h : levOk xs = true) (hr : levs xs = rs) (hn : FNew w' w.heap.size v rs) (hb : Below w.heap.size w w') : Ans (levOk xs) (levR xs) w (.returned (.tuple #[v, .bool true])) w' :=
  ⟨v, rs, by rw [h], by unfold levR; rw [h]; exact hr.symm, hn, hb⟩
theorem levOk_no {xs : List Nat} (h : lvOk xs = false) : levOk xs = false := by unfold levOk; rw [h]; rfl
set_option maxHeartbeats 4000000 in
theorem specToLevel_any (v : Value) (xs : List Nat) (w : World) (h : FRow w v xs) (hl : xs.length ≤ 4000000) :
    Calls Tryz.prog 42 #[v] w fun e w' => Ans (levOk xs) (levR xs) w e w' := by
  have HOW := Lib.hid (OwnF.made0 w)
  have HB := Lib.hid ((Below.refl w.heap.size w).alloc (Nat.le_refl _) (.cells #[] 25))
  have HSZ := Lib.hid (show w.heap.size < (w.alloc (.cells #[] 25)).heap.size by simp)
  have HR := Lib.hid (h.below HB.out)
  have HLV := Lib.hid (specLevels_any v xs (w.alloc (.cells #[] 25)) HR.out hl)
  obtain ⟨a, c, rfl, hcell⟩ := h.any
  have HC := Lib.hid hcell
  clear h hcell
  cases hlv : lvOk xs with
  | false =>
    have HNO := Lib.hid (levOk_no hlv)
    have HLVN := Lib.hid hlv
    clear hlv
    go_enter Tryz.func42, Tryz.ntmps42
    go_wp2_with fail
    generalize w.alloc (.cells #[] 25) = w1 at *
    refine HLV.out.mono ?_
    rintro e w2 ⟨rfl, hb2⟩
    rw [HLVN.out]
    have hb02 := below_trans HB.out hb2 HB.out.size
    have HN := Lib.hid ((HOW.out.kept (grown_of hb2) (.inr (by intro e; cases e))).new)
    go_wp2
    go_ret2
    exact ansLev_no HNO.out rfl HN.out hb02
  | true =>
    have HLVN := Lib.hid hlv
    have hlo := lvOk_line hlv
    have hlen := (lineOk_len hlo).2.2
    have HG := Lib.hid (fun W => arith_ok (gap_run hlv).1 W)
    have HK := Lib.hid (fun W => arith_ok (lift_run hlv) W)
    have HD := Lib.hid (fun k (hk : k < xs.length) W => arith_ok (diff_run hlo (List.getElem_mem hk)) W)
    have HDN := Lib.hid (fun rs hl hh => levL_done (rs := rs) hlv hl hh)
    obtain ⟨tip, htip⟩ : ∃ t, tipOf xs = t := ⟨_, rfl⟩
    obtain ⟨blk, hblk⟩ : ∃ t, blackOf xs = t := ⟨_, rfl⟩
    obtain ⟨gap, hgap⟩ : ∃ t, gapOf xs = t := ⟨_, rfl⟩
    obtain ⟨lft, hlft⟩ : ∃ t, liftOf xs = t := ⟨_, rfl⟩
    unfold LevPost at HLV
    rw [hlv, if_pos rfl, if_pos rfl, htip, hblk] at HLV
    rw [htip, hblk, hgap] at HG
    rw [hgap, hlft] at HK
    rw [hblk] at HD
    have hG := HG.out
    have hK := HK.out
    have HLFT := Lib.hid hlft
    clear hlv hlo htip hblk hgap hlft HG HK
    go_enter Tryz.func42, Tryz.ntmps42
    go_wp2_with fail
    generalize w.alloc (.cells #[] 25) = w1 at *
    refine HLV.out.mono ?_
    rintro e w2 ⟨rfl, hb2⟩
    have hb02 := below_trans HB.out hb2 HB.out.size
    have HO2 := Lib.hid (HOW.out.kept (grown_of hb2) (.inr (by intro e; cases e)))
    have hsz2 : w.heap.size < w2.heap.size := by have := HSZ.out; have := hb2.size; omega
    clear HLV HOW hb2
    go_wp2
    clear hG hK
    go_loopw [4, 9] (fun out i wr => ∃ (k g cap : Nat) (rs : List Nat), k ≤ xs.length ∧ i = .int .i64 (k : Int) ∧ out = .slice (some ⟨g, 0, none⟩) k cap ∧ rs.length = k ∧ LevL xs xs rs ∧ Below w.heap.size w wr ∧ OwnF wr w.heap.size (.slice (some ⟨g, 0, none⟩) k cap) rs) (fun _ i _ => xs.length - (intOf i).toNat)
    case atStart => exact ⟨0, _, 0, [], Nat.zero_le _, rfl, rfl, rfl, LevL.nil _ _, hb02, HO2.out⟩
    case round =>
      obtain ⟨k, g, cap, rs, hk, rfl, rfl, hrl, hrr, hb, ho⟩ := hrel
      have HOK := Lib.hid ho
      have HRR := Lib.hid (And.intro hrl hrr)
      have hsr : w.heap.size ≤ wr.heap.size := hb.size
      clear ho hrl hrr
      by_cases hlt : k < xs.length
      · obtain ⟨g1, o1, rfl, hcap1, hcc⟩ := HC.out k hlt
        have hc0 := (grown_of hb).cell hcc (by simp)
        have hD := HD.out k hlt
        have HNX := Lib.hid (fun r hr => (HRR.out.2).snoc (r := r) HRR.out.1 hlt hr)
        rw [HLFT.out] at HNX
        clear hcc
        generalize diffOf xs xs[k] = d at *
        generalize xs[k] = x at *
        rcases res_any .mul (.inr (.inr (.inl rfl))) d lft with ⟨r, hr, hrun⟩ | hrun
        · have HRN := Lib.hid (HNX.out r hr)
          clear hr
          go_wp2_with (at_builtin; refine ownF_snoc rfl (.tmp 37) (.tmp 41) rfl w.heap.size _ _ _ rfl (HOK.out.alloc _) HRR.out.1 _ rfl r (lit_cell r _) (by omega) (by simp; omega) ?_; intro g2 cap2 w6 ho6 hg6 hor6 hlt6)
          have hb6 := snoc_below hb HOK.out _ hg6
          have HO6 := Lib.hid ho6
          clear ho6 hg6 hor6
          go_wp2
          go_roundw
          case rel => exact ⟨k + 1, g2, cap2, rs ++ [r], by omega, by go_num, rfl, by simp [HRR.out.1], HRN.out, hb6, HO6.out⟩
          case measure => simp [intOf]; omega
        · obtain ⟨r, hr, hrw⟩ := hrun wr
          have HRN := Lib.hid (HNX.out r hr)
          have HOD := Lib.hid (show OwnF wr.drew w.heap.size (.slice (some ⟨g, 0, none⟩) k cap) rs from HOK.out)
          have HBD := Lib.hid (belowDN hb 1)
          clear hr hrun
          go_wp2_with (at_builtin; refine ownF_snoc rfl (.tmp 37) (.tmp 41) rfl w.heap.size _ _ _ rfl (HOD.out.alloc _) HRR.out.1 _ rfl r (lit_cell r _) (by omega) (by simp; omega) ?_; intro g2 cap2 w6 ho6 hg6 hor6 hlt6)
          have hb6 := snoc_below (show Below w.heap.size w wr.drew from HBD.out) HOD.out _ hg6
          have HO6 := Lib.hid ho6
          clear ho6 hg6 hor6
          go_wp2
          go_roundw
          case rel => exact ⟨k + 1, g2, cap2, rs ++ [r], by omega, by go_num, rfl, by simp [HRR.out.1], HRN.out, hb6, HO6.out⟩
          case measure => simp [intOf]; omega
      · have hkk : k = xs.length := by omega
        subst hkk
        have HEND := Lib.hid (HDN.out rs HRR.out.2 HRR.out.1)
        have HNW := Lib.hid HOK.out.new
        have HLO := Lib.hid (specLineOk_any (.slice (some ⟨g, 0, none⟩) xs.length cap) rs wr HNW.out.row (by have := HRR.out.1; omega))
        cases hro : lineOk rs with
        | true =>
          rw [hro] at HLO
          have HY := Lib.hid (And.intro (HEND.out.1.trans hro) (HEND.out.2 hro))
          clear hro
          go_wp2_with fail
          refine HLO.out.mono ?_
          rintro e w7 ⟨rfl, rfl⟩
          go_wp2
          go_ret2
          exact ansLev_yes HY.out.1 HY.out.2 HNW.out hb
        | false =>
          rw [hro] at HLO
          have HY := Lib.hid (HEND.out.1.trans hro)
          clear hro
          go_wp2_with fail
          refine HLO.out.mono ?_
          rintro e w7 ⟨rfl, rfl⟩
          have HN8 := Lib.hid ((OwnF.made0 wr).new.mono hsr)
          have hb8 := hb.alloc hsr (.cells #[] 25)
          go_wp2
          go_ret2
          exact ansLev_no HY.out rfl HN8.out hb8
end Go.Proofs.YtobpnoiienpipaaGreat

/-
  What is proved: the walk of the program's ToLevel.
  Conditions: the line can be read.
-/
namespace Go.Proofs.YtobpnoiienpipaaGreat
set_option linter.unusedVariables false
open Go.RowKit
attribute [local go_sem] run_store_float run_store_complex unary_negf neg256

theorem level1_any (x blk d lft p q : Nat) (W : World) (h1 : W.cell? ⟨p, 0, none⟩ = some (.float .f32 lft)) (h2 : W.cell? ⟨q, 0, none⟩ = some (.float .f32 blk)) (hd : floatBits .sub .f32 x blk = some d) :
    Calls Tryz.prog 126 #[.float .f32 x, .pointer (some ⟨p, 0, none⟩), .pointer (some ⟨q, 0, none⟩)] W fun e w' => ∃ r, e = .returned (.float .f32 r) ∧ Res .mul d lft r ∧ Below W.heap.size W w' := by
  have hD := fun W => arith_ok hd W
  clear hd
  rcases res_any .mul (.inr (.inr (.inl rfl))) lft d with ⟨r, hr, hrun⟩ | hrun
  · have HR := Lib.hid hr.mul_comm
    clear hr
    go_enter Tryz.func126, Tryz.ntmps126
    go_wp2
    go_ret
    exact ⟨r, rfl, HR.out, Below.refl _ _⟩
  · obtain ⟨r, hr, hrw⟩ := hrun W
    have HR := Lib.hid hr.mul_comm
    clear hr hrun
    go_enter Tryz.func126, Tryz.ntmps126
    go_wp2
    go_ret
    exact ⟨r, rfl, HR.out, (Below.refl _ _).drew⟩
theorem MadeF.more {w : World} {b n k r : Nat} {rs : List Nat} (h : MadeF w b n k rs) (hl : rs.length = k) (hk : k < n) : MadeF (w.setCell ⟨b, k, none⟩ (.float .f32 r)) b n (k + 1) (rs ++ [r]) := by
  have h2 : MadeF w b n k (rs ++ [r]) := by
    obtain ⟨cur, h1, h2, h3⟩ := h
    refine ⟨cur, h1, h2, fun i hi hik => ?_⟩
    rw [List.getElem_append_left (by omega)]
    exact h3 i (by omega) hik
  have hs := h2.step (by simp; omega) (by simp; omega)
  have e : (rs ++ [r])[k]'(by simp; omega) = r := by subst hl; simp
  rwa [e] at hs
/-- What the walk that brings samples to level answers. -/
def LevAns (xs : List Nat) (w : World) (e : Ending) (w' : World) : Prop := ∃ v' rs, e = .returned v' ∧ rs.length = xs.length ∧ LevL xs xs rs ∧ FNew w' w.heap.size v' rs ∧ Below w.heap.size w w'
set_option maxHeartbeats 2000000 in
theorem changedLev_any (p q : Nat) (v : Value) (xs : List Nat) (w : World) (h : FRow w v xs) (hlv : lvOk xs = true) (hl : xs.length ≤ 4000000)
    (h1 : w.cell? ⟨p, 0, none⟩ = some (.float .f32 (liftOf xs))) (h2 : w.cell? ⟨q, 0, none⟩ = some (.float .f32 (blackOf xs))) :
    Calls Tryz.prog 125 #[v, .func (.func 126) #[] #[.pointer (some ⟨p, 0, none⟩), .pointer (some ⟨q, 0, none⟩)]] w fun e w' => LevAns xs w e w' := by
  obtain ⟨a, c, rfl, hcell⟩ := h.any
  have HC := Lib.hid hcell
  have hlo := lvOk_line hlv
  have HD := Lib.hid (fun k (hk : k < xs.length) => diff_run hlo (List.getElem_mem hk))
  have HP := Lib.hid h1
  have HQ := Lib.hid h2
  have hpw := World.block_lt_of_cell? _ _ h1
  have hqw := World.block_lt_of_cell? _ _ h2
  have hmk := make_floats xs.length (by omega)
  clear hcell h h1 h2 hlo hlv
  go_enter Tryz.func125, Tryz.ntmps125
  go_wp2
  have hst := MadeF.start w xs.length []
  have hbel : Below w.heap.size w (w.alloc (.cells (madeCells #[.float .f32 0] xs.length) 25)) := (Below.refl _ _).alloc (Nat.le_refl _) _
  have hsz : w.heap.size < (w.alloc (.cells (madeCells #[.float .f32 0] xs.length) 25)).heap.size := by simp
  clear hmk
  generalize w.alloc (.cells (madeCells #[.float .f32 0] xs.length) 25) = w1 at *
  go_loopw [13] (fun i wr => ∃ (k : Nat) (rs : List Nat), k ≤ xs.length ∧ i = .int .i64 (k : Int) ∧ rs.length = k ∧ LevL xs xs rs ∧ Below w.heap.size w wr ∧ w.heap.size < wr.heap.size ∧ MadeF wr w.heap.size xs.length k rs) (fun i _ => xs.length - (intOf i).toNat)
  case atStart => exact ⟨0, [], Nat.zero_le _, rfl, rfl, LevL.nil _ _, hbel, hsz, hst⟩
  case round =>
    obtain ⟨k, rs, hk, rfl, hrl, hrr, hb, hs, hm⟩ := hrel
    have HM := Lib.hid hm
    have HRR := Lib.hid (And.intro hrl hrr)
    clear hm hrl hrr
    by_cases hlt : k < xs.length
    · obtain ⟨g, o, rfl, hcap, hc0⟩ := HC.out k hlt
      have hd0 := (grown_of hb).cell hc0 (by simp)
      have HK := Lib.hid (level1_any xs[k] (blackOf xs) (diffOf xs xs[k]) (liftOf xs) p q wr ((grown_of hb).cell HP.out (by simp)) ((grown_of hb).cell HQ.out (by simp)) (HD.out k hlt))
      have HNX := Lib.hid (fun r hr => (HRR.out.2).snoc (r := r) HRR.out.1 hlt hr)
      clear hc0
      generalize diffOf xs xs[k] = d at *
      generalize xs[k] = x at *
      go_wp2_with fail
      refine HK.out.mono ?_
      rintro e w2 ⟨r, rfl, hr, hb2⟩
      have hm2 : MadeF w2 w.heap.size xs.length k rs := HM.out.kept (hb2.block _ hs)
      have hbw : Below w.heap.size w w2 := hb.trans (hb2.mono (by omega))
      have hs2 : w.heap.size < w2.heap.size := Nat.lt_of_lt_of_le hs hb2.size
      obtain ⟨⟨x0, hx0⟩, hf0⟩ := hm2.at k hlt
      have HM3 := Lib.hid (hm2.more (r := r) HRR.out.1 hlt)
      have HRN := Lib.hid (HNX.out r hr)
      clear hm2 hb2 hd0 hr
      go_wp2
      go_roundw
      case rel => exact ⟨k + 1, rs ++ [r], by omega, by go_num, by simp [HRR.out.1], HRN.out, hbw.setCell (Nat.le_refl _) _, by simpa [World.setCell] using hs2, HM3.out⟩
      case measure => simp [intOf]; omega
    · have hkk : k = xs.length := by omega
      subst hkk
      have HF := Lib.hid (HM.out.new HRR.out.1 (Nat.le_refl _))
      go_wp2
      go_ret
      exact ⟨_, rs, rfl, HRR.out.1, HRR.out.2, HF.out, hb⟩
set_option maxRecDepth 100000 in
set_option maxHeartbeats 4000000 in
theorem toLevel_any (v : Value) (xs : List Nat) (w : World) (h : FRow w v xs) (hl : xs.length ≤ 4000000) :
    Calls Tryz.prog 97 #[v] w fun e w' => Ans (levOk xs) (levR xs) w e w' := by
  have HLV := Lib.hid (levels_any v xs w h hl)
  cases hlv : lvOk xs with
  | false =>
    have HNO := Lib.hid (levOk_no hlv)
    unfold LevPost at HLV
    rw [hlv] at HLV
    clear hlv h
    go_enter Tryz.func97, Tryz.ntmps97
    go_wp2_with fail
    refine HLV.out.mono ?_
    rintro e w2 ⟨rfl, hb2⟩
    have HB2 := Lib.hid (hb2.alloc hb2.size (.cells #[.float .f32 0] 25))
    go_wp2
    go_ret2
    exact ansLev_no HNO.out rfl (FNew.nil _ _) HB2.out
  | true =>
    have HLVN := Lib.hid hlv
    have hG := fun W => arith_ok (gap_run hlv).1 W
    have hK := fun W => arith_ok (lift_run hlv) W
    have HDN := Lib.hid (fun rs hl hh => levL_done (rs := rs) hlv hl hh)
    have HR := Lib.hid h
    unfold LevPost at HLV
    rw [hlv, if_pos rfl, if_pos rfl] at HLV
    obtain ⟨tip, htip⟩ : ∃ t, tipOf xs = t := ⟨_, rfl⟩
    obtain ⟨blk, hblk⟩ : ∃ t, blackOf xs = t := ⟨_, rfl⟩
    obtain ⟨gap, hgap⟩ : ∃ t, gapOf xs = t := ⟨_, rfl⟩
    obtain ⟨lft, hlft⟩ : ∃ t, liftOf xs = t := ⟨_, rfl⟩
    rw [htip, hblk] at HLV
    rw [htip, hblk, hgap] at hG
    rw [hgap, hlft] at hK
    have HE := Lib.hid (And.intro hblk hlft)
    clear hlv htip hblk hgap hlft h
    go_enter Tryz.func97, Tryz.ntmps97
    go_wp2_with fail
    refine HLV.out.mono ?_
    rintro e w2 ⟨rfl, hb2⟩
    have HB2 := Lib.hid hb2
    clear hb2 HLV
    go_wp2_with fail
    have hb3 : Below w.heap.size w ((w2.alloc (.cells #[.float .f32 blk] 25)).alloc (.cells #[.float .f32 lft] 25)) := (HB2.out.alloc HB2.out.size _).alloc (by have := HB2.out.size; simp; omega) _
    have c1 : ((w2.alloc (.cells #[.float .f32 blk] 25)).alloc (.cells #[.float .f32 lft] 25)).cell? ⟨w2.heap.size + 1, 0, none⟩ = some (.float .f32 lft) := lit_cell2 lft w2 _
    have c0 : ((w2.alloc (.cells #[.float .f32 blk] 25)).alloc (.cells #[.float .f32 lft] 25)).cell? ⟨w2.heap.size, 0, none⟩ = some (.float .f32 blk) := (cell_of_row _ _ 0 _ _ _ ((Below.heap_alloc _ _ _ (by simp)).trans (heap_alloc_new w2 _))).trans rfl
    generalize (w2.alloc (.cells #[.float .f32 blk] 25)).alloc (.cells #[.float .f32 lft] 25) = w3 at *
    rw [← HE.out.2] at c1
    rw [← HE.out.1] at c0
    refine (changedLev_any (w2.heap.size + 1) w2.heap.size v xs w3 (HR.out.below hb3) HLVN.out hl c1 c0).mono ?_
    rintro e w4 ⟨v', rs, rfl, hrl, hrr, hn4, hb4⟩
    have HN4 := Lib.hid (hn4.mono hb3.size)
    have HEND := Lib.hid (HDN.out rs hrr hrl)
    have HB4 := Lib.hid (below_trans hb3 hb4 hb3.size)
    have HLO := Lib.hid (lineOk_any v' rs w4 hn4.row (by omega))
    clear hrr hn4 hb4 hb3 c1 c0 hG hK hrl
    cases hro : lineOk rs with
    | true =>
      rw [hro] at HLO
      have HY := Lib.hid (And.intro (HEND.out.1.trans hro) (HEND.out.2 hro))
      clear hro
      go_wp2_with fail
      refine HLO.out.mono ?_
      rintro e w7 ⟨rfl, rfl⟩
      go_wp2
      go_ret2
      exact ansLev_yes HY.out.1 HY.out.2 HN4.out HB4.out
    | false =>
      rw [hro] at HLO
      have HY := Lib.hid (HEND.out.1.trans hro)
      clear hro
      go_wp2_with fail
      refine HLO.out.mono ?_
      rintro e w7 ⟨rfl, rfl⟩
      go_wp2
      go_ret2
      exact ansLev_no HY.out rfl (FNew.nil _ _) HB4.out
end Go.Proofs.YtobpnoiienpipaaGreat

/-
  What is proved: the exact laws' copying, comparing and marking of lists of single floats.
  Conditions: those that each fact names.
-/
namespace Go.Proofs.YtobpnoiienpipaaGreat
set_option linter.unusedVariables false
open Go.RowKit
attribute [local go_sem] run_store_float run_store_complex unary_negf neg256

set_option maxHeartbeats 4000000 in
set_option maxRecDepth 100000 in
theorem eqFloats_sm (v v' : Value) (xs ys : List Nat) (w : World) (h : FRow w v xs) (h' : FRow w v' ys) (hs : SmL xs ys) (hl : xs.length ≤ 1000000000) :
    Calls Tryz.prog 18 #[v, v'] w fun e w' => e = .returned (.bool true) ∧ ∃ n, w' = w.drewN n := by
  obtain ⟨hlen, hsm⟩ := hs
  by_cases h0 : xs.length = 0
  · obtain ⟨a, c, rfl⟩ := h.lenv
    obtain ⟨a', c', rfl⟩ := h'.lenv
    rw [← hlen, h0]
    clear hl hsm hlen h h'
    go_enter Tryz.func18, Tryz.ntmps18
    go_wp2
    go_loop [5] (fun i => i = .int .i64 0) (fun _ => 0)
    case atStart => exact rfl
    case round =>
      obtain rfl := hrel
      go_wp2
      go_ret
      exact ⟨rfl, 0, rfl⟩
  · rcases h with ⟨_, h1⟩ | ⟨g, o, cap, rfl, hcap, hcell⟩
    · subst h1; exact absurd rfl h0
    · rcases h' with ⟨_, h1⟩ | ⟨g', o', cap', rfl, hcap', hcell'⟩
      · subst h1; simp at hlen; exact absurd (by rw [hlen]; rfl) h0
      · have HC := Lib.hid hcell
        have HC' := Lib.hid hcell'
        have HF := Lib.hid hsm
        rw [← hlen] at hcap' ⊢
        have HL := Lib.hid hlen
        clear hcell hcell' hsm h0 hlen
        go_enter Tryz.func18, Tryz.ntmps18
        go_wp2
        go_loopw [5] (fun i wr => ∃ k q : Nat, k ≤ xs.length ∧ i = .int .i64 (k : Int) ∧ wr = w.drewN q) (fun i _ => xs.length - (intOf i).toNat)
        case atStart => exact ⟨0, 0, Nat.zero_le _, rfl, rfl⟩
        case round =>
          obtain ⟨k, q, hk, rfl, rfl⟩ := hrel
          by_cases hlt : k < xs.length
          · have hlt' : k < ys.length := by have := HL.out; omega
            have hc0 := HC.out k hlt
            have hc0' := HC'.out k hlt'
            have hpk := HF.out k hlt hlt'
            generalize xs[k] = x at *
            generalize ys[k] = y at *
            rcases conv_any x with ⟨r, hn, hx, hc⟩ | ⟨hx, hc⟩
            · have e : x = y := hpk.elim id fun h => by rw [hx] at h; exact absurd h.1 (by decide)
              subst e
              have HS := fun W => Lib.hid (sameFloat_self r W hn)
              clear hpk hlt' hn hx
              go_wp2
              go_quiet (first | (go_at_call 47; exact qt_add (HS _).out))
              go_wp2
              go_roundw
              case rel => exact ⟨k + 1, _, by omega, by go_num, rfl⟩
              case measure => simp [intOf]; omega
            · have hy : isN y = true := hpk.elim (fun e => by rw [← e]; exact hx) fun h => h.2
              rcases conv_any y with ⟨_, _, hy', _⟩ | ⟨_, hc'⟩
              · rw [hy] at hy'; cases hy'
              · clear hpk hlt' hy hx
                have hcq : (w.drewN q).cell? ⟨g, o + k, none⟩ = some (.float .f32 x) := hc0
                have hcq' : (w.drewN q).cell? ⟨g', o' + k, none⟩ = some (.float .f32 y) := hc0'
                clear hc0 hc0'
                obtain ⟨wq, hwq⟩ : ∃ wq, w.drewN q = wq := ⟨_, rfl⟩
                rw [hwq] at hcq hcq' ⊢
                have HWQ := Lib.hid hwq
                clear hwq
                go_wp2
                obtain ⟨r1, n1, k1⟩ := hc wq.drew
                obtain ⟨r2, n2, k2⟩ := hc wq.drew.drew
                obtain ⟨r3, n3, k3⟩ := hc' wq.drew
                obtain ⟨r4, n4, k4⟩ := hc' wq.drew.drew
                simp only [show ∀ W : World, W.drewN 1 = W.drew from fun _ => rfl] at k1 k2 k3 k4
                have N1 := Lib.hid n1
                have N2 := Lib.hid n2
                have N3 := Lib.hid n3
                have N4 := Lib.hid n4
                clear n1 n2 n3 n4 hc hc'
                go_region_with (go_at_call 47; refine (sameFloat_nan _ _ _ ?_ ?_).mono ?_; (first | exact N1.out | exact N2.out); (first | exact N4.out | exact N3.out); rintro e w2 ⟨rfl, rfl⟩)
                all_goals
                  go_wp2
                  go_roundw
                  case rel => exact ⟨k + 1, q + 3, by omega, by go_num, by rw [← HWQ.out]; rfl⟩
                  case measure => simp [intOf]; omega
          · go_wp2
            go_ret
            exact ⟨rfl, _, rfl⟩

set_option maxHeartbeats 2000000 in
theorem toFloats_any (v : Value) (xs : List Nat) (w : World) (h : FRow w v xs) (hl : xs.length ≤ 1000000000) :
    Calls Tryz.prog 15 #[v] w fun e w' => ∃ v', e = .returned v' ∧ FNew w' w.heap.size v' xs ∧ Below w.heap.size w w' := by
  have hmk := make_floats xs.length hl
  have hst := MadeF.start w xs.length xs
  have hbel : Below w.heap.size w (w.alloc (.cells (madeCells #[.float .f32 0] xs.length) 25)) := (Below.refl _ _).alloc (Nat.le_refl _) _
  have hsz : w.heap.size < (w.alloc (.cells (madeCells #[.float .f32 0] xs.length) 25)).heap.size := by simp
  obtain ⟨a, c, rfl, hcell⟩ := h.any
  have HC := Lib.hid hcell
  have HST := Lib.hid hst
  clear hcell hst h
  go_enter Tryz.func15, Tryz.ntmps15
  go_wp2
  clear hmk
  generalize w.alloc (.cells (madeCells #[.float .f32 0] xs.length) 25) = w1 at *
  go_loopw [4] (fun i wr => ∃ k : Nat, k ≤ xs.length ∧ i = .int .i64 (k : Int) ∧ Below w.heap.size w wr ∧ w.heap.size < wr.heap.size ∧ MadeF wr w.heap.size xs.length k xs) (fun i _ => xs.length - (intOf i).toNat)
  case atStart => exact ⟨0, Nat.zero_le _, rfl, hbel, hsz, HST.out⟩
  case round =>
    obtain ⟨k, hk, rfl, hb, hs, hm⟩ := hrel
    have HM := Lib.hid hm
    clear hm HST
    by_cases hlt : k < xs.length
    · obtain ⟨g, o, rfl, hcap, hcc⟩ := HC.out k hlt
      have hc0 := (grown_of hb).cell hcc (by simp)
      obtain ⟨⟨x0, hx0⟩, hf0⟩ := HM.out.at k hlt
      have hm3 := HM.out.step hlt (Nat.le_refl _)
      generalize xs[k] = x at *
      have HM3 := Lib.hid hm3
      clear hm3 hcc
      go_wp2
      go_roundw
      case rel => exact ⟨k + 1, by omega, by go_num, hb.setCell (Nat.le_refl _) _, by simpa [World.setCell] using hs, HM3.out⟩
      case measure => simp [intOf]; omega
    · have hkk : k = xs.length := by omega
      subst hkk
      go_wp2
      go_ret
      exact ⟨_, rfl, HM.out.new rfl (Nat.le_refl _), hb⟩

/-- The numbers that the laws mark with. -/
def marks (n : Nat) : List Nat := (List.range n).map fun (i : Nat) => floatOfInt .f32 ((i : Int) + 1)
def MarkPost (base : Nat) (v : Value) (n : Nat) (w : World) (e : Ending) (w' : World) : Prop := e = .returned (.int .i64 ((n : Int) + 1)) ∧ FNew w' base v (marks n) ∧ w.grownBy w' v.ownBlock
theorem MarkPost.mk {base : Nat} {v : Value} {n : Nat} {w w' : World} {m : Int} (hm : m = (n : Int) + 1) (h : FNew w' base v (marks n)) (hg : w.grownBy w' v.ownBlock) : MarkPost base v n w (.returned (.int .i64 m)) w' := ⟨by rw [hm], h, hg⟩
theorem ofInt_num (n : Int) : (Ieee.single.read (floatOfInt .f32 n)).isNaN = false := Flt.nearest_ok Ieee.single (n < 0) n.natAbs 0
theorem ofInt_self (n : Int) : FloatKind.f32.format.order (floatOfInt .f32 n) (floatOfInt .f32 n) = some .eq := Flt.order_self (f := Ieee.single) (ofInt_num n)
end Go.Proofs.YtobpnoiienpipaaGreat
