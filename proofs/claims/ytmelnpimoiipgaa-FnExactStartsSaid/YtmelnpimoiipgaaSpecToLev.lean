/-
  What is proved: the walk of the model's ToLevel.
  Conditions: the line can be read.
-/
import Derived.Test.YtmelnpimoiipgaaSpecLevel
import Derived.Test.YtmelnpimoiipgaaDelay
namespace Go.Proofs.Ytmelnpimoiipgaa
set_option linter.unusedVariables false
open Go.RowKit
open Flt (Mag sumv subv mulv quov)
attribute [local go_sem] run_store_float run_store_complex unary_negf neg256

theorem ansLev_no {xs ys : List Nat} {w w' : World} {v : Value} (h : levOk xs = false) (hy : ys = []) (hn : FNew w' w.heap.size v ys) (hb : Below w.heap.size w w') : Ans (levOk xs) (levR xs) w (.returned (.tuple #[v, .bool false])) w' := by
  subst hy; exact ⟨v, [], by rw [h], by unfold levR; rw [h]; rfl, hn, hb⟩
theorem ansLev_yes {xs rs : List Nat} {w w' : World} {v : Value} (h : levOk xs = true) (hr : levs xs = rs) (hn : FNew w' w.heap.size v rs) (hb : Below w.heap.size w w') : Ans (levOk xs) (levR xs) w (.returned (.tuple #[v, .bool true])) w' :=
  ⟨v, rs, by rw [h], by unfold levR; rw [h]; exact hr.symm, hn, hb⟩
theorem levOk_no {xs : List Nat} (h : lvOk xs = false) : levOk xs = false := by unfold levOk; rw [h]; rfl
set_option maxHeartbeats 4000000 in
theorem specToLevel_any (v : Value) (xs : List Nat) (w : World) (h : FRow w v xs) (hl : xs.length ≤ 4000000) :
    Calls Try.prog 51 #[v] w fun e w' => Ans (levOk xs) (levR xs) w e w' := by
  have HOW := Lib.hid (OwnF.made0 w)
  have HB := Lib.hid ((Below.refl w.heap.size w).alloc (Nat.le_refl _) (.cells #[] 25))
  have HSZ := Lib.hid (show w.heap.size < (w.alloc (.cells #[] 25)).heap.size by simp)
  have HR := Lib.hid (h.below HB.out)
  have HLV := Lib.hid (specLevels_any v xs (w.alloc (.cells #[] 25)) HR.out hl)
  obtain ⟨a, c, rfl, hcell⟩ := h.any
  have HC := Lib.hid hcell
  clear h hcell
  cases hlv : lvOk xs with
  | false =>
    have HNO := Lib.hid (levOk_no hlv)
    have HLVN := Lib.hid hlv
    clear hlv
    go_enter Try.func51, Try.ntmps51
    go_wp2_with fail
    generalize w.alloc (.cells #[] 25) = w1 at *
    refine HLV.out.mono ?_
    rintro e w2 ⟨rfl, hb2⟩
    rw [HLVN.out]
    have hb02 := below_trans HB.out hb2 HB.out.size
    have HN := Lib.hid ((HOW.out.kept (grown_of hb2) (.inr (by intro e; cases e))).new)
    go_wp2
    go_ret2
    exact ansLev_no HNO.out rfl HN.out hb02
  | true =>
    have HLVN := Lib.hid hlv
    have hlo := lvOk_line hlv
    have hlen := (lineOk_len hlo).2.2
    have HG := Lib.hid (fun W => arith_ok (gap_run hlv).1 W)
    have HK := Lib.hid (fun W => arith_ok (lift_run hlv) W)
    have HD := Lib.hid (fun k (hk : k < xs.length) W => arith_ok (diff_run hlo (List.getElem_mem hk)) W)
    have HDN := Lib.hid (fun rs hl hh => levL_done (rs := rs) hlv hl hh)
    obtain ⟨tip, htip⟩ : ∃ t, tipOf xs = t := ⟨_, rfl⟩
    obtain ⟨blk, hblk⟩ : ∃ t, blackOf xs = t := ⟨_, rfl⟩
    obtain ⟨gap, hgap⟩ : ∃ t, gapOf xs = t := ⟨_, rfl⟩
    obtain ⟨lft, hlft⟩ : ∃ t, liftOf xs = t := ⟨_, rfl⟩
    unfold LevPost at HLV
    rw [hlv, if_pos rfl, if_pos rfl, htip, hblk] at HLV
    rw [htip, hblk, hgap] at HG
    rw [hgap, hlft] at HK
    rw [hblk] at HD
    have hG := HG.out
    have hK := HK.out
    have HLFT := Lib.hid hlft
    clear hlv hlo htip hblk hgap hlft HG HK
    go_enter Try.func51, Try.ntmps51
    go_wp2_with fail
    generalize w.alloc (.cells #[] 25) = w1 at *
    refine HLV.out.mono ?_
    rintro e w2 ⟨rfl, hb2⟩
    have hb02 := below_trans HB.out hb2 HB.out.size
    have HO2 := Lib.hid (HOW.out.kept (grown_of hb2) (.inr (by intro e; cases e)))
    have hsz2 : w.heap.size < w2.heap.size := by have := HSZ.out; have := hb2.size; omega
    clear HLV HOW hb2
    go_wp2
    clear hG hK
    go_loopw [4, 9] (fun out i wr => ∃ (k g cap : Nat) (rs : List Nat), k ≤ xs.length ∧ i = .int .i64 (k : Int) ∧ out = .slice (some ⟨g, 0, none⟩) k cap ∧ rs.length = k ∧ LevL xs xs rs ∧ Below w.heap.size w wr ∧ OwnF wr w.heap.size (.slice (some ⟨g, 0, none⟩) k cap) rs) (fun _ i _ => xs.length - (intOf i).toNat)
    case atStart => exact ⟨0, _, 0, [], Nat.zero_le _, rfl, rfl, rfl, LevL.nil _ _, hb02, HO2.out⟩
    case round =>
      obtain ⟨k, g, cap, rs, hk, rfl, rfl, hrl, hrr, hb, ho⟩ := hrel
      have HOK := Lib.hid ho
      have HRR := Lib.hid (And.intro hrl hrr)
      have hsr : w.heap.size ≤ wr.heap.size := hb.size
      clear ho hrl hrr
      by_cases hlt : k < xs.length
      · obtain ⟨g1, o1, rfl, hcap1, hcc⟩ := HC.out k hlt
        have hc0 := (grown_of hb).cell hcc (by simp)
        have hD := HD.out k hlt
        have HNX := Lib.hid (fun r hr => (HRR.out.2).snoc (r := r) HRR.out.1 hlt hr)
        rw [HLFT.out] at HNX
        clear hcc
        generalize diffOf xs xs[k] = d at *
        generalize xs[k] = x at *
        rcases res_any .mul (.inr (.inr (.inl rfl))) d lft with ⟨r, hr, hrun⟩ | hrun
        · have HRN := Lib.hid (HNX.out r hr)
          clear hr
          go_wp2_with (at_builtin; refine ownF_snoc rfl (.tmp 37) (.tmp 41) rfl w.heap.size _ _ _ rfl (HOK.out.alloc _) HRR.out.1 _ rfl r (lit_cell r _) (by omega) (by simp; omega) ?_; intro g2 cap2 w6 ho6 hg6 hor6 hlt6)
          have hb6 := snoc_below hb HOK.out _ hg6
          have HO6 := Lib.hid ho6
          clear ho6 hg6 hor6
          go_wp2
          go_roundw
          case rel => exact ⟨k + 1, g2, cap2, rs ++ [r], by omega, by go_num, rfl, by simp [HRR.out.1], HRN.out, hb6, HO6.out⟩
          case measure => simp [intOf]; omega
        · obtain ⟨r, hr, hrw⟩ := hrun wr
          have HRN := Lib.hid (HNX.out r hr)
          have HOD := Lib.hid (show OwnF wr.drew w.heap.size (.slice (some ⟨g, 0, none⟩) k cap) rs from HOK.out)
          have HBD := Lib.hid (belowDN hb 1)
          clear hr hrun
          go_wp2_with (at_builtin; refine ownF_snoc rfl (.tmp 37) (.tmp 41) rfl w.heap.size _ _ _ rfl (HOD.out.alloc _) HRR.out.1 _ rfl r (lit_cell r _) (by omega) (by simp; omega) ?_; intro g2 cap2 w6 ho6 hg6 hor6 hlt6)
          have hb6 := snoc_below (show Below w.heap.size w wr.drew from HBD.out) HOD.out _ hg6
          have HO6 := Lib.hid ho6
          clear ho6 hg6 hor6
          go_wp2
          go_roundw
          case rel => exact ⟨k + 1, g2, cap2, rs ++ [r], by omega, by go_num, rfl, by simp [HRR.out.1], HRN.out, hb6, HO6.out⟩
          case measure => simp [intOf]; omega
      · have hkk : k = xs.length := by omega
        subst hkk
        have HEND := Lib.hid (HDN.out rs HRR.out.2 HRR.out.1)
        have HNW := Lib.hid HOK.out.new
        have HLO := Lib.hid (specLineOk_any (.slice (some ⟨g, 0, none⟩) xs.length cap) rs wr HNW.out.row (by have := HRR.out.1; omega))
        cases hro : lineOk rs with
        | true =>
          rw [hro] at HLO
          have HY := Lib.hid (And.intro (HEND.out.1.trans hro) (HEND.out.2 hro))
          clear hro
          go_wp2_with fail
          refine HLO.out.mono ?_
          rintro e w7 ⟨rfl, rfl⟩
          go_wp2
          go_ret2
          exact ansLev_yes HY.out.1 HY.out.2 HNW.out hb
        | false =>
          rw [hro] at HLO
          have HY := Lib.hid (HEND.out.1.trans hro)
          clear hro
          go_wp2_with fail
          refine HLO.out.mono ?_
          rintro e w7 ⟨rfl, rfl⟩
          have HN8 := Lib.hid ((OwnF.made0 wr).new.mono hsr)
          have hb8 := hb.alloc hsr (.cells #[] 25)
          go_wp2
          go_ret2
          exact ansLev_no HY.out rfl HN8.out hb8
end Go.Proofs.Ytmelnpimoiipgaa
