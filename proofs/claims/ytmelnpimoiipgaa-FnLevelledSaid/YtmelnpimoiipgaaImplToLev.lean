/-
  What is proved: the walk of the program's ToLevel.
  Conditions: the line can be read.
-/
import Derived.Test.YtmelnpimoiipgaaImplLevel
import Derived.Test.YtmelnpimoiipgaaSpecToLev
import Derived.Test.YtmelnpimoiipgaaPkCh
import Derived.Test.YtmelnpimoiipgaaPkMake
namespace Go.Proofs.Ytmelnpimoiipgaa
set_option linter.unusedVariables false
open Go.RowKit
attribute [local go_sem] run_store_float run_store_complex unary_negf neg256

theorem level1_any (x blk d lft p q : Nat) (W : World) (h1 : W.cell? ⟨p, 0, none⟩ = some (.float .f32 lft)) (h2 : W.cell? ⟨q, 0, none⟩ = some (.float .f32 blk)) (hd : floatBits .sub .f32 x blk = some d) :
    Calls Try.prog 74 #[.float .f32 x, .pointer (some ⟨p, 0, none⟩), .pointer (some ⟨q, 0, none⟩)] W fun e w' => ∃ r, e = .returned (.float .f32 r) ∧ Res .mul d lft r ∧ Below W.heap.size W w' := by
  have hD := fun W => arith_ok hd W
  clear hd
  rcases res_any .mul (.inr (.inr (.inl rfl))) lft d with ⟨r, hr, hrun⟩ | hrun
  · have HR := Lib.hid hr.mul_comm
    clear hr
    go_enter Try.func74, Try.ntmps74
    go_wp2
    go_ret
    exact ⟨r, rfl, HR.out, Below.refl _ _⟩
  · obtain ⟨r, hr, hrw⟩ := hrun W
    have HR := Lib.hid hr.mul_comm
    clear hr hrun
    go_enter Try.func74, Try.ntmps74
    go_wp2
    go_ret
    exact ⟨r, rfl, HR.out, (Below.refl _ _).drew⟩
theorem MadeF.more {w : World} {b n k r : Nat} {rs : List Nat} (h : MadeF w b n k rs) (hl : rs.length = k) (hk : k < n) : MadeF (w.setCell ⟨b, k, none⟩ (.float .f32 r)) b n (k + 1) (rs ++ [r]) := by
  have h2 : MadeF w b n k (rs ++ [r]) := by
    obtain ⟨cur, h1, h2, h3⟩ := h
    refine ⟨cur, h1, h2, fun i hi hik => ?_⟩
    rw [List.getElem_append_left (by omega)]
    exact h3 i (by omega) hik
  have hs := h2.step (by simp; omega) (by simp; omega)
  have e : (rs ++ [r])[k]'(by simp; omega) = r := by subst hl; simp
  rwa [e] at hs
/-- What the walk that brings samples to level answers. -/
def LevAns (xs : List Nat) (w : World) (e : Ending) (w' : World) : Prop := ∃ v' rs, e = .returned v' ∧ rs.length = xs.length ∧ LevL xs xs rs ∧ FNew w' w.heap.size v' rs ∧ Below w.heap.size w w'
set_option maxHeartbeats 2000000 in
theorem changedLev_any (p q : Nat) (v : Value) (xs : List Nat) (w : World) (h : FRow w v xs) (hlv : lvOk xs = true) (hl : xs.length ≤ 4000000)
    (h1 : w.cell? ⟨p, 0, none⟩ = some (.float .f32 (liftOf xs))) (h2 : w.cell? ⟨q, 0, none⟩ = some (.float .f32 (blackOf xs))) :
    Calls Try.prog 73 #[v, .func (.func 74) #[] #[.pointer (some ⟨p, 0, none⟩), .pointer (some ⟨q, 0, none⟩)]] w fun e w' => LevAns xs w e w' := by
  obtain ⟨a, c, rfl, hcell⟩ := h.any
  have HC := Lib.hid hcell
  have hlo := lvOk_line hlv
  have HD := Lib.hid (fun k (hk : k < xs.length) => diff_run hlo (List.getElem_mem hk))
  have HP := Lib.hid h1
  have HQ := Lib.hid h2
  have hpw := World.block_lt_of_cell? _ _ h1
  have hqw := World.block_lt_of_cell? _ _ h2
  have hmk := make_floats xs.length (by omega)
  clear hcell h h1 h2 hlo hlv
  go_enter Try.func73, Try.ntmps73
  go_wp2
  have hst := MadeF.start w xs.length []
  have hbel : Below w.heap.size w (w.alloc (.cells (madeCells #[.float .f32 0] xs.length) 25)) := (Below.refl _ _).alloc (Nat.le_refl _) _
  have hsz : w.heap.size < (w.alloc (.cells (madeCells #[.float .f32 0] xs.length) 25)).heap.size := by simp
  clear hmk
  generalize w.alloc (.cells (madeCells #[.float .f32 0] xs.length) 25) = w1 at *
  go_loopw [13] (fun i wr => ∃ (k : Nat) (rs : List Nat), k ≤ xs.length ∧ i = .int .i64 (k : Int) ∧ rs.length = k ∧ LevL xs xs rs ∧ Below w.heap.size w wr ∧ w.heap.size < wr.heap.size ∧ MadeF wr w.heap.size xs.length k rs) (fun i _ => xs.length - (intOf i).toNat)
  case atStart => exact ⟨0, [], Nat.zero_le _, rfl, rfl, LevL.nil _ _, hbel, hsz, hst⟩
  case round =>
    obtain ⟨k, rs, hk, rfl, hrl, hrr, hb, hs, hm⟩ := hrel
    have HM := Lib.hid hm
    have HRR := Lib.hid (And.intro hrl hrr)
    clear hm hrl hrr
    by_cases hlt : k < xs.length
    · obtain ⟨g, o, rfl, hcap, hc0⟩ := HC.out k hlt
      have hd0 := (grown_of hb).cell hc0 (by simp)
      have HK := Lib.hid (level1_any xs[k] (blackOf xs) (diffOf xs xs[k]) (liftOf xs) p q wr ((grown_of hb).cell HP.out (by simp)) ((grown_of hb).cell HQ.out (by simp)) (HD.out k hlt))
      have HNX := Lib.hid (fun r hr => (HRR.out.2).snoc (r := r) HRR.out.1 hlt hr)
      clear hc0
      generalize diffOf xs xs[k] = d at *
      generalize xs[k] = x at *
      go_wp2_with fail
      refine HK.out.mono ?_
      rintro e w2 ⟨r, rfl, hr, hb2⟩
      have hm2 : MadeF w2 w.heap.size xs.length k rs := HM.out.kept (hb2.block _ hs)
      have hbw : Below w.heap.size w w2 := hb.trans (hb2.mono (by omega))
      have hs2 : w.heap.size < w2.heap.size := Nat.lt_of_lt_of_le hs hb2.size
      obtain ⟨⟨x0, hx0⟩, hf0⟩ := hm2.at k hlt
      have HM3 := Lib.hid (hm2.more (r := r) HRR.out.1 hlt)
      have HRN := Lib.hid (HNX.out r hr)
      clear hm2 hb2 hd0 hr
      go_wp2
      go_roundw
      case rel => exact ⟨k + 1, rs ++ [r], by omega, by go_num, by simp [HRR.out.1], HRN.out, hbw.setCell (Nat.le_refl _) _, by simpa [World.setCell] using hs2, HM3.out⟩
      case measure => simp [intOf]; omega
    · have hkk : k = xs.length := by omega
      subst hkk
      have HF := Lib.hid (HM.out.new HRR.out.1 (Nat.le_refl _))
      go_wp2
      go_ret
      exact ⟨_, rs, rfl, HRR.out.1, HRR.out.2, HF.out, hb⟩
set_option maxRecDepth 100000 in
set_option maxHeartbeats 4000000 in
theorem toLevel_any (v : Value) (xs : List Nat) (w : World) (h : FRow w v xs) (hl : xs.length ≤ 4000000) :
    Calls Try.prog 28 #[v] w fun e w' => Ans (levOk xs) (levR xs) w e w' := by
  have HLV := Lib.hid (levels_any v xs w h hl)
  cases hlv : lvOk xs with
  | false =>
    have HNO := Lib.hid (levOk_no hlv)
    unfold LevPost at HLV
    rw [hlv] at HLV
    clear hlv h
    go_enter Try.func28, Try.ntmps28
    go_wp2_with fail
    refine HLV.out.mono ?_
    rintro e w2 ⟨rfl, hb2⟩
    have HB2 := Lib.hid (hb2.alloc hb2.size (.cells #[.float .f32 0] 25))
    go_wp2
    go_ret2
    exact ansLev_no HNO.out rfl (FNew.nil _ _) HB2.out
  | true =>
    have HLVN := Lib.hid hlv
    have hG := fun W => arith_ok (gap_run hlv).1 W
    have hK := fun W => arith_ok (lift_run hlv) W
    have HDN := Lib.hid (fun rs hl hh => levL_done (rs := rs) hlv hl hh)
    have HR := Lib.hid h
    unfold LevPost at HLV
    rw [hlv, if_pos rfl, if_pos rfl] at HLV
    obtain ⟨tip, htip⟩ : ∃ t, tipOf xs = t := ⟨_, rfl⟩
    obtain ⟨blk, hblk⟩ : ∃ t, blackOf xs = t := ⟨_, rfl⟩
    obtain ⟨gap, hgap⟩ : ∃ t, gapOf xs = t := ⟨_, rfl⟩
    obtain ⟨lft, hlft⟩ : ∃ t, liftOf xs = t := ⟨_, rfl⟩
    rw [htip, hblk] at HLV
    rw [htip, hblk, hgap] at hG
    rw [hgap, hlft] at hK
    have HE := Lib.hid (And.intro hblk hlft)
    clear hlv htip hblk hgap hlft h
    go_enter Try.func28, Try.ntmps28
    go_wp2_with fail
    refine HLV.out.mono ?_
    rintro e w2 ⟨rfl, hb2⟩
    have HB2 := Lib.hid hb2
    clear hb2 HLV
    go_wp2_with fail
    have hb3 : Below w.heap.size w ((w2.alloc (.cells #[.float .f32 blk] 25)).alloc (.cells #[.float .f32 lft] 25)) := (HB2.out.alloc HB2.out.size _).alloc (by have := HB2.out.size; simp; omega) _
    have c1 : ((w2.alloc (.cells #[.float .f32 blk] 25)).alloc (.cells #[.float .f32 lft] 25)).cell? ⟨w2.heap.size + 1, 0, none⟩ = some (.float .f32 lft) := lit_cell2 lft w2 _
    have c0 : ((w2.alloc (.cells #[.float .f32 blk] 25)).alloc (.cells #[.float .f32 lft] 25)).cell? ⟨w2.heap.size, 0, none⟩ = some (.float .f32 blk) := (cell_of_row _ _ 0 _ _ _ ((Below.heap_alloc _ _ _ (by simp)).trans (heap_alloc_new w2 _))).trans rfl
    generalize (w2.alloc (.cells #[.float .f32 blk] 25)).alloc (.cells #[.float .f32 lft] 25) = w3 at *
    rw [← HE.out.2] at c1
    rw [← HE.out.1] at c0
    refine (changedLev_any (w2.heap.size + 1) w2.heap.size v xs w3 (HR.out.below hb3) HLVN.out hl c1 c0).mono ?_
    rintro e w4 ⟨v', rs, rfl, hrl, hrr, hn4, hb4⟩
    have HN4 := Lib.hid (hn4.mono hb3.size)
    have HEND := Lib.hid (HDN.out rs hrr hrl)
    have HB4 := Lib.hid (below_trans hb3 hb4 hb3.size)
    have HLO := Lib.hid (lineOk_any v' rs w4 hn4.row (by omega))
    clear hrr hn4 hb4 hb3 c1 c0 hG hK hrl
    cases hro : lineOk rs with
    | true =>
      rw [hro] at HLO
      have HY := Lib.hid (And.intro (HEND.out.1.trans hro) (HEND.out.2 hro))
      clear hro
      go_wp2_with fail
      refine HLO.out.mono ?_
      rintro e w7 ⟨rfl, rfl⟩
      go_wp2
      go_ret2
      exact ansLev_yes HY.out.1 HY.out.2 HN4.out HB4.out
    | false =>
      rw [hro] at HLO
      have HY := Lib.hid (HEND.out.1.trans hro)
      clear hro
      go_wp2_with fail
      refine HLO.out.mono ?_
      rintro e w7 ⟨rfl, rfl⟩
      go_wp2
      go_ret2
      exact ansLev_no HY.out rfl (FNew.nil _ _) HB4.out
end Go.Proofs.Ytmelnpimoiipgaa
