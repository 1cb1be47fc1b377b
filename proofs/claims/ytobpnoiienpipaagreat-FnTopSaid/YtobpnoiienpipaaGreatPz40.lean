/-
  What is proved: the walk of the program's ToLevel.
  Conditions: the line can be read.
-/
import Derived.Test.YtobpnoiienpipaaGreatPz39
import Derived.Test.YtobpnoiienpipaaGreatPz13
import Derived.Test.YtobpnoiienpipaaGreatPz09
import Derived.Test.YtobpnoiienpipaaGreatPz21
import Derived.Test.YtobpnoiienpipaaGreatPz28
import Derived.Test.YtobpnoiienpipaaGreatPz12
namespace Go.Proofs.YtobpnoiienpipaaGreat
set_option linter.unusedVariables false
open Go.RowKit
attribute [local go_sem] run_store_float run_store_complex unary_negf neg256

theorem level1_any (x blk d lft p q : Nat) (W : World) (h1 : W.cell? ⟨p, 0, none⟩ = some (.float .f32 lft)) (h2 : W.cell? ⟨q, 0, none⟩ = some (.float .f32 blk)) (hd : floatBits .sub .f32 x blk = some d) :
    Calls Tryz.prog 126 #[.float .f32 x, .pointer (some ⟨p, 0, none⟩), .pointer (some ⟨q, 0, none⟩)] W fun e w' => ∃ r, e = .returned (.float .f32 r) ∧ Res .mul d lft r ∧ Below W.heap.size W w' := by
  have hD := fun W => arith_ok hd W
  clear hd
  rcases res_any .mul (.inr (.inr (.inl rfl))) lft d with ⟨r, hr, hrun⟩ | hrun
  · have HR := Lib.hid hr.mul_comm
    clear hr
    go_enter Tryz.func126, Tryz.ntmps126
    go_wp2
    go_ret
    exact ⟨r, rfl, HR.out, Below.refl _ _⟩
  · obtain ⟨r, hr, hrw⟩ := hrun W
    have HR := Lib.hid hr.mul_comm
    clear hr hrun
    go_enter Tryz.func126, Tryz.ntmps126
    go_wp2
    go_ret
    exact ⟨r, rfl, HR.out, (Below.refl _ _).drew⟩
theorem MadeF.more {w : World} {b n k r : Nat} {rs : List Nat} (h : MadeF w b n k rs) (hl : rs.length = k) (hk : k < n) : MadeF (w.setCell ⟨b, k, none⟩ (.float .f32 r)) b n (k + 1) (rs ++ [r]) := by
  have h2 : MadeF w b n k (rs ++ [r]) := by
    obtain ⟨cur, h1, h2, h3⟩ := h
    refine ⟨cur, h1, h2, fun i hi hik => ?_⟩
    rw [List.getElem_append_left (by omega)]
    exact h3 i (by omega) hik
  have hs := h2.step (by simp; omega) (by simp; omega)
  have e : (rs ++ [r])[k]'(by simp; omega) = r := by subst hl; simp
  rwa [e] at hs
/-- What the walk that brings samples to level answers. -/
def LevAns (xs : List Nat) (w : World) (e : Ending) (w' : World) : Prop := ∃ v' rs, e = .returned v' ∧ rs.length = xs.length ∧ LevL xs xs rs ∧ FNew w' w.heap.size v' rs ∧ Below w.heap.size w w'
set_option maxHeartbeats 2000000 in
theorem changedLev_any (p q : Nat) (v : Value) (xs : List Nat) (w : World) (h : FRow w v xs) (hlv : lvOk xs = true) (hl : xs.length ≤ 4000000)
    (h1 : w.cell? ⟨p, 0, none⟩ = some (.float .f32 (liftOf xs))) (h2 : w.cell? ⟨q, 0, none⟩ = some (.float .f32 (blackOf xs))) :
    Calls Tryz.prog 125 #[v, .func (.func 126) #[] #[.pointer (some ⟨p, 0, none⟩), .pointer (some ⟨q, 0, none⟩)]] w fun e w' => LevAns xs w e w' := by
  obtain ⟨a, c, rfl, hcell⟩ := h.any
  have HC := Lib.hid hcell
  have hlo := lvOk_line hlv
  have HD := Lib.hid (fun k (hk : k < xs.length) => diff_run hlo (List.getElem_mem hk))
  have HP := Lib.hid h1
  have HQ := Lib.hid h2
  have hpw := World.block_lt_of_cell? _ _ h1
  have hqw := World.block_lt_of_cell? _ _ h2
  have hmk := make_floats xs.length (by omega)
  clear hcell h h1 h2 hlo hlv
  go_enter Tryz.func125, Tryz.ntmps125
  go_wp2
  have hst := MadeF.start w xs.length []
  have hbel : Below w.heap.size w (w.alloc (.cells (madeCells #[.float .f32 0] xs.length) 25)) := (Below.refl _ _).alloc (Nat.le_refl _) _
  have hsz : w.heap.size < (w.alloc (.cells (madeCells #[.float .f32 0] xs.length) 25)).heap.size := by simp
  clear hmk
  generalize w.alloc (.cells (madeCells #[.float .f32 0] xs.length) 25) = w1 at *
  go_loopw [13] (fun i wr => ∃ (k : Nat) (rs : List Nat), k ≤ xs.length ∧ i = .int .i64 (k : Int) ∧ rs.length = k ∧ LevL xs xs rs ∧ Below w.heap.size w wr ∧ w.heap.size < wr.heap.size ∧ MadeF wr w.heap.size xs.length k rs) (fun i _ => xs.length - (intOf i).toNat)
  case atStart => exact ⟨0, [], Nat.zero_le _, rfl, rfl, LevL.nil _ _, hbel, hsz, hst⟩
  case round =>
    obtain ⟨k, rs, hk, rfl, hrl, hrr, hb, hs, hm⟩ := hrel
    have HM := Lib.hid hm
    have HRR := Lib.hid (And.intro hrl hrr)
    clear hm hrl hrr
    by_cases hlt : k < xs.length
    · obtain ⟨g, o, rfl, hcap, hc0⟩ := HC.out k hlt
      have hd0 := (grown_of hb).cell hc0 (by simp)
      have HK := Lib.hid (level1_any xs[k] (blackOf xs) (diffOf xs xs[k]) (liftOf xs) p q wr ((grown_of hb).cell HP.out (by simp)) ((grown_of hb).cell HQ.out (by simp)) (HD.out k hlt))
      have HNX := Lib.hid (fun r hr => (HRR.out.2).snoc (r := r) HRR.out.1 hlt hr)
      clear hc0
      generalize diffOf xs xs[k] = d at *
      generalize xs[k] = x at *
      go_wp2_with fail
      refine HK.out.mono ?_
      rintro e w2 ⟨r, rfl, hr, hb2⟩
      have hm2 : MadeF w2 w.heap.size xs.length k rs := HM.out.kept (hb2.block _ hs)
      have hbw : Below w.heap.size w w2 := hb.trans (hb2.mono (by omega))
      have hs2 : w.heap.size < w2.heap.size := Nat.lt_of_lt_of_le hs hb2.size
      obtain ⟨⟨x0, hx0⟩, hf0⟩ := hm2.at k hlt
      have HM3 := Lib.hid (hm2.more (r := r) HRR.out.1 hlt)
      have HRN := Lib.hid (HNX.out r hr)
      clear hm2 hb2 hd0 hr
      go_wp2
      go_roundw
      case rel => exact ⟨k + 1, rs ++ [r], by omega, by go_num, by simp [HRR.out.1], HRN.out, hbw.setCell (Nat.le_refl _) _, by simpa [World.setCell] using hs2, HM3.out⟩
      case measure => simp [intOf]; omega
    · have hkk : k = xs.length := by omega
      subst hkk
      have HF := Lib.hid (HM.out.new HRR.out.1 (Nat.le_refl _))
      go_wp2
      go_ret
      exact ⟨_, rs, rfl, HRR.out.1, HRR.out.2, HF.out, hb⟩
set_option maxRecDepth 100000 in
set_option maxHeartbeats 4000000 in
theorem toLevel_any (v : Value) (xs : List Nat) (w : World) (h : FRow w v xs) (hl : xs.length ≤ 4000000) :
    Calls Tryz.prog 97 #[v] w fun e w' => Ans (levOk xs) (levR xs) w e w' := by
  have HLV := Lib.hid (levels_any v xs w h hl)
  cases hlv : lvOk xs with
  | false =>
    have HNO := Lib.hid (levOk_no hlv)
    unfold LevPost at HLV
    rw [hlv] at HLV
    clear hlv h
    go_enter Tryz.func97, Tryz.ntmps97
    go_wp2_with fail
    refine HLV.out.mono ?_
    rintro e w2 ⟨rfl, hb2⟩
    have HB2 := Lib.hid (hb2.alloc hb2.size (.cells #[.float .f32 0] 25))
    go_wp2
    go_ret2
    exact ansLev_no HNO.out rfl (FNew.nil _ _) HB2.out
  | true =>
    have HLVN := Lib.hid hlv
    have hG := fun W => arith_ok (gap_run hlv).1 W
    have hK := fun W => arith_ok (lift_run hlv) W
    have HDN := Lib.hid (fun rs hl hh => levL_done (rs := rs) hlv hl hh)
    have HR := Lib.hid h
    unfold LevPost at HLV
    rw [hlv, if_pos rfl, if_pos rfl] at HLV
    obtain ⟨tip, htip⟩ : ∃ t, tipOf xs = t := ⟨_, rfl⟩
    obtain ⟨blk, hblk⟩ : ∃ t, blackOf xs = t := ⟨_, rfl⟩
    obtain ⟨gap, hgap⟩ : ∃ t, gapOf xs = t := ⟨_, rfl⟩
    obtain ⟨lft, hlft⟩ : ∃ t, liftOf xs = t := ⟨_, rfl⟩
    rw [htip, hblk] at HLV
    rw [htip, hblk, hgap] at hG
    rw [hgap, hlft] at hK
    have HE := Lib.hid (And.intro hblk hlft)
    clear hlv htip hblk hgap hlft h
    go_enter Tryz.func97, Tryz.ntmps97
    go_wp2_with fail
    refine HLV.out.mono ?_
    rintro e w2 ⟨rfl, hb2⟩
    have HB2 := Lib.hid hb2
    clear hb2 HLV
    go_wp2_with fail
    have hb3 : Below w.heap.size w ((w2.alloc (.cells #[.float .f32 blk] 25)).alloc (.cells #[.float .f32 lft] 25)) := (HB2.out.alloc HB2.out.size _).alloc (by have := HB2.out.size; simp; omega) _
    have c1 : ((w2.alloc (.cells #[.float .f32 blk] 25)).alloc (.cells #[.float .f32 lft] 25)).cell? ⟨w2.heap.size + 1, 0, none⟩ = some (.float .f32 lft) := lit_cell2 lft w2 _
    have c0 : ((w2.alloc (.cells #[.float .f32 blk] 25)).alloc (.cells #[.float .f32 lft] 25)).cell? ⟨w2.heap.size, 0, none⟩ = some (.float .f32 blk) := (cell_of_row _ _ 0 _ _ _ ((Below.heap_alloc _ _ _ (by simp)).trans (heap_alloc_new w2 _))).trans rfl
    generalize (w2.alloc (.cells #[.float .f32 blk] 25)).alloc (.cells #[.float .f32 lft] 25) = w3 at *
    rw [← HE.out.2] at c1
    rw [← HE.out.1] at c0
    refine (changedLev_any (w2.heap.size + 1) w2.heap.size v xs w3 (HR.out.below hb3) HLVN.out hl c1 c0).mono ?_
    rintro e w4 ⟨v', rs, rfl, hrl, hrr, hn4, hb4⟩
    have HN4 := Lib.hid (hn4.mono hb3.size)
    have HEND := Lib.hid (HDN.out rs hrr hrl)
    have HB4 := Lib.hid (below_trans hb3 hb4 hb3.size)
    have HLO := Lib.hid (lineOk_any v' rs w4 hn4.row (by omega))
    clear hrr hn4 hb4 hb3 c1 c0 hG hK hrl
    cases hro : lineOk rs with
    | true =>
      rw [hro] at HLO
      have HY := Lib.hid (And.intro (HEND.out.1.trans hro) (HEND.out.2 hro))
      clear hro
      go_wp2_with fail
      refine HLO.out.mono ?_
      rintro e w7 ⟨rfl, rfl⟩
      go_wp2
      go_ret2
      exact ansLev_yes HY.out.1 HY.out.2 HN4.out HB4.out
    | false =>
      rw [hro] at HLO
      have HY := Lib.hid (HEND.out.1.trans hro)
      clear hro
      go_wp2_with fail
      refine HLO.out.mono ?_
      rintro e w7 ⟨rfl, rfl⟩
      go_wp2
      go_ret2
      exact ansLev_no HY.out rfl (FNew.nil _ _) HB4.out
end Go.Proofs.YtobpnoiienpipaaGreat

/-
  What is proved: what the program answers of two lines that are decoded together.
  Conditions: the lines can be read.
-/
namespace Go.Proofs.YtobpnoiienpipaaGreat
set_option linter.unusedVariables false
open Go.RowKit
attribute [local go_sem] run_store_float run_store_complex unary_negf neg256

theorem GridN.none0 (w : World) (base : Nat) : GridN w base (.slice none 0 0) [] [] :=
  ⟨Lay.ownNil LSc w base, rfl, fun i h => absurd h (by simp), fun i j h => absurd h (by simp), fun i h => absurd h (by simp)⟩
theorem RNew.lenx {w : World} {base : Nat} {a : Option Addr} {n c : Nat} {cs : List C3} (h : RNew w base (.slice a n c) cs) : n = cs.length := by
  rcases h with ⟨e, rfl⟩ | ⟨g, cap, cur, e, _⟩
  · cases e; rfl
  · cases e; rfl
set_option maxHeartbeats 2000000 in
set_option maxRecDepth 100000 in
theorem decodePair_any (v v' : Value) (xs ys : List Nat) (w : World) (h : FRow w v xs) (h' : FRow w v' ys) (hl : xs.length ≤ 4000000) (hl' : ys.length ≤ 4000000) :
    Calls Tryz.prog 128 #[v, v'] w fun e w' => PairA xs ys w e w' := by
  have HB := Lib.hid (decodedAlone_any v v' xs ys w h h' hl hl')
  have HSW := fun W hr hr' => Lib.hid (swing_any v v' xs ys W hr hr' hl hl')
  have HR := Lib.hid h
  have HR' := Lib.hid h'
  obtain ⟨n, c, o, rfl⟩ := h.lenv2
  obtain ⟨n', c', o', rfl⟩ := h'.lenv2
  clear h h'
  go_enter Tryz.func128, Tryz.ntmps128
  go_wp2_with fail
  refine HB.out.mono ?_
  rintro e w1 ⟨x, y, ps, qs, o1, o2, rfl, a1, a2, nx, ny, hap, hb1⟩
  obtain ⟨xa, xn, xc, rfl⟩ := nx.lenv2
  obtain ⟨ya, yn, yc, rfl⟩ := ny.lenv2
  have HA1 := Lib.hid a1
  have HA2 := Lib.hid a2
  have HNX := Lib.hid nx
  have HNY := Lib.hid ny
  have HAP := Lib.hid hap
  obtain ⟨okk, hok⟩ : ∃ okk, (o1 && (o2 && decide (ps.length = qs.length))) = okk := ⟨_, rfl⟩
  have hxl := nx.lenx
  have hyl := ny.lenx
  cases okk with
  | false =>
    have HOK := Lib.hid hok
    have hbn : (!(o1 && o2)) = true ∨ ((o1 = true ∧ o2 = true) ∧ ((xn : Int) != (yn : Int)) = true) := by
      cases o1
      · exact .inl rfl
      · cases o2
        · exact .inl rfl
        · refine .inr ⟨⟨rfl, rfl⟩, ?_⟩
          have h1 : ps.length ≠ qs.length := by simpa using hok
          simp; omega
    have HBB := Lib.hid ((below_trans (Below.refl w.heap.size w) hb1 (Nat.le_refl _)).alloc hb1.size (.cells #[.slice xa xn xc, .slice ya yn yc] 166))
    clear a1 a2 nx ny hap HB hok hxl hyl hb1
    rcases hbn with hbn | ⟨⟨rfl, rfl⟩, hbn⟩
    · generalize (o1 && o2) = t at *
      have ht : t = false := by cases t <;> simp_all
      subst ht
      clear hbn
      go_wp2
      go_ret2
      exact ⟨_, [], [], false, rfl, ⟨ps, qs, o1, o2, HA1.out, HA2.out, HOK.out.symm, (fun h => by cases h), fun _ => rfl⟩, GridN.none0 _ _, HBB.out⟩
    · go_wp2
      go_ret2
      exact ⟨_, [], [], false, rfl, ⟨ps, qs, _, _, HA1.out, HA2.out, HOK.out.symm, (fun h => by cases h), fun _ => rfl⟩, GridN.none0 _ _, HBB.out⟩
  | true =>
    have hok2 := hok
    rw [Bool.and_eq_true, Bool.and_eq_true, decide_eq_true_iff] at hok2
    obtain ⟨rfl, rfl, hlen⟩ := hok2
    have r1 := aloneRR_rok a1 rfl
    have r2 := aloneRR_rok a2 rfl
    have f1 := aloneRR_fit a1
    have f2 := aloneRR_fit a2
    obtain ⟨gx, cx, ex, hcx, hbx, hgx⟩ := nx.someD (rok_ne r1)
    obtain ⟨gy, cy, ey, hcy, hby, hgy⟩ := ny.someD (rok_ne r2)
    rw [← hlen] at ey hcy
    cases ex
    cases ey
    have hl64 : ps.length ≤ 64 := (rok_iff.1 r1).1.2
    have hne : gx ≠ gy := fun e => hap gx rfl (by rw [e]; rfl)
    have hbn : ((ps.length : Int) != (ps.length : Int)) = false := by simp
    have HFIN := Lib.hid (fun k (hk : k < ps.length) (hkq : k < qs.length) => And.intro ((rok_iff.1 r1).2 _ (List.getElem_mem hk)) (And.intro ((rok_iff.1 r2).2 _ (List.getElem_mem hkq)) (And.intro (f1 _ (List.getElem_mem hk)).2.2 (f2 _ (List.getElem_mem hkq)).2.2)))
    have HLEN := Lib.hid hlen
    have HOK := Lib.hid hok
    obtain ⟨B, hB⟩ : ∃ B, w1.heap.size = B := ⟨_, rfl⟩
    obtain ⟨w2, hw2⟩ : ∃ w2, w1.alloc (.cells #[.slice (some ⟨gx, 0, none⟩) ps.length xc, .slice (some ⟨gy, 0, none⟩) ps.length yc] 166) = w2 := ⟨_, rfl⟩
    have hT : Two w2 B 166 (.slice (some ⟨gx, 0, none⟩) ps.length xc) (.slice (some ⟨gy, 0, none⟩) ps.length yc) := by rw [← hB, ← hw2]; exact heap_alloc_new w1 _
    have hb2 : Below w.heap.size w w2 := by rw [← hw2]; exact hb1.alloc hb1.size _
    have hb12 : Below w1.heap.size w1 w2 := by rw [← hw2]; exact (Below.refl _ _).alloc (Nat.le_refl _) _
    have HX2 := Lib.hid (nx.below hb12)
    have HY2 := Lib.hid (ny.below hb12)
    have hwB : w.heap.size ≤ B := by have := hb1.size; omega
    have hgxB : gx < B := by omega
    have hgyB : gy < B := by omega
    have hB2 : B < w2.heap.size := hT.lt
    clear a1 a2 nx ny hap HB hok hxl hyl r1 r2 f1 f2 hlen HNX HNY HAP hcy
    have HTT := Lib.hid hT
    have c0 := HTT.out.c0
    have c1 := HTT.out.c1
    clear hT
    go_wp2_with fail
    refine (HSW w2 (HR.out.below hb2) (HR'.out.below hb2)).out.mono ?_
    rintro e w3 ⟨m, rfl, hm, hb3⟩
    have HM := Lib.hid hm
    have hT3 := Lib.hid (HTT.out.below hb3)
    have hb03 := below_trans hb2 hb3 hb2.size
    have HKS := Lib.hid (show PairK w m gx xc gy yc ps qs 0 w3 from ⟨hb03, by simpa using HX2.out.below hb3, by simpa using HY2.out.below hb3⟩)
    have HSH := Lib.hid (shared_any m w3)
    clear c0 c1 hm HTT HSW HX2 HY2 hb3 hb2 hb12 hw2 hB HR HR'
    go_wp2_with fail
    refine HSH.out.mono ?_
    rintro e w4 ⟨kf, hkf, rfl, hmix, rfl⟩
    have HMX := Lib.hid (fun k (hk : k < ps.length) (hkq : k < qs.length) W => Lib.hid (hmix.at ps[k] qs[k] W (HFIN.out k hk hkq).1.2.1 (HFIN.out k hk hkq).1.2.2 (HFIN.out k hk hkq).2.1.2.1 (HFIN.out k hk hkq).2.1.2.2 (HFIN.out k hk hkq).2.2.1 (HFIN.out k hk hkq).2.2.2))
    clear hmix HFIN HSH
    have c0 := hT3.out.c0
    have c1 := hT3.out.c1
    rcases hkf with rfl | rfl | rfl
    all_goals
      go_wp2
      go_loopw [36] (fun i wr => ∃ k : Nat, k ≤ ps.length ∧ i = .int .i64 (k : Int) ∧ PairK w m gx xc gy yc ps qs k wr ∧ Two wr B 166 (.slice (some ⟨gx, 0, none⟩) ps.length xc) (.slice (some ⟨gy, 0, none⟩) ps.length yc)) (fun i _ => ps.length - (intOf i).toNat)
      case atStart => exact ⟨0, Nat.zero_le _, rfl, HKS.out, hT3.out⟩
      case round =>
        clear c0 c1 HKS hT3 hb03
        obtain ⟨k, hk, rfl, hp, ht⟩ := hrel
        have HP := Lib.hid hp
        have HT := Lib.hid ht
        clear hp ht
        have c0 := HT.out.c0
        have c1 := HT.out.c1
        by_cases hlt : k < ps.length
        · have hltq : k < qs.length := by have := HLEN.out; omega
          obtain ⟨⟨x1, x2⟩, y1, y2⟩ := HP.out.rd HLEN.out hlt hltq
          have HN := fun N => (HP.out.drewN N).next HLEN.out hlt hltq hne
          have HK := HMX.out k hlt hltq
          generalize (sh m ps[k].2 qs[k].2).1 = s1 at *
          generalize (sh m ps[k].2 qs[k].2).2 = s2 at *
          generalize ps[k] = c at *
          generalize qs[k] = d at *
          have HNN := Lib.hid HN
          have HTD := Lib.hid (fun N z z' => (show Two (wr.drewN N) B _ _ _ from HT.out).far (c := gx) (i := k * 2 + 1) (z := z) (by omega) |>.far (c := gy) (i := k * 2 + 1) (z := z') (by omega))
          clear HN HMX
          go_wp2
          go_quiet (first | (go_at_call 164; exact qt_one (HK _).out) | (go_at_call 167; exact qt_one (HK _).out) | (go_at_call 168; exact qt_one (HK _).out))
          clear HK
          go_wp2
          go_roundw
          case rel => exact ⟨k + 1, by omega, by go_num, HNN.out _, HTD.out _ _ _⟩
          case measure => simp [intOf]; omega
        · have hkk : k = ps.length := by omega
          subst hkk
          have HOWN := Lib.hid ((Lay.own0 LSc wr).mono HP.out.below.size)
          have HLC := Lib.hid (show ∀ j u, (LSc.cells [(some ⟨gx, 0, none⟩, ps.length, xc), (some ⟨gy, 0, none⟩, ps.length, yc)])[j]? = some u → (wr.alloc (.cells #[] 40)).cell? ⟨B, 0 + j, none⟩ = some u from by
            intro j u hu
            have hT := HT.out.below ((Below.refl wr.heap.size wr).alloc (Nat.le_refl _) (.cells #[] 40))
            rcases j with _ | _ | j
            · rw [← hu]; exact hT.c0
            · rw [← hu]; exact hT.c1
            · cases hu)
          have hsz := HP.out.below.size
          have HPB := Lib.hid (fun (w6 : World) (g6 cap6 : Nat) ho hg hor => HP.out.done (w6 := w6) (g6 := g6) (cap6 := cap6) HLEN.out hne ho (.cells #[] 40) hg hor)
          clear HMX
          go_wp2_with (at_builtin; refine LSc_ok.append rfl (.tmp 66) (.tmp 67) rfl w.heap.size (.slice (some ⟨wr.heap.size, 0, none⟩) 0 0) [] [(some ⟨gx, 0, none⟩, ps.length, xc), (some ⟨gy, 0, none⟩, ps.length, yc)] 0 rfl HOWN.out rfl B 0 2 2 rfl rfl HLC.out (by decide) (by decide) (by simp; omega) ?_; intro g6 cap6 w6 ho6 hg6 hor6 hlt6)
          have HF := Lib.hid (HPB.out w6 g6 cap6 ho6 hg6 (by
            rcases hor6 with h | h
            · exact .inl (Option.some.inj h).symm
            · simp at h; exact .inr h))
          clear ho6 hg6 hor6 hlt6
          go_ret2
          exact ⟨_, _, _, true, rfl, ⟨ps, qs, _, _, HA1.out, HA2.out, HOK.out.symm, (fun _ => ⟨m, HM.out, rfl⟩), (fun h => by cases h)⟩, HF.out.1, HF.out.2⟩
end Go.Proofs.YtobpnoiienpipaaGreat

/-
  What is proved: whether the program takes two lines' colours for killed.
  Conditions: the lines can be read.
-/
namespace Go.Proofs.YtobpnoiienpipaaGreat
set_option linter.unusedVariables false
open Go.RowKit
attribute [local go_sem] run_store_float run_store_complex unary_negf neg256

theorem hueOf_lt (x y : Nat) : hueOf x y < 2 ^ 32 := by
  unfold hueOf Flt.quov
  cases h : floatBits .quo .f32 (Flt.sumv x y) 3254779904 with
  | none => decide
  | some r => simpa [Lit.wf] using floatBits_wf h
theorem HueR.lt {xs ys : List Nat} {u z : Nat} {ok : Bool} (h : HueR xs ys u z ok) : u < 2 ^ 32 ∧ z < 2 ^ 32 := by
  obtain ⟨p, q, p', q', o1, o2, _, _, _, h1, h2⟩ := h
  cases ok with
  | true => obtain ⟨rfl, rfl⟩ := h1 rfl; exact ⟨hueOf_lt _ _, hueOf_lt _ _⟩
  | false => obtain ⟨rfl, rfl⟩ := h2 rfl; decide
theorem zero_order {x y k : Nat} {s t : Bool} {e : Int} (hx : Ieee.single.read x = .number s 0 e) (hy : Ieee.single.read y = .number t 0 e) : Ieee.single.order x k = Ieee.single.order y k := by
  unfold Ieee.Format.order
  rw [hx, hy]
  cases Ieee.single.read k with
  | nan _ _ => rfl
  | infinity _ => rfl
  | number u n j => simp [Ieee.Datum.order, Flt.signed_sg, Flt.sg]
theorem read_opp {x : Nat} (hx : x < 2 ^ 32) {s : Bool} {m : Nat} {e : Int} (h : Ieee.single.read x = .number s m e) : Ieee.single.read (Op.negFloat .f32 x) = .number (!s) m e := by
  have e : Ieee.single.read (Op.negFloat .f32 x) = (Ieee.single.read x).opposite := by
    obtain ⟨s0, r, rfl, hr⟩ := Flt.word_parts32 x hx
    rw [Flt.neg_word32 s0 r hr, Flt.read_word Ieee.single _ r (by rw [Flt.sw32]; exact hr), Flt.read_word Ieee.single s0 r (by rw [Flt.sw32]; exact hr)]
    split
    · rfl
    · split
      · rfl
      · split
        · rfl
        · rfl
  rw [e, h]; rfl
/-- max of a number and its opposite has the number's amount. -/
theorem max_opp {x : Nat} (hx : x < 2 ^ 32) (hm : ∃ k, Flt.Mag k x) : ∃ r, (∀ W ts t, (Builtin.max_ ts t #[.float .f32 x, .float .f32 (Op.negFloat .f32 x)]).run Tryz.prog W = .ok (.float .f32 r) W) ∧ ∀ k, ltb r k = ltb (amt x) k := by
  obtain ⟨_, s, m, e, hr, _⟩ := hm
  have hn := read_opp hx hr
  have ho : Ieee.single.order x (Op.negFloat .f32 x) = some (compare (Flt.sg s m) (Flt.sg (!s) m)) := by
    unfold Ieee.Format.order
    rw [hr, hn]
    simp [Ieee.Datum.order, Flt.signed_sg]
  have hz : Ieee.single.order x 0 = some (compare (Flt.sg s (m * 2 ^ (e - min e (-149)).toNat)) 0) := by
    unfold Ieee.Format.order
    rw [hr, Flt.read_zero]
    simp [Ieee.Datum.order, Flt.signed_sg, Flt.sg]
  by_cases h0 : m = 0
  · subst h0
    have ho' : FloatKind.f32.format.order x (Op.negFloat .f32 x) = some .eq := by
      show Ieee.single.order x _ = _
      rw [ho]; simp [Flt.sg]
    have hl : ltb x 0 = false := by unfold ltb; rw [hz]; simp [Flt.sg]
    refine ⟨if (FloatKind.f32.decode x).neg then Op.negFloat .f32 x else x, fun W ts t => by simp [Builtin.max_, Builtin.max2, ho'], fun k => ?_⟩
    rw [amt_no hl]
    unfold ltb
    split
    · rw [zero_order hn hr]
    · rfl
  · have hp : 0 < m * 2 ^ (e - min e (-149)).toNat := Nat.mul_pos (Nat.pos_of_ne_zero h0) (Flt.two_pos _)
    cases s with
    | true =>
      have ho' : FloatKind.f32.format.order x (Op.negFloat .f32 x) = some .lt := by
        show Ieee.single.order x _ = _
        rw [ho, Flt.cmp_lt (by simp [Flt.sg]; omega)]
      have hl : ltb x 0 = true := by unfold ltb; rw [hz, Flt.cmp_lt (by simp only [Flt.sg, if_true]; omega)]; rfl
      exact ⟨Op.negFloat .f32 x, fun W ts t => by simp [Builtin.max_, Builtin.max2, ho'], fun k => by rw [amt_yes hl]⟩
    | false =>
      have ho' : FloatKind.f32.format.order x (Op.negFloat .f32 x) = some .gt := by
        show Ieee.single.order x _ = _
        rw [ho, Flt.cmp_gt (by simp [Flt.sg]; omega)]
      have hl : ltb x 0 = false := by unfold ltb; rw [hz, Flt.cmp_gt (by simp only [Flt.sg, Bool.false_eq_true, if_false]; omega)]; rfl
      exact ⟨x, fun W ts t => by simp [Builtin.max_, Builtin.max2, ho'], fun k => by rw [amt_no hl]⟩
theorem amount_any (x : Nat) (w : World) (hx : x < 2 ^ 32) (hm : ∃ k, Flt.Mag k x) :
    Calls Tryz.prog 150 #[.float .f32 x] w fun e w' => ∃ r, e = .returned (.float .f32 r) ∧ (∀ k, ltb r k = ltb (amt x) k) ∧ w = w' := by
  obtain ⟨r, h1, h2⟩ := max_opp hx hm
  have HL := Lib.hid h2
  clear h2
  go_enter Tryz.func150, Tryz.ntmps150
  go_wp2
  go_ret
  exact ⟨r, rfl, HL.out, rfl⟩
set_option maxHeartbeats 2000000 in
theorem killed_any (v v' : Value) (xs ys : List Nat) (k : Nat) (w : World) (h : FRow w v xs) (h' : FRow w v' ys) (hl : xs.length ≤ 4000000) (hl' : ys.length ≤ 4000000) :
    Calls Tryz.prog 129 #[v, v', .float .f32 k] w fun e w' => KillA xs ys k w e w' := by
  have HH := Lib.hid (hueGain_any v v' xs ys w h h' hl hl')
  have HS := fun W hr hr' => Lib.hid (swing_any v v' xs ys W hr hr' hl hl')
  have HR := Lib.hid h
  have HR' := Lib.hid h'
  clear h h'
  go_enter Tryz.func129, Tryz.ntmps129
  go_wp2_with fail
  refine HH.out.mono ?_
  rintro e w1 ⟨u, z, ok, rfl, hu, hb1⟩
  have HU := Lib.hid hu
  have HS1 := HS w1 (HR.out.below hb1) (HR'.out.below hb1)
  have HAM := fun W => Lib.hid (amount_any u W hu.lt.1 ⟨_, hu.mag.1⟩)
  clear hu HS HH HR HR'
  go_wp2_with fail
  refine HS1.out.mono ?_
  rintro e w2 ⟨n, rfl, hn, hb2⟩
  have HN := Lib.hid hn
  have hb := below_trans hb1 hb2 hb1.size
  clear hn HS1
  by_cases h0 : n = 0
  · subst h0
    go_wp2
    go_ret
    exact ⟨true, rfl, ⟨_, _, _, _, HU.out, HN.out, by simp⟩, hb⟩
  · have hd : decide (n = 0) = false := decide_eq_false h0
    go_wp2_with fail
    refine (HAM _).out.mono ?_
    rintro e w3 ⟨r, rfl, hr, rfl⟩
    have HRR := Lib.hid (hr k)
    clear hr HAM
    cases hk : ltb r k
    all_goals
      have hk' : (FloatKind.f32.format.order r k == some .lt) = _ := hk
      go_wp2
      go_ret
      exact ⟨_, rfl, ⟨_, _, _, _, HU.out, HN.out, by rw [← HRR.out, hk]; simp [h0]⟩, hb⟩
end Go.Proofs.YtobpnoiienpipaaGreat
