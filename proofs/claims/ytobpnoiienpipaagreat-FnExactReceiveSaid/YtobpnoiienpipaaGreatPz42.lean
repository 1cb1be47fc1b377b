/-
  What is proved: what the model answers of a row whose colours are multiplied by any number.
  Conditions: the row can be read.
-/
import Derived.Test.YtobpnoiienpipaaGreatPz27
import Derived.Test.YtobpnoiienpipaaGreatPz03
import Derived.Test.YtobpnoiienpipaaGreatPz28
import Derived.Test.YtobpnoiienpipaaGreatPz41
import Derived.Test.YtobpnoiienpipaaGreatPz40
namespace Go.Proofs.YtobpnoiienpipaaGreat
set_option linter.unusedVariables false
open Go.RowKit
attribute [local go_sem] run_store_float run_store_complex unary_negf neg256

/-- What stands at the head of a round. -/
structure ScRnd (cs : List C3) (k : Nat) (w wr : World) (v : Value) (ds : List C3) : Prop where
  own : OwnC wr w.heap.size v ds
  below : Below w.heap.size w wr
  sc : ∀ i (h : i < ds.length) (h' : i < cs.length), ScC k cs[i] ds[i]
theorem ScRnd.next {cs ds : List C3} {k : Nat} {w wr w' : World} {v : Value} (h : ScRnd cs k w wr v ds) (hb : Below wr.heap.size wr w') : ScRnd cs k w w' v ds :=
  ⟨h.own.kept (grown_of hb) (by cases v.ownBlock <;> simp), below_trans h.below hb h.below.size, h.sc⟩
theorem ScRnd.snoc {cs ds : List C3} {k j : Nat} {w wr w8 : World} {v : Value} {g cap : Nat} {d : C3} (h : ScRnd cs k w wr v ds) (hj : ds.length = j) (hk : j < cs.length) (hd : ScC k cs[j] d) (o : Obj)
    (ho : OwnC w8 w.heap.size (.slice (some ⟨g, 0, none⟩) (ds.length + [d].length) cap) (ds ++ [d])) (hg : (wr.alloc o).grownBy w8 v.ownBlock) : ScRnd cs k w w8 (.slice (some ⟨g, 0, none⟩) (ds ++ [d]).length cap) (ds ++ [d]) :=
  ⟨by rw [List.length_append]; exact ho, (h.below.alloc h.below.size o).grown hg (by simp; have := h.below.size; omega) (fun k e => (h.own.lt k e).1), ScL.get_snoc h.sc hj hk hd⟩
set_option maxHeartbeats 4000000 in
theorem specScale_yes (v : Value) (cs : List C3) (k : Nat) (w : World) (h : RowV w v cs) (hl : cs.length ≤ 1000000) (hyes : rok cs = true) :
    Calls Tryz.prog 137 #[v, .float .f32 k] w fun e w' => ScaleA cs k w e w' := by
  have HN := Lib.hid hyes
  have hbA := (Below.refl w.heap.size w).alloc (Nat.le_refl _) (.cells #[] 61)
  have HR := Lib.hid (specRowOk_any v cs _ (h.below hbA) hl)
  have HO := Lib.hid (OwnC.made0 w)
  rw [hyes] at HR
  have h64 := (rok_iff.1 hyes).1.2
  obtain ⟨g, o, cap, rfl, hcap, hcell⟩ := h.resolve_left (fun e => rok_ne hyes e.2)
  have HC := Lib.hid hcell
  clear hyes h hcell
  go_enter Tryz.func137, Tryz.ntmps137
  go_wp2_with fail
  refine HR.out.mono ?_
  rintro e w1 ⟨rfl, hb⟩
  have HS := Lib.hid (show ScRnd cs k w w1 (.slice (some ⟨w.heap.size, 0, none⟩) 0 0) [] from (ScRnd.mk HO.out hbA (fun i h => absurd h (by simp))).next hb)
  clear hb hbA HO HR
  go_wp2
  go_loopw [6, 7] (fun out i wr => ∃ (j gg cc : Nat) (ds : List C3), j ≤ cs.length ∧ ds.length = j ∧ i = .int .i64 (j : Int) ∧ out = .slice (some ⟨gg, 0, none⟩) ds.length cc ∧ ScRnd cs k w wr (.slice (some ⟨gg, 0, none⟩) ds.length cc) ds) (fun _ i _ => cs.length - (intOf i).toNat)
  case atStart => exact ⟨0, _, 0, [], Nat.zero_le _, rfl, rfl, rfl, HS.out⟩
  case round =>
    obtain ⟨j, gg, cc, ds, hj, hdj, rfl, rfl, hm⟩ := hrel
    have HM := Lib.hid hm
    have HDJ := Lib.hid hdj
    have hds : ds.length ≤ 64 := by omega
    clear hm HS hdj
    by_cases hlt : j < cs.length
    · obtain ⟨hc0, hc1⟩ := HC.out j hlt
      have HSN := Lib.hid (fun (wr8 w8 : World) (g2 cap2 : Nat) (d : C3) (hr8 : ScRnd cs k w wr8 (.slice (some ⟨gg, 0, none⟩) ds.length cc) ds) (hd : ScC k cs[j] d) (o : Obj) ho hg => hr8.snoc (w8 := w8) (g := g2) (cap := cap2) HDJ.out hlt hd o ho hg)
      generalize cs[j] = c at *
      have m0 := (grown_of HM.out.below).cell hc0 (by simp)
      have m1 := (grown_of HM.out.below).cell hc1 (by simp)
      obtain ⟨pA, nA, eA, RA, BA⟩ := run_res .mul (.inr (.inr (.inl rfl))) c.2.1 k wr.drew
      obtain ⟨qA, mA, fA, SA, CA⟩ := run_res .mul (.inr (.inr (.inl rfl))) c.2.2 k (wr.drewN (1 + nA))
      obtain ⟨qB, mB, fB, SB, CB⟩ := run_res .mul (.inr (.inr (.inl rfl))) c.2.2 k wr.drew
      obtain ⟨pB, nB, eB, RB, BB⟩ := run_res .mul (.inr (.inr (.inl rfl))) c.2.1 k (wr.drewN (1 + mB))
      have HA := Lib.hid (show ScC k c (c.1, pA, qA) from ⟨rfl, ⟨RA, SA⟩, BA, CA⟩)
      have HB := Lib.hid (show ScC k c (c.1, pB, qB) from ⟨rfl, ⟨RB, SB⟩, BB, CB⟩)
      have HMA := Lib.hid (HM.out.next (belowDN (Below.refl _ _) (1 + nA + mA)))
      have HMB := Lib.hid (HM.out.next (belowDN (Below.refl _ _) (1 + mB + nB)))
      have HLA := Lib.hid (row_lit (wr.drewN (1 + nA + mA)) c.1 pA qA)
      have HLB := Lib.hid (row_lit (wr.drewN (1 + mB + nB)) c.1 pB qB)
      have hsz := HM.out.below.size
      clear RA SA BA CA RB SB BB CB hc0 hc1
      go_wp2
      go_region
      all_goals
        first
          | (go_wp2_with (at_builtin; refine own_append rfl (.tmp 37) (.tmp 45) rfl w.heap.size _ ds [(c.1, pA, qA)] rfl (HMA.out.own.alloc _) _ _ _ rfl HLA.out (by simp) (by simp; omega) (by simp [World.drewN]; omega) ?_; intro g6 cap6 w6 ho6 hg6 hor6 hlt6)
             have HF := Lib.hid (HSN.out _ w6 g6 cap6 _ HMA.out HA.out _ ho6 hg6)
             clear ho6 hg6 hor6 hlt6 HSN
             go_wp2
             go_roundw
             case rel => exact ⟨j + 1, g6, cap6, ds ++ [(c.1, pA, qA)], by omega, by have := HDJ.out; simp; omega, by go_num, by simp, HF.out⟩
             case measure => (simp [intOf]; omega))
          | (go_wp2_with (at_builtin; refine own_append rfl (.tmp 37) (.tmp 45) rfl w.heap.size _ ds [(c.1, pB, qB)] rfl (HMB.out.own.alloc _) _ _ _ rfl HLB.out (by simp) (by simp; omega) (by simp [World.drewN]; omega) ?_; intro g6 cap6 w6 ho6 hg6 hor6 hlt6)
             have HF := Lib.hid (HSN.out _ w6 g6 cap6 _ HMB.out HB.out _ ho6 hg6)
             clear ho6 hg6 hor6 hlt6 HSN
             go_wp2
             go_roundw
             case rel => exact ⟨j + 1, g6, cap6, ds ++ [(c.1, pB, qB)], by omega, by have := HDJ.out; simp; omega, by go_num, by simp, HF.out⟩
             case measure => (simp [intOf]; omega))
    · have hkk : j = cs.length := by omega
      have HSL := Lib.hid (show ScL k cs ds from ⟨by rw [HDJ.out, hkk], HM.out.sc⟩)
      have HR2 := Lib.hid (specRowOk_any (.slice (some ⟨gg, 0, none⟩) ds.length cc) ds wr HM.out.own.row (by omega))
      have HRN := Lib.hid HM.out.own.rnew
      have hbw := HM.out.below
      clear HM HDJ HC
      subst hkk
      go_wp2_with fail
      refine HR2.out.mono ?_
      rintro e w3 ⟨rfl, hb3⟩
      have hb03 := below_trans hbw hb3 hbw.size
      cases hrd : rok ds with
      | false =>
        have HRD := Lib.hid hrd
        have HE := Lib.hid ((OwnC.made0 w3).rnew)
        have hbE := hb03.alloc hb03.size (.cells #[] 61)
        have hsz3 := hb03.size
        clear hrd hb3 hb03 HRN
        go_wp2
        go_ret2
        exact ⟨_, [], false, rfl, .inl ⟨HN.out, ds, HSL.out, HRD.out.symm, by rw [HRD.out]; rfl⟩, HE.out.mono hsz3, hbE⟩
      | true =>
        have HRD := Lib.hid hrd
        have HF := Lib.hid (HRN.out.below hb3)
        clear hrd hb3 HRN
        go_wp2
        go_ret2
        exact ⟨_, ds, true, rfl, .inl ⟨HN.out, ds, HSL.out, HRD.out.symm, by rw [HRD.out]; rfl⟩, HF.out, hb03⟩
theorem specScale_no (v : Value) (cs : List C3) (k : Nat) (w : World) (h : RowV w v cs) (hl : cs.length ≤ 1000000) (hno : rok cs = false) :
    Calls Tryz.prog 137 #[v, .float .f32 k] w fun e w' => ScaleA cs k w e w' := by
  have HN := Lib.hid hno
  have hbA := (Below.refl w.heap.size w).alloc (Nat.le_refl _) (.cells #[] 61)
  have HR := Lib.hid (specRowOk_any v cs _ (h.below hbA) hl)
  have HO := Lib.hid (OwnC.made0 w).rnew
  rw [hno] at HR
  clear hno h
  go_enter Tryz.func137, Tryz.ntmps137
  go_wp2_with fail
  refine HR.out.mono ?_
  rintro e w1 ⟨rfl, hb⟩
  have HE := Lib.hid (HO.out.below hb)
  have hb2 := below_trans hbA hb hbA.size
  go_wp2
  go_ret2
  exact ⟨_, [], false, rfl, .inr ⟨HN.out, rfl, rfl⟩, HE.out, hb2⟩
theorem specScale_any (v : Value) (cs : List C3) (k : Nat) (w : World) (h : RowV w v cs) (hl : cs.length ≤ 1000000) :
    Calls Tryz.prog 137 #[v, .float .f32 k] w fun e w' => ScaleA cs k w e w' := by
  cases hr : rok cs with
  | true => exact specScale_yes v cs k w h hl hr
  | false => exact specScale_no v cs k w h hl hr
end Go.Proofs.YtobpnoiienpipaaGreat

/-
  What is proved: what the model answers of rows whose colours are all multiplied by one number.
  Conditions: the rows can be read.
-/
namespace Go.Proofs.YtobpnoiienpipaaGreat
set_option linter.unusedVariables false
open Go.RowKit
attribute [local go_sem] run_store_float run_store_complex unary_negf neg256

set_option maxRecDepth 100000 in
set_option maxHeartbeats 4000000 in
theorem specScaled_any (v : Value) (rows : List (List C3)) (ss : List SV) (k : Nat) (w : World) (h : RowsV w v rows ss) (hl : rows.length ≤ 1000000) (hr : ∀ r ∈ rows, r.length ≤ 1000000) :
    Calls Tryz.prog 109 #[v, .float .f32 k] w fun e w' => SatA rows k w e w' := by
  obtain ⟨a, c, rfl, hcell⟩ := h.any
  have hl1 := h.len
  have HC := Lib.hid hcell
  have HE := Lib.hid h.each
  have HRL := Lib.hid hr
  have HL1 := Lib.hid hl1
  have hls : ss.length ≤ 1000000 := by omega
  have HG0 := Lib.hid (GridC.nil w).new
  have HB0 := Lib.hid ((Below.refl w.heap.size w).alloc (Nat.le_refl _) (.cells #[] 40))
  clear h hcell hr hl1
  go_enter Tryz.func109, Tryz.ntmps109
  go_wp2
  go_loopw [6, 7] (fun m i wr => ∃ (j : Nat) (out : List (List C3)) (so : List SV), j ≤ ss.length ∧ i = .int .i64 (j : Int) ∧ out.length = j ∧ (∀ i (h : i < out.length) (h' : i < rows.length), ScaleRR rows[i] k out[i] true) ∧ GridN wr w.heap.size m out so ∧ Below w.heap.size w wr) (fun _ i _ => ss.length - (intOf i).toNat)
  case atStart => exact ⟨0, [], [], Nat.zero_le _, rfl, rfl, (fun i h => absurd h (by simp)), HG0.out, HB0.out⟩
  case round =>
    obtain ⟨j, out, so, hj, rfl, hol, hsc, hgr, hb⟩ := hrel
    have HGR := Lib.hid hgr
    have HOL := Lib.hid hol
    have HSC := Lib.hid hsc
    have hsol : so.length ≤ j := by have := hgr.len; omega
    clear HG0 HB0 hgr hol hsc
    by_cases hlt : j < ss.length
    · obtain ⟨g1, o1, rfl, hcap1, hc1⟩ := HC.out j hlt
      have hltr : j < rows.length := by have := HL1.out; omega
      have hc1' := (grown_of hb).cell hc1 (by simp)
      have HSR := Lib.hid (specScale_any ss[j].v rows[j] k wr ((HE.out j hlt hltr).below hb) (HRL.out _ (List.getElem_mem hltr)))
      have HNX := Lib.hid (fun l (hl : ScaleRR rows[j] k l true) => getElem_snoc (P := fun i x => ∀ h' : i < rows.length, ScaleRR rows[i] k x true) (x := l) (fun i hi h' => HSC.out i hi h') HOL.out (fun h' => hl))
      have HNO := Lib.hid (fun l (hl : ScaleRR rows[j] k l false) => (show ∃ i, ∃ h : i < rows.length, ScaleRR rows[i] k [] false from ⟨j, hltr, by have e := hl.len; rw [e] at hl; exact hl⟩))
      clear hc1
      generalize ss[j].v = x at *
      generalize rows[j] = cs at *
      go_wp2_with fail
      refine HSR.out.mono ?_
      rintro e w5 ⟨v5, l, ok, rfl, hl5, hn5, hb5⟩
      have hsz : w.heap.size ≤ wr.heap.size := hb.size
      have hb05 := below_trans hb hb5 hb.size
      cases ok with
      | false =>
        have HNN := Lib.hid (HNO.out l hl5)
        have HE := Lib.hid ((GridC.nil w5).new)
        have hsz5 := hb05.size
        have HBE := Lib.hid (hb05.alloc hb05.size (.cells #[] 40))
        clear hl5 hn5 hb5 HSR HNX HNO hc1' hb05
        go_wp2
        go_ret2
        exact ⟨_, [], [], false, rfl, .inr ⟨rfl, rfl, HNN.out⟩, HE.out.mono hsz5, HBE.out⟩
      | true =>
        have HNN := Lib.hid (HNX.out l hl5)
        obtain ⟨g5, cap5, e5, hcap5, hg5, hg5'⟩ := hn5.some5 (rok_ne hl5.yes.1)
        subst e5
        have HN5 := Lib.hid hn5
        have HB5 := Lib.hid hb5
        have h5s := hb5.size
        have HOW5 := Lib.hid ((HGR.out.own.kept (grown_of hb5) (by cases u6.ownBlock <;> simp)).alloc (.cells #[.slice (some ⟨g5, 0, none⟩) l.length cap5] 40))
        have HST := Lib.hid (fun (w6 : World) (g6 cap6 : Nat) ho hg hor => HGR.out.step (w6 := w6) (g6 := g6) (n6 := so.length + 1) (cap6 := cap6) (s := (some ⟨g5, 0, none⟩, l.length, cap5)) (ys := l) hsz HB5.out HN5.out (.cells #[.slice (some ⟨g5, 0, none⟩) l.length cap5] 40) ho hg hor)
        clear hl5 hn5 hb5 HSR HNX HNO hc1'
        go_wp2_with (at_builtin; refine LSc_ok.snoc rfl (.tmp 29) (.tmp 31) rfl w.heap.size u6 so so.length rfl HOW5.out rfl _ rfl (some ⟨g5, 0, none⟩, l.length, cap5) (lit_cells w5 _ _) (by omega) (by simp; omega) ?_; intro g6 cap6 w6 ho6 hg6 hor6 hlt6)
        obtain ⟨hgn, hgw⟩ := HST.out w6 g6 cap6 ho6 hg6 hor6
        have HGN := Lib.hid hgn
        have hb6 := hb.grown hgw hsz (fun k e => (HGR.out.own.lt k e).1)
        clear ho6 hg6 hor6 hgn hgw HST
        go_wp2
        go_roundw
        case rel => exact ⟨j + 1, out ++ [l], so ++ [(some ⟨g5, 0, none⟩, l.length, cap5)], by omega, by go_num, by simp [HOL.out], fun i h h' => HNN.out i h h', HGN.out, hb6⟩
        case measure => simp [intOf]; omega
    · have hkk : j = ss.length := by omega
      have HF := Lib.hid (show SatRR rows k out true from .inl ⟨rfl, by have := HL1.out; have := HOL.out; omega, HSC.out⟩)
      clear HSC HOL
      subst hkk
      go_wp2
      go_ret2
      exact ⟨_, out, so, true, rfl, HF.out, HGR.out, hb⟩
theorem specSaturate_any (v : Value) (rows : List (List C3)) (ss : List SV) (k : Nat) (w : World) (h : RowsV w v rows ss) (hl : rows.length ≤ 1000000) (hr : ∀ r ∈ rows, r.length ≤ 1000000) :
    Calls Tryz.prog 78 #[v, .float .f32 k] w fun e w' => SatA rows k w e w' := by
  obtain ⟨a, c, hv, _⟩ := h.any
  have HS := Lib.hid (specScaled_any v rows ss k w h hl hr)
  subst hv
  clear h
  go_enter Tryz.func78, Tryz.ntmps78
  go_wp2_with fail
  refine HS.out.mono ?_
  rintro e w2 ⟨v2, out, so, ok, rfl, h2, h3, h4⟩
  have H2 := Lib.hid h2
  have H3 := Lib.hid h3
  clear h2 h3 HS
  go_wp2
  go_ret2
  exact ⟨_, out, so, ok, rfl, H2.out, H3.out, h4⟩
set_option maxHeartbeats 1000000 in
theorem specSize_any (v : Value) (rows : List (List C3)) (ss : List SV) (x y : Nat) (w : World) (h : RowsV w v rows ss) (hl : rows.length ≤ 1000000) (hr : ∀ r ∈ rows, r.length ≤ 1000000) :
    Calls Tryz.prog 77 #[v, .complex .f32 x y] w fun e w' => SizeA rows x w e w' := by
  obtain ⟨a, c, hv, _⟩ := h.any
  cases h0 : feq0 x with
  | true =>
    have h0' : (FloatKind.f32.format.order x 0 == some .eq) = true := h0
    have H0 := Lib.hid h0
    have HE := Lib.hid ((GridC.nil w).new)
    have HBE := Lib.hid ((Below.refl w.heap.size w).alloc (Nat.le_refl _) (.cells #[] 40))
    subst hv
    clear h h0
    go_enter Tryz.func77, Tryz.ntmps77
    go_wp2
    go_ret2
    exact ⟨_, [], [], false, rfl, .inl ⟨H0.out, rfl, rfl⟩, HE.out, HBE.out⟩
  | false =>
    have h0' : (FloatKind.f32.format.order x 0 == some .eq) = false := h0
    have H0 := Lib.hid h0
    obtain ⟨q, n, e1, R1, B1⟩ := run_res .quo (.inr (.inr (.inr rfl))) 1065353216 x w
    have HS := Lib.hid (specScaled_any v rows ss q (w.drewN n) (h.below (belowDN (Below.refl _ _) n)) hl hr)
    have HR := Lib.hid R1
    subst hv
    clear h h0 R1 B1
    go_enter Tryz.func77, Tryz.ntmps77
    go_wp2_with fail
    refine HS.out.mono ?_
    rintro e w2 ⟨v2, out, so, ok, rfl, h2, h3, h4⟩
    have H2 := Lib.hid h2
    have H3 := Lib.hid h3
    have hb := below_trans (belowDN (Below.refl w.heap.size w) n) h4 (Nat.le_refl _)
    clear h2 h3 h4 HS
    go_wp2
    go_ret2
    exact ⟨_, out, so, ok, rfl, .inr ⟨H0.out, q, HR.out, H2.out⟩, H3.out, hb⟩
end Go.Proofs.YtobpnoiienpipaaGreat

/-
  What is proved: what the model takes of two lines of a pair.
  Conditions: the lines can be read.
-/
namespace Go.Proofs.YtobpnoiienpipaaGreat
set_option linter.unusedVariables false
open Go.RowKit
attribute [local go_sem] run_store_float run_store_complex unary_negf neg256

theorem KillR.fine {xs ys : List Nat} {l u z : Nat} {f : Bool} (h : KillR xs ys l false) (hu : HueR xs ys u z f) : f = true := by
  obtain ⟨_, _, _, n, _, hs, hb⟩ := h
  have hn : n ≠ 0 := by
    intro e
    subst e
    simp at hb
  obtain ⟨p, q, p', q', o1, o2, b1, b2, hn2⟩ := hs
  have ho : (o1 && o2) = true := by
    cases h : (o1 && o2) with
    | true => rfl
    | false => rw [h] at hn2; exact absurd hn2 hn
  obtain ⟨p3, q3, p4, q4, o3, o4, b3, b4, rfl, _, _⟩ := hu
  rw [← (b1.same b3).1, ← (b2.same b4).1, ho]
set_option maxRecDepth 100000 in
set_option maxHeartbeats 4000000 in
theorem specTake_any (v v' : Value) (xs ys : List Nat) (l k : Nat) (w : World) (h : FRow w v xs) (h' : FRow w v' ys) (hl : xs.length ≤ 4000000) (hl' : ys.length ≤ 4000000) :
    Calls Tryz.prog 43 #[v, v', .float .f32 l, .float .f32 k] w fun e w' => TakeA xs ys l k w e w' := by
  have HP := Lib.hid (specPair_any v v' xs ys w h h' hl hl')
  have HK := fun W hr hr' => Lib.hid (specKilled_any v v' xs ys l W hr hr' hl hl')
  have HH := fun W hr hr' => Lib.hid (specHue_any v v' xs ys W hr hr' hl hl')
  have HR := Lib.hid h
  have HR' := Lib.hid h'
  obtain ⟨n, c, o, rfl⟩ := h.lenv2
  obtain ⟨n', c', o', rfl⟩ := h'.lenv2
  clear h h'
  go_enter Tryz.func43, Tryz.ntmps43
  go_wp2_with fail
  refine HP.out.mono ?_
  rintro e w1 ⟨vp, rows, sp, ok, rfl, hp, hg, hb1⟩
  obtain ⟨ap, cp, rfl, _⟩ := hg.rows.any
  have hok := hp.ok
  have hrl : rows.length ≤ 1000000 := Nat.le_trans hok.1 (by decide)
  have hrr : ∀ r ∈ rows, r.length ≤ 1000000 := fun r hr => Nat.le_trans (hok.2.1 r hr).1 (by decide)
  have HPR := Lib.hid hp
  have HGR := Lib.hid hg
  have HRR := Lib.hid hrr
  have HR5 := Lib.hid (show ∀ r ∈ rows, r.length ≤ 100000 from fun r hr => Nat.le_trans (hok.2.1 r hr).1 (by decide))
  clear hok hrr
  cases ok with
  | false =>
    have HE := Lib.hid ((GridC.nil w1).new)
    have hsz := hb1.size
    have HBE := Lib.hid (hb1.alloc hb1.size (.cells #[] 40))
    clear hp hg HP HK HH hb1
    go_wp2
    go_ret2
    exact ⟨_, [], [], false, rfl, ⟨rows, false, HPR.out, .inl ⟨rfl, rfl, rfl⟩⟩, HE.out.mono hsz, HBE.out⟩
  | true =>
    have HNE := Lib.hid hp.ne
    clear hp hg HP
    go_wp2_with fail
    refine (HK w1 (HR.out.below hb1) (HR'.out.below hb1)).out.mono ?_
    rintro e w2 ⟨b, rfl, hk, hb2⟩
    have HKL := Lib.hid hk
    have hb02 := below_trans hb1 hb2 hb1.size
    have HG2 := Lib.hid (HGR.out.below hb2)
    clear hk HK hb2
    cases b with
    | true =>
      have HGY := Lib.hid (specGreyed_rows (.slice ap sp.length cp) rows sp w2 HG2.out.rows hrl HR5.out HNE.out)
      clear HH
      go_wp2_with fail
      refine HGY.out.mono ?_
      rintro e w3 ⟨v3, so, rfl, hg3, hb3⟩
      have HG3 := Lib.hid (hg3.mono hb02.size)
      have hb03 := below_trans hb02 hb3 hb02.size
      clear hg3 HGY hb3
      go_wp2
      go_ret2
      exact ⟨_, _, so, true, rfl, ⟨rows, true, HPR.out, .inr ⟨rfl, true, HKL.out, .inl ⟨rfl, rfl, rfl⟩⟩⟩, HG3.out, hb03⟩
    | false =>
      go_wp2_with fail
      refine (HH w2 (HR.out.below hb02) (HR'.out.below hb02)).out.mono ?_
      rintro e w3 ⟨u, z, f, rfl, hu, hb3⟩
      obtain rfl := HKL.out.fine hu
      have HU := Lib.hid hu
      have hb03 := below_trans hb02 hb3 hb02.size
      have HSZ := Lib.hid (specSize_any (.slice ap sp.length cp) rows sp u z w3 (HG2.out.below hb3).rows hrl HRR.out)
      clear hu HH hb3
      go_wp2_with fail
      refine HSZ.out.mono ?_
      rintro e w4 ⟨v4, sz, ssz, o2, rfl, hsz, hg4, hb4⟩
      obtain ⟨a4, c4, rfl, _⟩ := hg4.rows.any
      have htw := hsz.two (Nat.le_trans HPR.out.ok.1 (Nat.le_refl _))
      have HSR := Lib.hid hsz
      have hb04 := below_trans hb03 hb4 hb03.size
      cases o2 with
      | false =>
        have HE := Lib.hid ((GridC.nil w4).new)
        have hsz4 := hb04.size
        have HBE := Lib.hid (hb04.alloc hb04.size (.cells #[] 40))
        clear hsz hg4 hb4 HSZ htw hb04
        go_wp2
        go_ret2
        exact ⟨_, [], [], false, rfl, ⟨rows, true, HPR.out, .inr ⟨rfl, false, HKL.out, .inr ⟨rfl, u, z, true, HU.out, sz, false, HSR.out, .inl ⟨rfl, rfl, rfl⟩⟩⟩⟩, HE.out.mono hsz4, HBE.out⟩
      | true =>
        have HST := Lib.hid (specSaturate_any (.slice a4 ssz.length c4) sz ssz k w4 hg4.rows (Nat.le_trans htw.1 (by decide)) (fun r hr => Nat.le_trans (htw.2.1 r hr).1 (by decide)))
        clear hsz hg4 hb4 HSZ htw
        go_wp2_with fail
        refine HST.out.mono ?_
        rintro e w5 ⟨v5, out, so, ok, rfl, h5, hg5, hb5⟩
        have H5 := Lib.hid h5
        have HG5 := Lib.hid (hg5.mono hb04.size)
        have hb05 := below_trans hb04 hb5 hb04.size
        clear h5 hg5 hb5 HST
        go_wp2
        go_ret2
        exact ⟨_, out, so, ok, rfl, ⟨rows, true, HPR.out, .inr ⟨rfl, false, HKL.out, .inr ⟨rfl, u, z, true, HU.out, sz, true, HSR.out, .inr ⟨rfl, H5.out⟩⟩⟩⟩, HG5.out, hb05⟩
end Go.Proofs.YtobpnoiienpipaaGreat
