/-
  What is proved: the walk of the law FnExactTakePair.
  Conditions: none beyond the arguments' own.
-/
import Derived.Test.YtgecclccmmcdoaaSpecTake
import Derived.Test.YtgecclccmmcdoaaImplTake
import Derived.Test.YtgecclccmmcdoaaPkGEq
namespace Go.Proofs.Ytgecclccmmcdoaa
set_option linter.unusedVariables false
open Go.RowKit
attribute [local go_sem] run_store_float run_store_complex unary_negf neg256

theorem exactTakePair_dn {w w' : World} (h : ∃ n, w' = w.drewN n) : Below w.heap.size w w' := by
  obtain ⟨n, rfl⟩ := h
  exact belowDN (Below.refl _ _) n
set_option maxHeartbeats 8000000 in
set_option maxRecDepth 100000 in
theorem walk_FnExactTakePair (a0 : Option Addr) (len0 cap0 : Nat) (z0 : List Nat) (a1 : Option Addr) (len1 cap1 : Nat) (z1 : List Nat) (l k : Nat) (w : World) (w0 : FRow w (.slice a0 len0 cap0) z0 ∧ (∀ z ∈ z0, z < 2 ^ 32) ∧ z0.length = len0) (w1 : FRow w (.slice a1 len1 cap1) z1 ∧ (∀ z ∈ z1, z < 2 ^ 32) ∧ z1.length = len1) (e2 : (Lit.float .f32 l).wf = true) (e3 : (Lit.float .f32 k).wf = true) :
    Calls Try.prog 11 #[.slice a0 len0 cap0, .slice a1 len1 cap1, .float .f32 l, .float .f32 k] w fun e w' => e = .returned (.bool true) ∧ Below w.heap.size w w' := by
  obtain ⟨hrow0, hfit0, rfl⟩ := w0
  obtain ⟨hrow1, hfit1, rfl⟩ := w1
  by_cases hbig0 : 1048576 < z0.length
  · clear hrow0 hfit0 hrow1 hfit1
    go_enter Try.func11, Try.ntmps11
    go_wp2
    go_ret
    exact ⟨rfl, Below.refl _ _⟩
  · skip
    by_cases hbig1 : 1048576 < z1.length
    · clear hrow0 hfit0 hrow1 hfit1
      go_enter Try.func11, Try.ntmps11
      go_wp2
      go_ret
      exact ⟨rfl, Below.refl _ _⟩
    · skip
      clear e2 e3
      have HRW0 := Lib.hid hrow0
      have HRW1 := Lib.hid hrow1
      have HTO0 := fun v W hr => Lib.hid (toFloats_any v z0 W hr (by omega))
      have HTO1 := fun v W hr => Lib.hid (toFloats_any v z1 W hr (by omega))
      obtain ⟨LL, okk, hbd, hfix⟩ := take_fix z0 z1 l k
      have HSP := fun V0 V1 W H0 H1 => Lib.hid (take_got hfix (specTake_any V0 V1 z0 z1 l k W H0 H1 (by omega) (by omega)))
      have HIM := fun V0 V1 W H0 H1 => Lib.hid (take_got hfix (take_any V0 V1 z0 z1 l k W H0 H1 (by omega) (by omega)))
      have HBD := Lib.hid hbd
      clear hbd hfix
      clear hrow0 hfit0 hrow1 hfit1
      cases okk
      all_goals
        go_enter Try.func11, Try.ntmps11
        go_wp2_with fail
        refine ((HTO0 _ _ HRW0.out).out).mono ?_
        rintro e u1 ⟨vt0, rfl, hn1, hb1⟩
        have Svt0 := Lib.hid (show w.heap.size ≤ _ from Nat.le_refl w.heap.size)
        have Nvt0 := Lib.hid hn1
        clear hn1
        go_wp2_with fail
        refine ((HTO1 _ _ (HRW1.out.below hb1)).out).mono ?_
        rintro e u2 ⟨vt1, rfl, hn2, hb2⟩
        have Qvt1_vt0 := Nvt0
        have tb2 := below_trans hb1 hb2 hb1.size
        have vt0_2 := Lib.hid (Nvt0.out.below hb2)
        clear Nvt0
        have Svt1 := Lib.hid (show w.heap.size ≤ _ from hb1.size)
        have Nvt1 := Lib.hid hn2
        clear hn2
        have A_vt0_vt1 := Lib.hid (apart2 (P := Blk vt0) (Q := Blk vt1) (fun k hk => (Qvt1_vt0.out.lt k hk).2) (fun k hk => (Nvt1.out.lt k hk).1))
        clear Qvt1_vt0
        go_wp2_with fail
        refine ((HSP _ _ _ vt0_2.out.row Nvt1.out.row).out).mono ?_
        rintro e u3 ⟨vs, svs, rfl, hn3, hb3⟩
        have Qvs_vt0 := vt0_2
        have Qvs_vt1 := Nvt1
        have tb3 := below_trans tb2 hb3 tb2.size
        have vt0_3 := Lib.hid (vt0_2.out.below hb3)
        clear vt0_2
        have vt1_3 := Lib.hid (Nvt1.out.below hb3)
        clear Nvt1
        have Svs := Lib.hid (show w.heap.size ≤ _ from tb2.size)
        have Nvs := Lib.hid hn3
        clear hn3
        have A_vt0_vs := Lib.hid (apart2 (P := Blk vt0) (Q := GBlk vs svs) (fun k hk => (Qvs_vt0.out.lt k hk).2) (fun k hk => (Nvs.out.lt k hk).1))
        clear Qvs_vt0
        have A_vt1_vs := Lib.hid (apart2 (P := Blk vt1) (Q := GBlk vs svs) (fun k hk => (Qvs_vt1.out.lt k hk).2) (fun k hk => (Nvs.out.lt k hk).1))
        clear Qvs_vt1
        clear vt0_3
        clear vt1_3
        go_wp2_with fail
        refine ((HTO0 _ _ (HRW0.out.below tb3)).out).mono ?_
        rintro e u4 ⟨vx0, rfl, hn4, hb4⟩
        have Qvx0_vs := Nvs
        have tb4 := below_trans tb3 hb4 tb3.size
        have vs_4 := Lib.hid (Nvs.out.below hb4)
        clear Nvs
        have Svx0 := Lib.hid (show w.heap.size ≤ _ from tb3.size)
        have Nvx0 := Lib.hid hn4
        clear hn4
        have A_vs_vx0 := Lib.hid (apart2 (P := GBlk vs svs) (Q := Blk vx0) (fun k hk => (Qvx0_vs.out.lt k hk).2) (fun k hk => (Nvx0.out.lt k hk).1))
        clear Qvx0_vs
        go_wp2_with fail
        refine ((HTO1 _ _ (HRW1.out.below tb4)).out).mono ?_
        rintro e u5 ⟨vx1, rfl, hn5, hb5⟩
        have Qvx1_vs := vs_4
        have Qvx1_vx0 := Nvx0
        have tb5 := below_trans tb4 hb5 tb4.size
        have vs_5 := Lib.hid (vs_4.out.below hb5)
        clear vs_4
        have vx0_5 := Lib.hid (Nvx0.out.below hb5)
        clear Nvx0
        have Svx1 := Lib.hid (show w.heap.size ≤ _ from tb4.size)
        have Nvx1 := Lib.hid hn5
        clear hn5
        have A_vs_vx1 := Lib.hid (apart2 (P := GBlk vs svs) (Q := Blk vx1) (fun k hk => (Qvx1_vs.out.lt k hk).2) (fun k hk => (Nvx1.out.lt k hk).1))
        clear Qvx1_vs
        have A_vx0_vx1 := Lib.hid (apart2 (P := Blk vx0) (Q := Blk vx1) (fun k hk => (Qvx1_vx0.out.lt k hk).2) (fun k hk => (Nvx1.out.lt k hk).1))
        clear Qvx1_vx0
        go_wp2_with fail
        refine ((HIM _ _ _ vx0_5.out.row Nvx1.out.row).out).mono ?_
        rintro e u6 ⟨vg, svg, rfl, hn6, hb6⟩
        have Qvg_vs := vs_5
        have Qvg_vx0 := vx0_5
        have Qvg_vx1 := Nvx1
        have tb6 := below_trans tb5 hb6 tb5.size
        have vs_6 := Lib.hid (vs_5.out.below hb6)
        clear vs_5
        have vx0_6 := Lib.hid (vx0_5.out.below hb6)
        clear vx0_5
        have vx1_6 := Lib.hid (Nvx1.out.below hb6)
        clear Nvx1
        have Svg := Lib.hid (show w.heap.size ≤ _ from tb5.size)
        have Nvg := Lib.hid hn6
        clear hn6
        have A_vs_vg := Lib.hid (apart2 (P := GBlk vs svs) (Q := GBlk vg svg) (fun k hk => (Qvg_vs.out.lt k hk).2) (fun k hk => (Nvg.out.lt k hk).1))
        clear Qvg_vs
        have A_vx0_vg := Lib.hid (apart2 (P := Blk vx0) (Q := GBlk vg svg) (fun k hk => (Qvg_vx0.out.lt k hk).2) (fun k hk => (Nvg.out.lt k hk).1))
        clear Qvg_vx0
        have A_vx1_vg := Lib.hid (apart2 (P := Blk vx1) (Q := GBlk vg svg) (fun k hk => (Qvg_vx1.out.lt k hk).2) (fun k hk => (Nvg.out.lt k hk).1))
        clear Qvg_vx1
        go_wp2_with fail
        refine (eqRows_num _ _ vg vs LL _ _ _ Nvg.out vs_6.out (Nat.le_trans HBD.out.1 (by decide)) (fun r hr => And.intro (Nat.le_trans (HBD.out.2.1 r hr).1 (by decide)) (HBD.out.2.1 r hr).2)).mono ?_
        rintro e u7 ⟨rfl, hb7⟩
        have tb7 := below_trans tb6 hb7 tb6.size
        have vs_7 := Lib.hid (vs_6.out.below hb7)
        clear vs_6
        have vx0_7 := Lib.hid (vx0_6.out.below hb7)
        clear vx0_6
        have vx1_7 := Lib.hid (vx1_6.out.below hb7)
        clear vx1_6
        have vg_7 := Lib.hid (Nvg.out.below hb7)
        clear Nvg
        go_wp2_with fail
        refine ((HTO0 _ _ (HRW0.out.below tb7)).out).mono ?_
        rintro e u8 ⟨vy0, rfl, hn8, hb8⟩
        have Qvy0_vs := vs_7
        have Qvy0_vx0 := vx0_7
        have Qvy0_vx1 := vx1_7
        have Qvy0_vg := vg_7
        have tb8 := below_trans tb7 hb8 tb7.size
        have vs_8 := Lib.hid (vs_7.out.below hb8)
        clear vs_7
        have vx0_8 := Lib.hid (vx0_7.out.below hb8)
        clear vx0_7
        have vx1_8 := Lib.hid (vx1_7.out.below hb8)
        clear vx1_7
        have vg_8 := Lib.hid (vg_7.out.below hb8)
        clear vg_7
        have Svy0 := Lib.hid (show w.heap.size ≤ _ from tb7.size)
        have Nvy0 := Lib.hid hn8
        clear hn8
        have A_vs_vy0 := Lib.hid (apart2 (P := GBlk vs svs) (Q := Blk vy0) (fun k hk => (Qvy0_vs.out.lt k hk).2) (fun k hk => (Nvy0.out.lt k hk).1))
        clear Qvy0_vs
        have A_vx0_vy0 := Lib.hid (apart2 (P := Blk vx0) (Q := Blk vy0) (fun k hk => (Qvy0_vx0.out.lt k hk).2) (fun k hk => (Nvy0.out.lt k hk).1))
        clear Qvy0_vx0
        have A_vx1_vy0 := Lib.hid (apart2 (P := Blk vx1) (Q := Blk vy0) (fun k hk => (Qvy0_vx1.out.lt k hk).2) (fun k hk => (Nvy0.out.lt k hk).1))
        clear Qvy0_vx1
        have A_vg_vy0 := Lib.hid (apart2 (P := GBlk vg svg) (Q := Blk vy0) (fun k hk => (Qvy0_vg.out.lt k hk).2) (fun k hk => (Nvy0.out.lt k hk).1))
        clear Qvy0_vg
        go_wp2_with fail
        refine (eqFloats_sm vx0 vy0 z0 z0 _ vx0_8.out.row Nvy0.out.row (SmL.refl _) (by omega)).mono ?_
        rintro e u9 ⟨rfl, hd9⟩
        have hb9 := exactTakePair_dn hd9
        have tb9 := below_trans tb8 hb9 tb8.size
        have vs_9 := Lib.hid (vs_8.out.below hb9)
        clear vs_8
        have vx0_9 := Lib.hid (vx0_8.out.below hb9)
        clear vx0_8
        have vx1_9 := Lib.hid (vx1_8.out.below hb9)
        clear vx1_8
        have vg_9 := Lib.hid (vg_8.out.below hb9)
        clear vg_8
        have vy0_9 := Lib.hid (Nvy0.out.below hb9)
        clear Nvy0
        clear hd9
        clear vy0_9
        go_wp2_with fail
        refine ((HTO1 _ _ (HRW1.out.below tb9)).out).mono ?_
        rintro e u10 ⟨vy1, rfl, hn10, hb10⟩
        have Qvy1_vs := vs_9
        have Qvy1_vx0 := vx0_9
        have Qvy1_vx1 := vx1_9
        have Qvy1_vg := vg_9
        have tb10 := below_trans tb9 hb10 tb9.size
        have vs_10 := Lib.hid (vs_9.out.below hb10)
        clear vs_9
        have vx0_10 := Lib.hid (vx0_9.out.below hb10)
        clear vx0_9
        have vx1_10 := Lib.hid (vx1_9.out.below hb10)
        clear vx1_9
        have vg_10 := Lib.hid (vg_9.out.below hb10)
        clear vg_9
        have Svy1 := Lib.hid (show w.heap.size ≤ _ from tb9.size)
        have Nvy1 := Lib.hid hn10
        clear hn10
        have A_vs_vy1 := Lib.hid (apart2 (P := GBlk vs svs) (Q := Blk vy1) (fun k hk => (Qvy1_vs.out.lt k hk).2) (fun k hk => (Nvy1.out.lt k hk).1))
        clear Qvy1_vs
        have A_vx0_vy1 := Lib.hid (apart2 (P := Blk vx0) (Q := Blk vy1) (fun k hk => (Qvy1_vx0.out.lt k hk).2) (fun k hk => (Nvy1.out.lt k hk).1))
        clear Qvy1_vx0
        have A_vx1_vy1 := Lib.hid (apart2 (P := Blk vx1) (Q := Blk vy1) (fun k hk => (Qvy1_vx1.out.lt k hk).2) (fun k hk => (Nvy1.out.lt k hk).1))
        clear Qvy1_vx1
        have A_vg_vy1 := Lib.hid (apart2 (P := GBlk vg svg) (Q := Blk vy1) (fun k hk => (Qvy1_vg.out.lt k hk).2) (fun k hk => (Nvy1.out.lt k hk).1))
        clear Qvy1_vg
        go_wp2_with fail
        refine (eqFloats_sm vx1 vy1 z1 z1 _ vx1_10.out.row Nvy1.out.row (SmL.refl _) (by omega)).mono ?_
        rintro e u11 ⟨rfl, hd11⟩
        have hb11 := exactTakePair_dn hd11
        have tb11 := below_trans tb10 hb11 tb10.size
        have vs_11 := Lib.hid (vs_10.out.below hb11)
        clear vs_10
        have vx0_11 := Lib.hid (vx0_10.out.below hb11)
        clear vx0_10
        have vx1_11 := Lib.hid (vx1_10.out.below hb11)
        clear vx1_10
        have vg_11 := Lib.hid (vg_10.out.below hb11)
        clear vg_10
        have vy1_11 := Lib.hid (Nvy1.out.below hb11)
        clear Nvy1
        clear hd11
        clear vy1_11
        go_wp2_with fail
        refine (markFloats_any _ vx0 z0 _ vx0_11.out (by omega)).mono ?_
        rintro e u12 ⟨rfl, hm12, hg12⟩
        have ht12 := Turn.of hg12
        have tb12 := Turn.below tb11 tb11.size ht12 (fun k hk => Nat.le_trans Svx0.out (vx0_11.out.lt k hk).1)
        have vx0_12 := Lib.hid hm12
        clear vx0_11
        have vs_12 := Lib.hid (vs_11.out.turn ht12 A_vs_vx0.out.1)
        clear vs_11
        have vx1_12 := Lib.hid (vx1_11.out.turn ht12 A_vx0_vx1.out.2)
        clear vx1_11
        have vg_12 := Lib.hid (vg_11.out.turn ht12 A_vx0_vg.out.2)
        clear vg_11
        clear hm12 ht12 hg12
        clear vx0_12
        go_wp2_with fail
        refine (markFrom_any (z0.length + 1) _ vx1 z1 _ vx1_12.out (by omega) (by omega)).mono ?_
        rintro e u13 ⟨rfl, hm13, hg13⟩
        have ht13 := Turn.of hg13
        have tb13 := Turn.below tb12 tb12.size ht13 (fun k hk => Nat.le_trans Svx1.out (vx1_12.out.lt k hk).1)
        have vx1_13 := Lib.hid hm13
        clear vx1_12
        have vs_13 := Lib.hid (vs_12.out.turn ht13 A_vs_vx1.out.1)
        clear vs_12
        have vg_13 := Lib.hid (vg_12.out.turn ht13 A_vx1_vg.out.2)
        clear vg_12
        clear hm13 ht13 hg13
        clear vx1_13
        go_wp2_with fail
        refine (eqRows_num _ _ vg vs LL _ _ _ vg_13.out vs_13.out (Nat.le_trans HBD.out.1 (by decide)) (fun r hr => And.intro (Nat.le_trans (HBD.out.2.1 r hr).1 (by decide)) (HBD.out.2.1 r hr).2)).mono ?_
        rintro e u14 ⟨rfl, hb14⟩
        have tb14 := below_trans tb13 hb14 tb13.size
        have vs_14 := Lib.hid (vs_13.out.below hb14)
        clear vs_13
        have vg_14 := Lib.hid (vg_13.out.below hb14)
        clear vg_13
        go_wp2_with fail
        refine (markRows_any _ vg LL _ _ vg_14.out (Nat.le_trans HBD.out.1 (by decide)) (Nat.le_trans HBD.out.2.2.1 (by decide)) (fun r hr => (HBD.out.2.1 r hr).1) (fun k hk => Nat.le_trans (HBD.out.2.2.2 k hk) (by decide))).mono ?_
        rintro e u15 ⟨rfl, hm15, ht15⟩
        have tb15 := Turn.below tb14 tb14.size ht15 (fun k hk => Nat.le_trans Svg.out (vg_14.out.lt k hk).1)
        have vg_15 := Lib.hid hm15
        clear vg_14
        have vs_15 := Lib.hid (vs_14.out.turn ht15 A_vs_vg.out.1)
        clear vs_14
        clear hm15 ht15
        go_wp2_with fail
        refine (heldRows_any _ vg LL _ _ vg_15.out (Nat.le_trans HBD.out.1 (by decide)) (Nat.le_trans HBD.out.2.2.1 (by decide)) (fun r hr => (HBD.out.2.1 r hr).1) (fun k hk => Nat.le_trans (HBD.out.2.2.2 k hk) (by decide))).mono ?_
        rintro e u16 ⟨rfl, hd16⟩
        have hb16 := exactTakePair_dn hd16
        have tb16 := below_trans tb15 hb16 tb15.size
        have vs_16 := Lib.hid (vs_15.out.below hb16)
        clear vs_15
        have vg_16 := Lib.hid (vg_15.out.below hb16)
        clear vg_15
        clear hd16
        go_wp2_with fail
        refine ((HTO0 _ _ (HRW0.out.below tb16)).out).mono ?_
        rintro e u17 ⟨vr0, rfl, hn17, hb17⟩
        have Qvr0_vs := vs_16
        have Qvr0_vg := vg_16
        have tb17 := below_trans tb16 hb17 tb16.size
        have vs_17 := Lib.hid (vs_16.out.below hb17)
        clear vs_16
        have vg_17 := Lib.hid (vg_16.out.below hb17)
        clear vg_16
        have Svr0 := Lib.hid (show w.heap.size ≤ _ from tb16.size)
        have Nvr0 := Lib.hid hn17
        clear hn17
        have A_vs_vr0 := Lib.hid (apart2 (P := GBlk vs svs) (Q := Blk vr0) (fun k hk => (Qvr0_vs.out.lt k hk).2) (fun k hk => (Nvr0.out.lt k hk).1))
        clear Qvr0_vs
        have A_vg_vr0 := Lib.hid (apart2 (P := GBlk vg svg) (Q := Blk vr0) (fun k hk => (Qvr0_vg.out.lt k hk).2) (fun k hk => (Nvr0.out.lt k hk).1))
        clear Qvr0_vg
        go_wp2_with fail
        refine ((HTO1 _ _ (HRW1.out.below tb17)).out).mono ?_
        rintro e u18 ⟨vr1, rfl, hn18, hb18⟩
        have Qvr1_vs := vs_17
        have Qvr1_vg := vg_17
        have Qvr1_vr0 := Nvr0
        have tb18 := below_trans tb17 hb18 tb17.size
        have vs_18 := Lib.hid (vs_17.out.below hb18)
        clear vs_17
        have vg_18 := Lib.hid (vg_17.out.below hb18)
        clear vg_17
        have vr0_18 := Lib.hid (Nvr0.out.below hb18)
        clear Nvr0
        have Svr1 := Lib.hid (show w.heap.size ≤ _ from tb17.size)
        have Nvr1 := Lib.hid hn18
        clear hn18
        have A_vs_vr1 := Lib.hid (apart2 (P := GBlk vs svs) (Q := Blk vr1) (fun k hk => (Qvr1_vs.out.lt k hk).2) (fun k hk => (Nvr1.out.lt k hk).1))
        clear Qvr1_vs
        have A_vg_vr1 := Lib.hid (apart2 (P := GBlk vg svg) (Q := Blk vr1) (fun k hk => (Qvr1_vg.out.lt k hk).2) (fun k hk => (Nvr1.out.lt k hk).1))
        clear Qvr1_vg
        have A_vr0_vr1 := Lib.hid (apart2 (P := Blk vr0) (Q := Blk vr1) (fun k hk => (Qvr1_vr0.out.lt k hk).2) (fun k hk => (Nvr1.out.lt k hk).1))
        clear Qvr1_vr0
        go_wp2_with fail
        refine ((HIM _ _ _ vr0_18.out.row Nvr1.out.row).out).mono ?_
        rintro e u19 ⟨vh, svh, rfl, hn19, hb19⟩
        have Qvh_vs := vs_18
        have Qvh_vg := vg_18
        have Qvh_vr0 := vr0_18
        have Qvh_vr1 := Nvr1
        have tb19 := below_trans tb18 hb19 tb18.size
        have vs_19 := Lib.hid (vs_18.out.below hb19)
        clear vs_18
        have vg_19 := Lib.hid (vg_18.out.below hb19)
        clear vg_18
        have vr0_19 := Lib.hid (vr0_18.out.below hb19)
        clear vr0_18
        have vr1_19 := Lib.hid (Nvr1.out.below hb19)
        clear Nvr1
        have Svh := Lib.hid (show w.heap.size ≤ _ from tb18.size)
        have Nvh := Lib.hid hn19
        clear hn19
        have A_vs_vh := Lib.hid (apart2 (P := GBlk vs svs) (Q := GBlk vh svh) (fun k hk => (Qvh_vs.out.lt k hk).2) (fun k hk => (Nvh.out.lt k hk).1))
        clear Qvh_vs
        have A_vg_vh := Lib.hid (apart2 (P := GBlk vg svg) (Q := GBlk vh svh) (fun k hk => (Qvh_vg.out.lt k hk).2) (fun k hk => (Nvh.out.lt k hk).1))
        clear Qvh_vg
        have A_vr0_vh := Lib.hid (apart2 (P := Blk vr0) (Q := GBlk vh svh) (fun k hk => (Qvh_vr0.out.lt k hk).2) (fun k hk => (Nvh.out.lt k hk).1))
        clear Qvh_vr0
        have A_vr1_vh := Lib.hid (apart2 (P := Blk vr1) (Q := GBlk vh svh) (fun k hk => (Qvh_vr1.out.lt k hk).2) (fun k hk => (Nvh.out.lt k hk).1))
        clear Qvh_vr1
        clear vr0_19
        clear vr1_19
        go_wp2_with fail
        refine (eqRows_num _ _ vh vs LL _ _ _ Nvh.out vs_19.out (Nat.le_trans HBD.out.1 (by decide)) (fun r hr => And.intro (Nat.le_trans (HBD.out.2.1 r hr).1 (by decide)) (HBD.out.2.1 r hr).2)).mono ?_
        rintro e u20 ⟨rfl, hb20⟩
        have tb20 := below_trans tb19 hb20 tb19.size
        have vs_20 := Lib.hid (vs_19.out.below hb20)
        clear vs_19
        have vg_20 := Lib.hid (vg_19.out.below hb20)
        clear vg_19
        have vh_20 := Lib.hid (Nvh.out.below hb20)
        clear Nvh
        go_wp2_with fail
        refine (heldRows_any _ vg LL _ _ vg_20.out (Nat.le_trans HBD.out.1 (by decide)) (Nat.le_trans HBD.out.2.2.1 (by decide)) (fun r hr => (HBD.out.2.1 r hr).1) (fun k hk => Nat.le_trans (HBD.out.2.2.2 k hk) (by decide))).mono ?_
        rintro e u21 ⟨rfl, hd21⟩
        have hb21 := exactTakePair_dn hd21
        have tb21 := below_trans tb20 hb21 tb20.size
        have vs_21 := Lib.hid (vs_20.out.below hb21)
        clear vs_20
        have vg_21 := Lib.hid (vg_20.out.below hb21)
        clear vg_20
        have vh_21 := Lib.hid (vh_20.out.below hb21)
        clear vh_20
        clear hd21
        go_wp2
        go_ret
        exact ⟨rfl, tb21⟩
end Go.Proofs.Ytgecclccmmcdoaa
