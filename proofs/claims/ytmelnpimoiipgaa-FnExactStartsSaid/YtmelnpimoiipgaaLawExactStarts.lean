/-
  What is proved: the walk of the law FnExactStarts.
  Conditions: none beyond the arguments' own.
-/
import Derived.Test.YtmelnpimoiipgaaRunEq
import Derived.Test.YtmelnpimoiipgaaImplStarts
import Derived.Test.YtmelnpimoiipgaaPkGEq
import Derived.Test.YtmelnpimoiipgaaExact6
namespace Go.Proofs.Ytmelnpimoiipgaa
set_option linter.unusedVariables false
open Go.RowKit
attribute [local go_sem] run_store_float run_store_complex unary_negf neg256

theorem exactStarts_dn {w w' : World} (h : ∃ n, w' = w.drewN n) : Below w.heap.size w w' := by
  obtain ⟨n, rfl⟩ := h
  exact belowDN (Below.refl _ _) n
set_option maxHeartbeats 8000000 in
set_option maxRecDepth 100000 in
theorem walk_FnExactStarts (a0 : Option Addr) (len0 cap0 : Nat) (z0 : List Nat) (s : Nat) (n g : Int) (w : World) (w0 : FRow w (.slice a0 len0 cap0) z0 ∧ (∀ z ∈ z0, z < 2 ^ 32) ∧ z0.length = len0) (e1 : (Lit.float .f32 s).wf = true) (e2 : (Lit.int .i64 n).wf = true) (e3 : (Lit.int .i64 g).wf = true) :
    Calls Try.prog 8 #[.slice a0 len0 cap0, .float .f32 s, .int .i64 n, .int .i64 g] w fun e w' => e = .returned (.bool true) ∧ Below w.heap.size w w' := by
  obtain ⟨hrow0, hfit0, rfl⟩ := w0
  by_cases hbig0 : 1048576 < z0.length
  · clear hrow0 hfit0
    go_enter Try.func8, Try.ntmps8
    go_wp2
    go_ret
    exact ⟨rfl, Below.refl _ _⟩
  · skip
    have hn : I64 n := by unfold I64; simpa [Lit.wf, IntKind.min, IntKind.max, IntKind.signed, IntKind.bits] using e2
    have hg : I64 g := by unfold I64; simpa [Lit.wf, IntKind.min, IntKind.max, IntKind.signed, IntKind.bits] using e3
    clear e1 e2 e3
    have HRW0 := Lib.hid hrow0
    have HTO0 := fun v W hr => Lib.hid (toFloats_any v z0 W hr (by omega))
    have HSP := fun V0 W H0 => Lib.hid (specStarts_any V0 z0 s n g W H0 hn hg (by omega))
    have HIM := fun V0 W H0 => Lib.hid (starts_any V0 z0 s n g W H0 hn hg (by omega))
    have HLE := starts_len z0 s n g
    generalize starts z0 s n g = LL at HSP HIM HLE 
    clear hrow0 hfit0 hn hg
    go_enter Try.func8, Try.ntmps8
    go_wp2_with fail
    refine ((HTO0 _ _ HRW0.out).out).mono ?_
    rintro e u1 ⟨vt0, rfl, hn1, hb1⟩
    have Svt0 := Lib.hid (show w.heap.size ≤ _ from Nat.le_refl w.heap.size)
    have Nvt0 := Lib.hid hn1
    clear hn1
    go_wp2_with fail
    refine ((HSP _ _ Nvt0.out.row).out).mono ?_
    rintro e u2 ⟨vs, rfl, hn2, hb2⟩
    have Qvs_vt0 := Nvt0
    have tb2 := below_trans hb1 hb2 hb1.size
    have vt0_2 := Lib.hid (Nvt0.out.below hb2)
    clear Nvt0
    have Svs := Lib.hid (show w.heap.size ≤ _ from hb1.size)
    have Nvs := Lib.hid hn2
    clear hn2
    have A_vt0_vs := Lib.hid (apart2 (P := Blk vt0) (Q := Blk vs) (fun k hk => (Qvs_vt0.out.lt k hk).2) (fun k hk => (Nvs.out.lt k hk).1))
    clear Qvs_vt0
    clear vt0_2
    go_wp2_with fail
    refine ((HTO0 _ _ (HRW0.out.below tb2)).out).mono ?_
    rintro e u3 ⟨vx0, rfl, hn3, hb3⟩
    have Qvx0_vs := Nvs
    have tb3 := below_trans tb2 hb3 tb2.size
    have vs_3 := Lib.hid (Nvs.out.below hb3)
    clear Nvs
    have Svx0 := Lib.hid (show w.heap.size ≤ _ from tb2.size)
    have Nvx0 := Lib.hid hn3
    clear hn3
    have A_vs_vx0 := Lib.hid (apart2 (P := Blk vs) (Q := Blk vx0) (fun k hk => (Qvx0_vs.out.lt k hk).2) (fun k hk => (Nvx0.out.lt k hk).1))
    clear Qvx0_vs
    go_wp2_with fail
    refine ((HIM _ _ Nvx0.out.row).out).mono ?_
    rintro e u4 ⟨vg, rfl, hn4, hb4⟩
    have Qvg_vs := vs_3
    have Qvg_vx0 := Nvx0
    have tb4 := below_trans tb3 hb4 tb3.size
    have vs_4 := Lib.hid (vs_3.out.below hb4)
    clear vs_3
    have vx0_4 := Lib.hid (Nvx0.out.below hb4)
    clear Nvx0
    have Svg := Lib.hid (show w.heap.size ≤ _ from tb3.size)
    have Nvg := Lib.hid hn4
    clear hn4
    have A_vs_vg := Lib.hid (apart2 (P := Blk vs) (Q := Blk vg) (fun k hk => (Qvg_vs.out.lt k hk).2) (fun k hk => (Nvg.out.lt k hk).1))
    clear Qvg_vs
    have A_vx0_vg := Lib.hid (apart2 (P := Blk vx0) (Q := Blk vg) (fun k hk => (Qvg_vx0.out.lt k hk).2) (fun k hk => (Nvg.out.lt k hk).1))
    clear Qvg_vx0
    go_wp2_with fail
    refine (eqInts_self vg vs LL _ Nvg.out.row vs_4.out.row (by omega)).mono ?_
    rintro e u5 ⟨rfl, hd5⟩
    have hb5 := exactStarts_dn hd5
    have tb5 := below_trans tb4 hb5 tb4.size
    have vs_5 := Lib.hid (vs_4.out.below hb5)
    clear vs_4
    have vx0_5 := Lib.hid (vx0_4.out.below hb5)
    clear vx0_4
    have vg_5 := Lib.hid (Nvg.out.below hb5)
    clear Nvg
    clear hd5
    go_wp2_with fail
    refine ((HTO0 _ _ (HRW0.out.below tb5)).out).mono ?_
    rintro e u6 ⟨vy0, rfl, hn6, hb6⟩
    have Qvy0_vs := vs_5
    have Qvy0_vx0 := vx0_5
    have Qvy0_vg := vg_5
    have tb6 := below_trans tb5 hb6 tb5.size
    have vs_6 := Lib.hid (vs_5.out.below hb6)
    clear vs_5
    have vx0_6 := Lib.hid (vx0_5.out.below hb6)
    clear vx0_5
    have vg_6 := Lib.hid (vg_5.out.below hb6)
    clear vg_5
    have Svy0 := Lib.hid (show w.heap.size ≤ _ from tb5.size)
    have Nvy0 := Lib.hid hn6
    clear hn6
    have A_vs_vy0 := Lib.hid (apart2 (P := Blk vs) (Q := Blk vy0) (fun k hk => (Qvy0_vs.out.lt k hk).2) (fun k hk => (Nvy0.out.lt k hk).1))
    clear Qvy0_vs
    have A_vx0_vy0 := Lib.hid (apart2 (P := Blk vx0) (Q := Blk vy0) (fun k hk => (Qvy0_vx0.out.lt k hk).2) (fun k hk => (Nvy0.out.lt k hk).1))
    clear Qvy0_vx0
    have A_vg_vy0 := Lib.hid (apart2 (P := Blk vg) (Q := Blk vy0) (fun k hk => (Qvy0_vg.out.lt k hk).2) (fun k hk => (Nvy0.out.lt k hk).1))
    clear Qvy0_vg
    go_wp2_with fail
    refine (eqFloats_sm vx0 vy0 z0 z0 _ vx0_6.out.row Nvy0.out.row (SmL.refl _) (by omega)).mono ?_
    rintro e u7 ⟨rfl, hd7⟩
    have hb7 := exactStarts_dn hd7
    have tb7 := below_trans tb6 hb7 tb6.size
    have vs_7 := Lib.hid (vs_6.out.below hb7)
    clear vs_6
    have vx0_7 := Lib.hid (vx0_6.out.below hb7)
    clear vx0_6
    have vg_7 := Lib.hid (vg_6.out.below hb7)
    clear vg_6
    have vy0_7 := Lib.hid (Nvy0.out.below hb7)
    clear Nvy0
    clear hd7
    clear vy0_7
    go_wp2_with fail
    refine (markFloats_any _ vx0 z0 _ vx0_7.out (by omega)).mono ?_
    rintro e u8 ⟨rfl, hm8, hg8⟩
    have ht8 := Turn.of hg8
    have tb8 := Turn.below tb7 tb7.size ht8 (fun k hk => Nat.le_trans Svx0.out (vx0_7.out.lt k hk).1)
    have vx0_8 := Lib.hid hm8
    clear vx0_7
    have vs_8 := Lib.hid (vs_7.out.turn ht8 A_vs_vx0.out.1)
    clear vs_7
    have vg_8 := Lib.hid (vg_7.out.turn ht8 A_vx0_vg.out.2)
    clear vg_7
    clear hm8 ht8 hg8
    clear vx0_8
    go_wp2_with fail
    refine (eqInts_self vg vs LL _ vg_8.out.row vs_8.out.row (by omega)).mono ?_
    rintro e u9 ⟨rfl, hd9⟩
    have hb9 := exactStarts_dn hd9
    have tb9 := below_trans tb8 hb9 tb8.size
    have vs_9 := Lib.hid (vs_8.out.below hb9)
    clear vs_8
    have vg_9 := Lib.hid (vg_8.out.below hb9)
    clear vg_8
    clear hd9
    go_wp2_with fail
    refine (markInts_any (1) _ vg LL _ vg_9.out (by omega) (by omega)).mono ?_
    rintro e u10 ⟨rfl, hm10, hg10⟩
    have ht10 := Turn.of hg10
    have tb10 := Turn.below tb9 tb9.size ht10 (fun k hk => Nat.le_trans Svg.out (vg_9.out.lt k hk).1)
    have vg_10 := Lib.hid hm10
    clear vg_9
    have vs_10 := Lib.hid (vs_9.out.turn ht10 A_vs_vg.out.1)
    clear vs_9
    clear hm10 ht10 hg10
    go_wp2_with fail
    refine (heldInts_any 1 vg LL.length _ vg_10.out.row (by omega) (by omega)).mono ?_
    rintro e u11 ⟨rfl, hd11⟩
    have hb11 := exactStarts_dn hd11
    have tb11 := below_trans tb10 hb11 tb10.size
    have vs_11 := Lib.hid (vs_10.out.below hb11)
    clear vs_10
    have vg_11 := Lib.hid (vg_10.out.below hb11)
    clear vg_10
    clear hd11
    go_wp2_with fail
    refine ((HTO0 _ _ (HRW0.out.below tb11)).out).mono ?_
    rintro e u12 ⟨vr0, rfl, hn12, hb12⟩
    have Qvr0_vs := vs_11
    have Qvr0_vg := vg_11
    have tb12 := below_trans tb11 hb12 tb11.size
    have vs_12 := Lib.hid (vs_11.out.below hb12)
    clear vs_11
    have vg_12 := Lib.hid (vg_11.out.below hb12)
    clear vg_11
    have Svr0 := Lib.hid (show w.heap.size ≤ _ from tb11.size)
    have Nvr0 := Lib.hid hn12
    clear hn12
    have A_vs_vr0 := Lib.hid (apart2 (P := Blk vs) (Q := Blk vr0) (fun k hk => (Qvr0_vs.out.lt k hk).2) (fun k hk => (Nvr0.out.lt k hk).1))
    clear Qvr0_vs
    have A_vg_vr0 := Lib.hid (apart2 (P := Blk vg) (Q := Blk vr0) (fun k hk => (Qvr0_vg.out.lt k hk).2) (fun k hk => (Nvr0.out.lt k hk).1))
    clear Qvr0_vg
    go_wp2_with fail
    refine ((HIM _ _ Nvr0.out.row).out).mono ?_
    rintro e u13 ⟨vh, rfl, hn13, hb13⟩
    have Qvh_vs := vs_12
    have Qvh_vg := vg_12
    have Qvh_vr0 := Nvr0
    have tb13 := below_trans tb12 hb13 tb12.size
    have vs_13 := Lib.hid (vs_12.out.below hb13)
    clear vs_12
    have vg_13 := Lib.hid (vg_12.out.below hb13)
    clear vg_12
    have vr0_13 := Lib.hid (Nvr0.out.below hb13)
    clear Nvr0
    have Svh := Lib.hid (show w.heap.size ≤ _ from tb12.size)
    have Nvh := Lib.hid hn13
    clear hn13
    have A_vs_vh := Lib.hid (apart2 (P := Blk vs) (Q := Blk vh) (fun k hk => (Qvh_vs.out.lt k hk).2) (fun k hk => (Nvh.out.lt k hk).1))
    clear Qvh_vs
    have A_vg_vh := Lib.hid (apart2 (P := Blk vg) (Q := Blk vh) (fun k hk => (Qvh_vg.out.lt k hk).2) (fun k hk => (Nvh.out.lt k hk).1))
    clear Qvh_vg
    have A_vr0_vh := Lib.hid (apart2 (P := Blk vr0) (Q := Blk vh) (fun k hk => (Qvh_vr0.out.lt k hk).2) (fun k hk => (Nvh.out.lt k hk).1))
    clear Qvh_vr0
    clear vr0_13
    go_wp2_with fail
    refine (eqInts_self vh vs LL _ Nvh.out.row vs_13.out.row (by omega)).mono ?_
    rintro e u14 ⟨rfl, hd14⟩
    have hb14 := exactStarts_dn hd14
    have tb14 := below_trans tb13 hb14 tb13.size
    have vs_14 := Lib.hid (vs_13.out.below hb14)
    clear vs_13
    have vg_14 := Lib.hid (vg_13.out.below hb14)
    clear vg_13
    have vh_14 := Lib.hid (Nvh.out.below hb14)
    clear Nvh
    clear hd14
    go_wp2_with fail
    refine (heldInts_any 1 vg LL.length _ vg_14.out.row (by omega) (by omega)).mono ?_
    rintro e u15 ⟨rfl, hd15⟩
    have hb15 := exactStarts_dn hd15
    have tb15 := below_trans tb14 hb15 tb14.size
    have vs_15 := Lib.hid (vs_14.out.below hb15)
    clear vs_14
    have vg_15 := Lib.hid (vg_14.out.below hb15)
    clear vg_14
    have vh_15 := Lib.hid (vh_14.out.below hb15)
    clear vh_14
    clear hd15
    go_wp2
    go_ret
    exact ⟨rfl, tb15⟩
end Go.Proofs.Ytmelnpimoiipgaa
