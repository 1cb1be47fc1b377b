/-
  What is proved: the walk of the law FnExactAddSamples.
  Conditions: none beyond the arguments' own.
-/
import Derived.Test.YtnkmcjiohmnfhaaFEq
import Derived.Test.YtnkmcjiohmnfhaaSpecAdd
namespace Go.Proofs.Ytnkmcjiohmnfhaa
set_option linter.unusedVariables false
open Go.RowKit
attribute [local go_sem] run_store_float run_store_complex unary_negf neg256

theorem exactAddSamples_dn {w w' : World} (h : ∃ n, w' = w.drewN n) : Below w.heap.size w w' := by
  obtain ⟨n, rfl⟩ := h
  exact belowDN (Below.refl _ _) n
theorem exactAddSamples_apart {w w' : World} {b b' : Nat} {v v' : Value} {xs xs' : List Nat} (h : FNew w b v xs) (h' : FNew w' b' v' xs') (hb : w.heap.size ≤ b') : (∀ k, v.ownBlock = some k → v'.ownBlock ≠ some k) ∧ (∀ k, v'.ownBlock = some k → v.ownBlock ≠ some k) := by
  constructor
  · intro k h1 h2
    have a := (h.lt k h1).2
    have c := (h'.lt k h2).1
    omega
  · intro k h1 h2
    have a := (h.lt k h2).2
    have c := (h'.lt k h1).1
    omega
theorem exactAddSamples_mark {w w1 w2 : World} {b : Nat} {v : Value} {xs : List Nat} (hb : Below w.heap.size w w1) (h : FNew w1 b v xs) (hbase : w.heap.size ≤ b) (hg : w1.grownBy w2 v.ownBlock) : Below w.heap.size w w2 :=
  hb.grown hg hb.size (fun k hk => Nat.le_trans hbase (h.lt k hk).1)
set_option maxHeartbeats 8000000 in
theorem walk_FnExactAddSamples (a0 : Option Addr) (len0 cap0 : Nat) (z0 : List Nat) (a1 : Option Addr) (len1 cap1 : Nat) (z1 : List Nat) (w : World) (w0 : FRow w (.slice a0 len0 cap0) z0 ∧ (∀ z ∈ z0, z < 2 ^ 32) ∧ z0.length = len0) (w1 : FRow w (.slice a1 len1 cap1) z1 ∧ (∀ z ∈ z1, z < 2 ^ 32) ∧ z1.length = len1) :
    Calls Try.prog 12 #[.slice a0 len0 cap0, .slice a1 len1 cap1] w fun e w' => e = .returned (.bool true) ∧ Below w.heap.size w w' := by
  obtain ⟨hrow0, hfit0, rfl⟩ := w0
  obtain ⟨hrow1, hfit1, rfl⟩ := w1
  by_cases hbig0 : 1048576 < z0.length
  · clear hrow0 hfit0 hrow1 hfit1
    go_enter Try.func12, Try.ntmps12
    go_wp2
    go_ret
    exact ⟨rfl, Below.refl _ _⟩
  · skip
    by_cases hbig1 : 1048576 < z1.length
    · clear hrow0 hfit0 hrow1 hfit1
      go_enter Try.func12, Try.ntmps12
      go_wp2
      go_ret
      exact ⟨rfl, Below.refl _ _⟩
    · skip
      have HRW0 := Lib.hid hrow0
      have HRW1 := Lib.hid hrow1
      have HTO0 := fun v W hr => Lib.hid (toFloats_any v z0 W hr (by omega))
      have HTO1 := fun v W hr => Lib.hid (toFloats_any v z1 W hr (by omega))
      have HSP := fun V0 V1 W H0 H1 => Lib.hid (specAdd_any V0 V1 z0 z1 W H0 H1 (by omega) (by omega))
      have HIM := fun V0 V1 W H0 H1 => Lib.hid (addSamples_any V0 V1 z0 z1 W H0 H1 (by omega) (by omega))
      clear hrow0 hfit0 hrow1 hfit1
      go_enter Try.func12, Try.ntmps12
      go_wp2_with fail
      refine ((HTO0 _ _ HRW0.out).out).mono ?_
      rintro e u1 ⟨vt0, rfl, hn1, hb1⟩
      have St0 := Lib.hid (show w.heap.size ≤ _ from Nat.le_refl w.heap.size)
      have Nt0 := Lib.hid hn1
      clear hn1
      go_wp2_with fail
      refine ((HTO1 _ _ (HRW1.out.below hb1)).out).mono ?_
      rintro e u2 ⟨vt1, rfl, hn2, hb2⟩
      have tb2 := below_trans hb1 hb2 hb1.size
      have vt0_2 := Lib.hid (Nt0.out.below hb2)
      clear Nt0
      have St1 := Lib.hid (show w.heap.size ≤ _ from hb1.size)
      have Nt1 := Lib.hid hn2
      clear hn2
      go_wp2_with fail
      refine ((HSP _ _ _ vt0_2.out.row Nt1.out.row).out).mono ?_
      rintro e u3 ⟨vs, ls, rfl, hr3, hn3, hb3⟩
      have tb3 := below_trans tb2 hb3 tb2.size
      have vt0_3 := Lib.hid (vt0_2.out.below hb3)
      clear vt0_2
      have vt1_3 := Lib.hid (Nt1.out.below hb3)
      clear Nt1
      have Ss := Lib.hid (show w.heap.size ≤ _ from tb2.size)
      have Ns := Lib.hid hn3
      have Rs := Lib.hid hr3
      clear hn3 hr3
      clear vt0_3
      clear vt1_3
      have Qx0_vs := Ns
      go_wp2_with fail
      refine ((HTO0 _ _ (HRW0.out.below tb3)).out).mono ?_
      rintro e u4 ⟨vx0, rfl, hn4, hb4⟩
      have tb4 := below_trans tb3 hb4 tb3.size
      have vs_4 := Lib.hid (Ns.out.below hb4)
      clear Ns
      have Sx0 := Lib.hid (show w.heap.size ≤ _ from tb3.size)
      have Nx0 := Lib.hid hn4
      clear hn4
      have A_vs_vx0 := Lib.hid (exactAddSamples_apart Qx0_vs.out Nx0.out (Nat.le_refl _))
      clear Qx0_vs
      have Qx1_vs := vs_4
      have Qx1_vx0 := Nx0
      go_wp2_with fail
      refine ((HTO1 _ _ (HRW1.out.below tb4)).out).mono ?_
      rintro e u5 ⟨vx1, rfl, hn5, hb5⟩
      have tb5 := below_trans tb4 hb5 tb4.size
      have vs_5 := Lib.hid (vs_4.out.below hb5)
      clear vs_4
      have vx0_5 := Lib.hid (Nx0.out.below hb5)
      clear Nx0
      have Sx1 := Lib.hid (show w.heap.size ≤ _ from tb4.size)
      have Nx1 := Lib.hid hn5
      clear hn5
      have A_vs_vx1 := Lib.hid (exactAddSamples_apart Qx1_vs.out Nx1.out (Nat.le_refl _))
      clear Qx1_vs
      have A_vx0_vx1 := Lib.hid (exactAddSamples_apart Qx1_vx0.out Nx1.out (Nat.le_refl _))
      clear Qx1_vx0
      have Qg_vs := vs_5
      have Qg_vx0 := vx0_5
      have Qg_vx1 := Nx1
      go_wp2_with fail
      refine ((HIM _ _ _ vx0_5.out.row Nx1.out.row).out).mono ?_
      rintro e u6 ⟨vg, lg, rfl, hr6, hn6, hb6⟩
      have tb6 := below_trans tb5 hb6 tb5.size
      have vs_6 := Lib.hid (vs_5.out.below hb6)
      clear vs_5
      have vx0_6 := Lib.hid (vx0_5.out.below hb6)
      clear vx0_5
      have vx1_6 := Lib.hid (Nx1.out.below hb6)
      clear Nx1
      have Sg := Lib.hid (show w.heap.size ≤ _ from tb5.size)
      have Ng := Lib.hid hn6
      have Rg := Lib.hid hr6
      clear hn6 hr6
      have A_vs_vg := Lib.hid (exactAddSamples_apart Qg_vs.out Ng.out (Nat.le_refl _))
      clear Qg_vs
      have A_vx0_vg := Lib.hid (exactAddSamples_apart Qg_vx0.out Ng.out (Nat.le_refl _))
      clear Qg_vx0
      have A_vx1_vg := Lib.hid (exactAddSamples_apart Qg_vx1.out Ng.out (Nat.le_refl _))
      clear Qg_vx1
      go_wp2_with fail
      refine (eqFloats_sm vg vs lg ls _ Ng.out.row vs_6.out.row (AddR.same Rg.out Rs.out) (by have := AddR.len Rg.out; omega)).mono ?_
      rintro e u7 ⟨rfl, hd7⟩
      have hb7 := exactAddSamples_dn hd7
      have tb7 := below_trans tb6 hb7 tb6.size
      have vs_7 := Lib.hid (vs_6.out.below hb7)
      clear vs_6
      have vx0_7 := Lib.hid (vx0_6.out.below hb7)
      clear vx0_6
      have vx1_7 := Lib.hid (vx1_6.out.below hb7)
      clear vx1_6
      have vg_7 := Lib.hid (Ng.out.below hb7)
      clear Ng
      clear hd7
      go_wp2_with fail
      refine ((HTO0 _ _ (HRW0.out.below tb7)).out).mono ?_
      rintro e u8 ⟨vy0, rfl, hn8, hb8⟩
      have tb8 := below_trans tb7 hb8 tb7.size
      have vs_8 := Lib.hid (vs_7.out.below hb8)
      clear vs_7
      have vx0_8 := Lib.hid (vx0_7.out.below hb8)
      clear vx0_7
      have vx1_8 := Lib.hid (vx1_7.out.below hb8)
      clear vx1_7
      have vg_8 := Lib.hid (vg_7.out.below hb8)
      clear vg_7
      have Sy0 := Lib.hid (show w.heap.size ≤ _ from tb7.size)
      have Ny0 := Lib.hid hn8
      clear hn8
      go_wp2_with fail
      refine (eqFloats_sm vx0 vy0 z0 z0 _ vx0_8.out.row Ny0.out.row (SmL.refl _) (by omega)).mono ?_
      rintro e u9 ⟨rfl, hd9⟩
      have hb9 := exactAddSamples_dn hd9
      have tb9 := below_trans tb8 hb9 tb8.size
      have vs_9 := Lib.hid (vs_8.out.below hb9)
      clear vs_8
      have vx0_9 := Lib.hid (vx0_8.out.below hb9)
      clear vx0_8
      have vx1_9 := Lib.hid (vx1_8.out.below hb9)
      clear vx1_8
      have vg_9 := Lib.hid (vg_8.out.below hb9)
      clear vg_8
      have vy0_9 := Lib.hid (Ny0.out.below hb9)
      clear Ny0
      clear hd9
      clear vy0_9
      go_wp2_with fail
      refine ((HTO1 _ _ (HRW1.out.below tb9)).out).mono ?_
      rintro e u10 ⟨vy1, rfl, hn10, hb10⟩
      have tb10 := below_trans tb9 hb10 tb9.size
      have vs_10 := Lib.hid (vs_9.out.below hb10)
      clear vs_9
      have vx0_10 := Lib.hid (vx0_9.out.below hb10)
      clear vx0_9
      have vx1_10 := Lib.hid (vx1_9.out.below hb10)
      clear vx1_9
      have vg_10 := Lib.hid (vg_9.out.below hb10)
      clear vg_9
      have Sy1 := Lib.hid (show w.heap.size ≤ _ from tb9.size)
      have Ny1 := Lib.hid hn10
      clear hn10
      go_wp2_with fail
      refine (eqFloats_sm vx1 vy1 z1 z1 _ vx1_10.out.row Ny1.out.row (SmL.refl _) (by omega)).mono ?_
      rintro e u11 ⟨rfl, hd11⟩
      have hb11 := exactAddSamples_dn hd11
      have tb11 := below_trans tb10 hb11 tb10.size
      have vs_11 := Lib.hid (vs_10.out.below hb11)
      clear vs_10
      have vx0_11 := Lib.hid (vx0_10.out.below hb11)
      clear vx0_10
      have vx1_11 := Lib.hid (vx1_10.out.below hb11)
      clear vx1_10
      have vg_11 := Lib.hid (vg_10.out.below hb11)
      clear vg_10
      have vy1_11 := Lib.hid (Ny1.out.below hb11)
      clear Ny1
      clear hd11
      clear vy1_11
      go_wp2_with fail
      refine (markFloats_any _ vx0 z0 _ vx0_11.out (by omega)).mono ?_
      rintro e u12 ⟨rfl, hm12, hg12⟩
      have tb12 := exactAddSamples_mark tb11 vx0_11.out Sx0.out hg12
      have vx0_12 := Lib.hid hm12
      clear vx0_11
      have vs_12 := Lib.hid (vs_11.out.far hg12 A_vs_vx0.out.1)
      clear vs_11
      have vx1_12 := Lib.hid (vx1_11.out.far hg12 A_vx0_vx1.out.2)
      clear vx1_11
      have vg_12 := Lib.hid (vg_11.out.far hg12 A_vx0_vg.out.2)
      clear vg_11
      clear hm12 hg12
      clear vx0_12
      go_wp2_with fail
      refine (markFrom_any (z0.length + 1) _ vx1 z1 _ vx1_12.out (by omega) (by omega)).mono ?_
      rintro e u13 ⟨rfl, hm13, hg13⟩
      have tb13 := exactAddSamples_mark tb12 vx1_12.out Sx1.out hg13
      have vx1_13 := Lib.hid hm13
      clear vx1_12
      have vs_13 := Lib.hid (vs_12.out.far hg13 A_vs_vx1.out.1)
      clear vs_12
      have vg_13 := Lib.hid (vg_12.out.far hg13 A_vx1_vg.out.2)
      clear vg_12
      clear hm13 hg13
      clear vx1_13
      go_wp2_with fail
      refine (eqFloats_sm vg vs lg ls _ vg_13.out.row vs_13.out.row (AddR.same Rg.out Rs.out) (by have := AddR.len Rg.out; omega)).mono ?_
      rintro e u14 ⟨rfl, hd14⟩
      have hb14 := exactAddSamples_dn hd14
      have tb14 := below_trans tb13 hb14 tb13.size
      have vs_14 := Lib.hid (vs_13.out.below hb14)
      clear vs_13
      have vg_14 := Lib.hid (vg_13.out.below hb14)
      clear vg_13
      clear hd14
      go_wp2_with fail
      refine (markFloats_any _ vg lg _ vg_14.out (by have := AddR.len Rg.out; omega)).mono ?_
      rintro e u15 ⟨rfl, hm15, hg15⟩
      have tb15 := exactAddSamples_mark tb14 vg_14.out Sg.out hg15
      have vg_15 := Lib.hid hm15
      clear vg_14
      have vs_15 := Lib.hid (vs_14.out.far hg15 A_vs_vg.out.1)
      clear vs_14
      clear hm15 hg15
      go_wp2_with fail
      refine (heldFloats_any vg lg.length _ vg_15.out.row (by have := AddR.len Rg.out; omega)).mono ?_
      rintro e u16 ⟨rfl, hd16⟩
      have hb16 := exactAddSamples_dn hd16
      have tb16 := below_trans tb15 hb16 tb15.size
      have vs_16 := Lib.hid (vs_15.out.below hb16)
      clear vs_15
      have vg_16 := Lib.hid (vg_15.out.below hb16)
      clear vg_15
      clear hd16
      go_wp2_with fail
      refine ((HTO0 _ _ (HRW0.out.below tb16)).out).mono ?_
      rintro e u17 ⟨vr0, rfl, hn17, hb17⟩
      have tb17 := below_trans tb16 hb17 tb16.size
      have vs_17 := Lib.hid (vs_16.out.below hb17)
      clear vs_16
      have vg_17 := Lib.hid (vg_16.out.below hb17)
      clear vg_16
      have Sr0 := Lib.hid (show w.heap.size ≤ _ from tb16.size)
      have Nr0 := Lib.hid hn17
      clear hn17
      go_wp2_with fail
      refine ((HTO1 _ _ (HRW1.out.below tb17)).out).mono ?_
      rintro e u18 ⟨vr1, rfl, hn18, hb18⟩
      have tb18 := below_trans tb17 hb18 tb17.size
      have vs_18 := Lib.hid (vs_17.out.below hb18)
      clear vs_17
      have vg_18 := Lib.hid (vg_17.out.below hb18)
      clear vg_17
      have vr0_18 := Lib.hid (Nr0.out.below hb18)
      clear Nr0
      have Sr1 := Lib.hid (show w.heap.size ≤ _ from tb17.size)
      have Nr1 := Lib.hid hn18
      clear hn18
      go_wp2_with fail
      refine ((HIM _ _ _ vr0_18.out.row Nr1.out.row).out).mono ?_
      rintro e u19 ⟨vh, lh, rfl, hr19, hn19, hb19⟩
      have tb19 := below_trans tb18 hb19 tb18.size
      have vs_19 := Lib.hid (vs_18.out.below hb19)
      clear vs_18
      have vg_19 := Lib.hid (vg_18.out.below hb19)
      clear vg_18
      have vr0_19 := Lib.hid (vr0_18.out.below hb19)
      clear vr0_18
      have vr1_19 := Lib.hid (Nr1.out.below hb19)
      clear Nr1
      have Sh := Lib.hid (show w.heap.size ≤ _ from tb18.size)
      have Nh := Lib.hid hn19
      have Rh := Lib.hid hr19
      clear hn19 hr19
      clear vr0_19
      clear vr1_19
      go_wp2_with fail
      refine (eqFloats_sm vh vs lh ls _ Nh.out.row vs_19.out.row (AddR.same Rh.out Rs.out) (by have := AddR.len Rh.out; omega)).mono ?_
      rintro e u20 ⟨rfl, hd20⟩
      have hb20 := exactAddSamples_dn hd20
      have tb20 := below_trans tb19 hb20 tb19.size
      have vs_20 := Lib.hid (vs_19.out.below hb20)
      clear vs_19
      have vg_20 := Lib.hid (vg_19.out.below hb20)
      clear vg_19
      have vh_20 := Lib.hid (Nh.out.below hb20)
      clear Nh
      clear hd20
      go_wp2_with fail
      refine (heldFloats_any vg lg.length _ vg_20.out.row (by have := AddR.len Rg.out; omega)).mono ?_
      rintro e u21 ⟨rfl, hd21⟩
      have hb21 := exactAddSamples_dn hd21
      have tb21 := below_trans tb20 hb21 tb20.size
      have vs_21 := Lib.hid (vs_20.out.below hb21)
      clear vs_20
      have vg_21 := Lib.hid (vg_20.out.below hb21)
      clear vg_20
      have vh_21 := Lib.hid (vh_20.out.below hb21)
      clear vh_20
      clear hd21
      go_wp2
      go_ret
      exact ⟨rfl, tb21⟩
end Go.Proofs.Ytnkmcjiohmnfhaa
