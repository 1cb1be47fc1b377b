/-
  What is proved: the walk of the law FnExactDecodeAlone.
  Conditions: none beyond the arguments' own.
-/
import Derived.Test.YtgecclccmmcdoaaPkEq
import Derived.Test.YtgecclccmmcdoaaCellMark
import Derived.Test.YtgecclccmmcdoaaSpecAlone
import Derived.Test.YtgecclccmmcdoaaImplAlone
namespace Go.Proofs.Ytgecclccmmcdoaa
set_option linter.unusedVariables false
open Go.RowKit
attribute [local go_sem] run_store_float run_store_complex unary_negf neg256

theorem exactDecodeAlone_dn {w w' : World} (h : ∃ n, w' = w.drewN n) : Below w.heap.size w w' := by
  obtain ⟨n, rfl⟩ := h
  exact belowDN (Below.refl _ _) n
theorem exactDecodeAlone_apart {w w' : World} {b b' : Nat} {v v' : Value} (h : ∀ k, v.ownBlock = some k → b ≤ k ∧ k < w.heap.size) (h' : ∀ k, v'.ownBlock = some k → b' ≤ k ∧ k < w'.heap.size) (hb : w.heap.size ≤ b') : (∀ k, v.ownBlock = some k → v'.ownBlock ≠ some k) ∧ (∀ k, v'.ownBlock = some k → v.ownBlock ≠ some k) := by
  constructor
  · intro k h1 h2
    have a := (h k h1).2
    have c := (h' k h2).1
    omega
  · intro k h1 h2
    have a := (h k h2).2
    have c := (h' k h1).1
    omega
theorem exactDecodeAlone_mark {w w1 w2 : World} {b : Nat} {v : Value} (hb : Below w.heap.size w w1) (h : ∀ k, v.ownBlock = some k → b ≤ k ∧ k < w1.heap.size) (hbase : w.heap.size ≤ b) (hg : w1.grownBy w2 v.ownBlock) : Below w.heap.size w w2 :=
  hb.grown hg hb.size (fun k hk => Nat.le_trans hbase (h k hk).1)
set_option maxHeartbeats 8000000 in
theorem walk_FnExactDecodeAlone (a0 : Option Addr) (len0 cap0 : Nat) (z0 : List Nat) (odd : Bool) (w : World) (w0 : FRow w (.slice a0 len0 cap0) z0 ∧ (∀ z ∈ z0, z < 2 ^ 32) ∧ z0.length = len0) :
    Calls Try.prog 8 #[.slice a0 len0 cap0, .bool odd] w fun e w' => e = .returned (.bool true) ∧ Below w.heap.size w w' := by
  obtain ⟨hrow0, hfit0, rfl⟩ := w0
  by_cases hbig0 : 1048576 < z0.length
  · clear hrow0 hfit0
    go_enter Try.func8, Try.ntmps8
    go_wp2
    go_ret
    exact ⟨rfl, Below.refl _ _⟩
  · skip
    have HRW0 := Lib.hid hrow0
    have HTO0 := fun v W hr => Lib.hid (toFloats_any v z0 W hr (by omega))
    have HSP := fun V0 W H0 => Lib.hid (specAlone_any V0 z0 odd W H0 (by omega))
    have HIM := fun V0 W H0 => Lib.hid (alone_any V0 z0 odd W H0 (by omega))
    clear hrow0 hfit0
    go_enter Try.func8, Try.ntmps8
    go_wp2_with fail
    refine ((HTO0 _ _ HRW0.out).out).mono ?_
    rintro e u1 ⟨vt0, rfl, hn1, hb1⟩
    have St0 := Lib.hid (show w.heap.size ≤ _ from Nat.le_refl w.heap.size)
    have Nt0 := Lib.hid hn1
    clear hn1
    go_wp2_with fail
    refine ((HSP _ _ Nt0.out.row).out).mono ?_
    rintro e u2 ⟨vs, ls, oks, rfl, hr2, hn2, hb2⟩
    have tb2 := below_trans hb1 hb2 hb1.size
    have vt0_2 := Lib.hid (Nt0.out.below hb2)
    clear Nt0
    have Ss := Lib.hid (show w.heap.size ≤ _ from hb1.size)
    have Ns := Lib.hid hn2
    have Rs := Lib.hid hr2
    clear hn2 hr2
    clear vt0_2
    have Qx0_vs := Ns
    go_wp2_with fail
    refine ((HTO0 _ _ (HRW0.out.below tb2)).out).mono ?_
    rintro e u3 ⟨vx0, rfl, hn3, hb3⟩
    have tb3 := below_trans tb2 hb3 tb2.size
    have vs_3 := Lib.hid (Ns.out.below hb3)
    clear Ns
    have Sx0 := Lib.hid (show w.heap.size ≤ _ from tb2.size)
    have Nx0 := Lib.hid hn3
    clear hn3
    have A_vs_vx0 := Lib.hid (exactDecodeAlone_apart Qx0_vs.out.lt Nx0.out.lt (Nat.le_refl _))
    clear Qx0_vs
    have Qg_vs := vs_3
    have Qg_vx0 := Nx0
    go_wp2_with fail
    refine ((HIM _ _ Nx0.out.row).out).mono ?_
    rintro e u4 ⟨vg, lg, okg, rfl, hr4, hn4, hb4⟩
    have tb4 := below_trans tb3 hb4 tb3.size
    have vs_4 := Lib.hid (vs_3.out.below hb4)
    clear vs_3
    have vx0_4 := Lib.hid (Nx0.out.below hb4)
    clear Nx0
    have Sg := Lib.hid (show w.heap.size ≤ _ from tb3.size)
    have Ng := Lib.hid hn4
    have Rg := Lib.hid hr4
    clear hn4 hr4
    obtain rfl : oks = okg := (aloneRR_same Rg.out Rs.out).1.symm
    obtain rfl : ls = lg := (aloneRR_same Rg.out Rs.out).2.symm
    have A_vs_vg := Lib.hid (exactDecodeAlone_apart Qg_vs.out.lt Ng.out.lt (Nat.le_refl _))
    clear Qg_vs
    have A_vx0_vg := Lib.hid (exactDecodeAlone_apart Qg_vx0.out.lt Ng.out.lt (Nat.le_refl _))
    clear Qg_vx0
    go_wp2_with fail
    refine (eqCells_self vg vs ls _ Ng.out.row vs_4.out.row (by have := (aloneRR_ok Rs.out).1; omega) (aloneRR_ok Rs.out).2).mono ?_
    rintro e u5 ⟨rfl, hd5⟩
    have hb5 := hd5
    have tb5 := below_trans tb4 hb5 tb4.size
    have vs_5 := Lib.hid (vs_4.out.below hb5)
    clear vs_4
    have vx0_5 := Lib.hid (vx0_4.out.below hb5)
    clear vx0_4
    have vg_5 := Lib.hid (Ng.out.below hb5)
    clear Ng
    clear hd5
    go_wp2_with fail
    refine ((HTO0 _ _ (HRW0.out.below tb5)).out).mono ?_
    rintro e u6 ⟨vy0, rfl, hn6, hb6⟩
    have tb6 := below_trans tb5 hb6 tb5.size
    have vs_6 := Lib.hid (vs_5.out.below hb6)
    clear vs_5
    have vx0_6 := Lib.hid (vx0_5.out.below hb6)
    clear vx0_5
    have vg_6 := Lib.hid (vg_5.out.below hb6)
    clear vg_5
    have Sy0 := Lib.hid (show w.heap.size ≤ _ from tb5.size)
    have Ny0 := Lib.hid hn6
    clear hn6
    go_wp2_with fail
    refine (eqFloats_sm vx0 vy0 z0 z0 _ vx0_6.out.row Ny0.out.row (SmL.refl _) (by omega)).mono ?_
    rintro e u7 ⟨rfl, hd7⟩
    have hb7 := exactDecodeAlone_dn hd7
    have tb7 := below_trans tb6 hb7 tb6.size
    have vs_7 := Lib.hid (vs_6.out.below hb7)
    clear vs_6
    have vx0_7 := Lib.hid (vx0_6.out.below hb7)
    clear vx0_6
    have vg_7 := Lib.hid (vg_6.out.below hb7)
    clear vg_6
    have vy0_7 := Lib.hid (Ny0.out.below hb7)
    clear Ny0
    clear hd7
    clear vy0_7
    go_wp2_with fail
    refine (markFloats_any _ vx0 z0 _ vx0_7.out (by omega)).mono ?_
    rintro e u8 ⟨rfl, hm8, hg8⟩
    have tb8 := exactDecodeAlone_mark tb7 vx0_7.out.lt Sx0.out hg8
    have vx0_8 := Lib.hid hm8
    clear vx0_7
    have vs_8 := Lib.hid (vs_7.out.far hg8 A_vs_vx0.out.1)
    clear vs_7
    have vg_8 := Lib.hid (vg_7.out.far hg8 A_vx0_vg.out.2)
    clear vg_7
    clear hm8 hg8
    clear vx0_8
    go_wp2_with fail
    refine (eqCells_self vg vs ls _ vg_8.out.row vs_8.out.row (by have := (aloneRR_ok Rs.out).1; omega) (aloneRR_ok Rs.out).2).mono ?_
    rintro e u9 ⟨rfl, hd9⟩
    have hb9 := hd9
    have tb9 := below_trans tb8 hb9 tb8.size
    have vs_9 := Lib.hid (vs_8.out.below hb9)
    clear vs_8
    have vg_9 := Lib.hid (vg_8.out.below hb9)
    clear vg_8
    clear hd9
    go_wp2_with fail
    refine (markCells_any _ vg ls _ vg_9.out (aloneRR_ok Rs.out).1).mono ?_
    rintro e u10 ⟨rfl, hm10, hg10⟩
    have tb10 := exactDecodeAlone_mark tb9 vg_9.out.lt Sg.out hg10
    have vg_10 := Lib.hid hm10
    clear vg_9
    have vs_10 := Lib.hid (vs_9.out.far hg10 A_vs_vg.out.1)
    clear vs_9
    clear hm10 hg10
    go_wp2_with fail
    refine (heldCells_any vg ls.length _ vg_10.out.row (aloneRR_ok Rs.out).1).mono ?_
    rintro e u11 ⟨rfl, hd11⟩
    have hb11 := exactDecodeAlone_dn hd11
    have tb11 := below_trans tb10 hb11 tb10.size
    have vs_11 := Lib.hid (vs_10.out.below hb11)
    clear vs_10
    have vg_11 := Lib.hid (vg_10.out.below hb11)
    clear vg_10
    clear hd11
    go_wp2_with fail
    refine ((HTO0 _ _ (HRW0.out.below tb11)).out).mono ?_
    rintro e u12 ⟨vr0, rfl, hn12, hb12⟩
    have tb12 := below_trans tb11 hb12 tb11.size
    have vs_12 := Lib.hid (vs_11.out.below hb12)
    clear vs_11
    have vg_12 := Lib.hid (vg_11.out.below hb12)
    clear vg_11
    have Sr0 := Lib.hid (show w.heap.size ≤ _ from tb11.size)
    have Nr0 := Lib.hid hn12
    clear hn12
    go_wp2_with fail
    refine ((HIM _ _ Nr0.out.row).out).mono ?_
    rintro e u13 ⟨vh, lh, okh, rfl, hr13, hn13, hb13⟩
    have tb13 := below_trans tb12 hb13 tb12.size
    have vs_13 := Lib.hid (vs_12.out.below hb13)
    clear vs_12
    have vg_13 := Lib.hid (vg_12.out.below hb13)
    clear vg_12
    have vr0_13 := Lib.hid (Nr0.out.below hb13)
    clear Nr0
    have Sh := Lib.hid (show w.heap.size ≤ _ from tb12.size)
    have Nh := Lib.hid hn13
    have Rh := Lib.hid hr13
    clear hn13 hr13
    obtain rfl : oks = okh := (aloneRR_same Rh.out Rs.out).1.symm
    obtain rfl : ls = lh := (aloneRR_same Rh.out Rs.out).2.symm
    clear vr0_13
    go_wp2_with fail
    refine (eqCells_self vh vs ls _ Nh.out.row vs_13.out.row (by have := (aloneRR_ok Rs.out).1; omega) (aloneRR_ok Rs.out).2).mono ?_
    rintro e u14 ⟨rfl, hd14⟩
    have hb14 := hd14
    have tb14 := below_trans tb13 hb14 tb13.size
    have vs_14 := Lib.hid (vs_13.out.below hb14)
    clear vs_13
    have vg_14 := Lib.hid (vg_13.out.below hb14)
    clear vg_13
    have vh_14 := Lib.hid (Nh.out.below hb14)
    clear Nh
    clear hd14
    go_wp2_with fail
    refine (heldCells_any vg ls.length _ vg_14.out.row (aloneRR_ok Rs.out).1).mono ?_
    rintro e u15 ⟨rfl, hd15⟩
    have hb15 := exactDecodeAlone_dn hd15
    have tb15 := below_trans tb14 hb15 tb14.size
    have vs_15 := Lib.hid (vs_14.out.below hb15)
    clear vs_14
    have vg_15 := Lib.hid (vg_14.out.below hb15)
    clear vg_14
    have vh_15 := Lib.hid (vh_14.out.below hb15)
    clear vh_14
    clear hd15
    go_wp2
    go_ret
    exact ⟨rfl, tb15⟩
end Go.Proofs.Ytgecclccmmcdoaa
