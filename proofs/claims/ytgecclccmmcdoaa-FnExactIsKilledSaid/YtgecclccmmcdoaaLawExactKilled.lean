/-
  What is proved: the walk of the law FnExactIsKilled.
  Conditions: none beyond the arguments' own.
-/
import Derived.Test.YtgecclccmmcdoaaPkEq
import Derived.Test.YtgecclccmmcdoaaSpecKill
import Derived.Test.YtgecclccmmcdoaaImplKill
namespace Go.Proofs.Ytgecclccmmcdoaa
set_option linter.unusedVariables false
open Go.RowKit
attribute [local go_sem] run_store_float run_store_complex unary_negf neg256

theorem exactIsKilled_dn {w w' : World} (h : ∃ n, w' = w.drewN n) : Below w.heap.size w w' := by
  obtain ⟨n, rfl⟩ := h
  exact belowDN (Below.refl _ _) n
theorem exactIsKilled_apart {w w' : World} {b b' : Nat} {v v' : Value} {xs xs' : List Nat} (h : FNew w b v xs) (h' : FNew w' b' v' xs') (hb : w.heap.size ≤ b') : (∀ k, v.ownBlock = some k → v'.ownBlock ≠ some k) ∧ (∀ k, v'.ownBlock = some k → v.ownBlock ≠ some k) := by
  constructor
  · intro k h1 h2
    have a := (h.lt k h1).2
    have c := (h'.lt k h2).1
    omega
  · intro k h1 h2
    have a := (h.lt k h2).2
    have c := (h'.lt k h1).1
    omega
theorem exactIsKilled_mark {w w1 w2 : World} {b : Nat} {v : Value} {xs : List Nat} (hb : Below w.heap.size w w1) (h : FNew w1 b v xs) (hbase : w.heap.size ≤ b) (hg : w1.grownBy w2 v.ownBlock) : Below w.heap.size w w2 :=
  hb.grown hg hb.size (fun k hk => Nat.le_trans hbase (h.lt k hk).1)
set_option maxHeartbeats 8000000 in
theorem walk_FnExactIsKilled (a0 : Option Addr) (len0 cap0 : Nat) (z0 : List Nat) (a1 : Option Addr) (len1 cap1 : Nat) (z1 : List Nat) (k : Nat) (w : World) (w0 : FRow w (.slice a0 len0 cap0) z0 ∧ (∀ z ∈ z0, z < 2 ^ 32) ∧ z0.length = len0) (w1 : FRow w (.slice a1 len1 cap1) z1 ∧ (∀ z ∈ z1, z < 2 ^ 32) ∧ z1.length = len1) (e2 : (Lit.float .f32 k).wf = true) :
    Calls Try.prog 10 #[.slice a0 len0 cap0, .slice a1 len1 cap1, .float .f32 k] w fun e w' => e = .returned (.bool true) ∧ Below w.heap.size w w' := by
  obtain ⟨hrow0, hfit0, rfl⟩ := w0
  obtain ⟨hrow1, hfit1, rfl⟩ := w1
  by_cases hbig0 : 1048576 < z0.length
  · clear hrow0 hfit0 hrow1 hfit1
    go_enter Try.func10, Try.ntmps10
    go_wp2
    go_ret
    exact ⟨rfl, Below.refl _ _⟩
  · skip
    by_cases hbig1 : 1048576 < z1.length
    · clear hrow0 hfit0 hrow1 hfit1
      go_enter Try.func10, Try.ntmps10
      go_wp2
      go_ret
      exact ⟨rfl, Below.refl _ _⟩
    · skip
      have HRW0 := Lib.hid hrow0
      have HRW1 := Lib.hid hrow1
      have HTO0 := fun v W hr => Lib.hid (toFloats_any v z0 W hr (by omega))
      have HTO1 := fun v W hr => Lib.hid (toFloats_any v z1 W hr (by omega))
      have HSP := fun V0 V1 W H0 H1 => Lib.hid (specKilled_any V0 V1 z0 z1 k W H0 H1 (by omega) (by omega))
      have HIM := fun V0 V1 W H0 H1 => Lib.hid (killed_any V0 V1 z0 z1 k W H0 H1 (by omega) (by omega))
      clear hrow0 hfit0 hrow1 hfit1
      go_enter Try.func10, Try.ntmps10
      go_wp2_with fail
      refine ((HTO0 _ _ HRW0.out).out).mono ?_
      rintro e u1 ⟨vt0, rfl, hn1, hb1⟩
      have St0 := Lib.hid (show w.heap.size ≤ _ from Nat.le_refl w.heap.size)
      have Nt0 := Lib.hid hn1
      clear hn1
      go_wp2_with fail
      refine ((HTO1 _ _ (HRW1.out.below hb1)).out).mono ?_
      rintro e u2 ⟨vt1, rfl, hn2, hb2⟩
      have tb2 := below_trans hb1 hb2 hb1.size
      have vt0_2 := Lib.hid (Nt0.out.below hb2)
      clear Nt0
      have St1 := Lib.hid (show w.heap.size ≤ _ from hb1.size)
      have Nt1 := Lib.hid hn2
      clear hn2
      go_wp2_with fail
      refine ((HSP _ _ _ vt0_2.out.row Nt1.out.row).out).mono ?_
      rintro e u3 ⟨ns, rfl, hrs, hb3⟩
      have tb3 := below_trans tb2 hb3 tb2.size
      have vt0_3 := Lib.hid (vt0_2.out.below hb3)
      clear vt0_2
      have vt1_3 := Lib.hid (Nt1.out.below hb3)
      clear Nt1
      clear vt0_3
      clear vt1_3
      go_wp2_with fail
      refine ((HTO0 _ _ (HRW0.out.below tb3)).out).mono ?_
      rintro e u4 ⟨vx0, rfl, hn4, hb4⟩
      have tb4 := below_trans tb3 hb4 tb3.size
      have Sx0 := Lib.hid (show w.heap.size ≤ _ from tb3.size)
      have Nx0 := Lib.hid hn4
      clear hn4
      go_wp2_with fail
      refine ((HTO1 _ _ (HRW1.out.below tb4)).out).mono ?_
      rintro e u5 ⟨vx1, rfl, hn5, hb5⟩
      have tb5 := below_trans tb4 hb5 tb4.size
      have vx0_5 := Lib.hid (Nx0.out.below hb5)
      clear Nx0
      have Sx1 := Lib.hid (show w.heap.size ≤ _ from tb4.size)
      have Nx1 := Lib.hid hn5
      clear hn5
      go_wp2_with fail
      refine ((HIM _ _ _ vx0_5.out.row Nx1.out.row).out).mono ?_
      rintro e u6 ⟨ng, rfl, hrg, hb6⟩
      have tb6 := below_trans tb5 hb6 tb5.size
      have vx0_6 := Lib.hid (vx0_5.out.below hb6)
      clear vx0_5
      have vx1_6 := Lib.hid (Nx1.out.below hb6)
      clear Nx1
      obtain rfl := hrg.same hrs
      clear hrs hrg
      go_wp2_with fail
      refine ((HTO0 _ _ (HRW0.out.below tb6)).out).mono ?_
      rintro e u7 ⟨vy0, rfl, hn7, hb7⟩
      have tb7 := below_trans tb6 hb7 tb6.size
      have vx0_7 := Lib.hid (vx0_6.out.below hb7)
      clear vx0_6
      have vx1_7 := Lib.hid (vx1_6.out.below hb7)
      clear vx1_6
      have Sy0 := Lib.hid (show w.heap.size ≤ _ from tb6.size)
      have Ny0 := Lib.hid hn7
      clear hn7
      go_wp2_with fail
      refine (eqFloats_sm vx0 vy0 z0 z0 _ vx0_7.out.row Ny0.out.row (SmL.refl _) (by omega)).mono ?_
      rintro e u8 ⟨rfl, hd8⟩
      have hb8 := exactIsKilled_dn hd8
      have tb8 := below_trans tb7 hb8 tb7.size
      have vx0_8 := Lib.hid (vx0_7.out.below hb8)
      clear vx0_7
      have vx1_8 := Lib.hid (vx1_7.out.below hb8)
      clear vx1_7
      have vy0_8 := Lib.hid (Ny0.out.below hb8)
      clear Ny0
      clear hd8
      clear vy0_8
      go_wp2_with fail
      refine ((HTO1 _ _ (HRW1.out.below tb8)).out).mono ?_
      rintro e u9 ⟨vy1, rfl, hn9, hb9⟩
      have tb9 := below_trans tb8 hb9 tb8.size
      have vx0_9 := Lib.hid (vx0_8.out.below hb9)
      clear vx0_8
      have vx1_9 := Lib.hid (vx1_8.out.below hb9)
      clear vx1_8
      have Sy1 := Lib.hid (show w.heap.size ≤ _ from tb8.size)
      have Ny1 := Lib.hid hn9
      clear hn9
      go_wp2_with fail
      refine (eqFloats_sm vx1 vy1 z1 z1 _ vx1_9.out.row Ny1.out.row (SmL.refl _) (by omega)).mono ?_
      rintro e u10 ⟨rfl, hd10⟩
      have hb10 := exactIsKilled_dn hd10
      have tb10 := below_trans tb9 hb10 tb9.size
      have vx0_10 := Lib.hid (vx0_9.out.below hb10)
      clear vx0_9
      have vx1_10 := Lib.hid (vx1_9.out.below hb10)
      clear vx1_9
      have vy1_10 := Lib.hid (Ny1.out.below hb10)
      clear Ny1
      clear hd10
      clear vy1_10
      go_wp2
      go_ret
      exact ⟨rfl, tb10⟩
end Go.Proofs.Ytgecclccmmcdoaa
