/-
  What is proved: the walk of the law FnExactLevels.
  Conditions: none beyond the arguments' own.
-/
import Derived.Test.YtmelnpimoiipgaaPkEq
import Derived.Test.YtmelnpimoiipgaaExact6
import Derived.Test.YtmelnpimoiipgaaImplLevel
namespace Go.Proofs.Ytmelnpimoiipgaa
set_option linter.unusedVariables false
open Go.RowKit
attribute [local go_sem] run_store_float run_store_complex unary_negf neg256

theorem exactLevels_dn {w w' : World} (h : ∃ n, w' = w.drewN n) : Below w.heap.size w w' := by
  obtain ⟨n, rfl⟩ := h
  exact belowDN (Below.refl _ _) n
theorem exactLevels_apart {w w' : World} {b b' : Nat} {v v' : Value} {xs xs' : List Nat} (h : FNew w b v xs) (h' : FNew w' b' v' xs') (hb : w.heap.size ≤ b') : (∀ k, v.ownBlock = some k → v'.ownBlock ≠ some k) ∧ (∀ k, v'.ownBlock = some k → v.ownBlock ≠ some k) := by
  constructor
  · intro k h1 h2
    have a := (h.lt k h1).2
    have c := (h'.lt k h2).1
    omega
  · intro k h1 h2
    have a := (h.lt k h2).2
    have c := (h'.lt k h1).1
    omega
theorem exactLevels_mark {w w1 w2 : World} {b : Nat} {v : Value} {xs : List Nat} (hb : Below w.heap.size w w1) (h : FNew w1 b v xs) (hbase : w.heap.size ≤ b) (hg : w1.grownBy w2 v.ownBlock) : Below w.heap.size w w2 :=
  hb.grown hg hb.size (fun k hk => Nat.le_trans hbase (h.lt k hk).1)
set_option maxHeartbeats 8000000 in
theorem walk_FnExactLevels (a0 : Option Addr) (len0 cap0 : Nat) (z0 : List Nat) (w : World) (w0 : FRow w (.slice a0 len0 cap0) z0 ∧ (∀ z ∈ z0, z < 2 ^ 32) ∧ z0.length = len0) :
    Calls Try.prog 11 #[.slice a0 len0 cap0] w fun e w' => e = .returned (.bool true) ∧ Below w.heap.size w w' := by
  obtain ⟨hrow0, hfit0, rfl⟩ := w0
  by_cases hbig0 : 1048576 < z0.length
  · clear hrow0 hfit0
    go_enter Try.func11, Try.ntmps11
    go_wp2
    go_ret
    exact ⟨rfl, Below.refl _ _⟩
  · skip
    have HRW0 := Lib.hid hrow0
    have HTO0 := fun v W hr => Lib.hid (toFloats_any v z0 W hr (by omega))
    have HSP := fun V0 W H0 => Lib.hid (lev_got (specLevels_any V0 z0 W H0 (by omega)))
    have HIM := fun V0 W H0 => Lib.hid (lev_got (levels_any V0 z0 W H0 (by omega)))
    obtain ⟨r1, hr1, hn1⟩ := conv_num (lvA_num z0)
    obtain ⟨r2, hr2, hn2⟩ := conv_num (lvB_num z0)
    have hc1 := fun W => run_convert_float_float (P := Try.prog) W 25 72 .f32 .f64 (lvA z0) r1 (by kernel_rfl) Try.underlying72 hr1
    have hc2 := fun W => run_convert_float_float (P := Try.prog) W 25 72 .f32 .f64 (lvB z0) r2 (by kernel_rfl) Try.underlying72 hr2
    have HS1 := fun W => Lib.hid (sameFloat_self r1 W hn1)
    have HS2 := fun W => Lib.hid (sameFloat_self r2 W hn2)
    clear hr1 hr2 hn1 hn2
    generalize lvA z0 = A at HSP HIM hc1
    generalize lvB z0 = B at HSP HIM hc2
    generalize lvOk z0 = okk at HSP HIM
    clear hrow0 hfit0
    go_enter Try.func11, Try.ntmps11
    go_wp2_with fail
    refine ((HTO0 _ _ HRW0.out).out).mono ?_
    rintro e u1 ⟨vt0, rfl, hn1, hb1⟩
    have St0 := Lib.hid (show w.heap.size ≤ _ from Nat.le_refl w.heap.size)
    have Nt0 := Lib.hid hn1
    clear hn1
    go_wp2_with fail
    refine ((HSP _ _ Nt0.out.row).out).mono ?_
    rintro e u2 ⟨rfl, hb2⟩
    have tb2 := below_trans hb1 hb2 hb1.size
    have vt0_2 := Lib.hid (Nt0.out.below hb2)
    clear Nt0
    clear vt0_2
    go_wp2_with fail
    refine ((HTO0 _ _ (HRW0.out.below tb2)).out).mono ?_
    rintro e u3 ⟨vx0, rfl, hn3, hb3⟩
    have tb3 := below_trans tb2 hb3 tb2.size
    have Sx0 := Lib.hid (show w.heap.size ≤ _ from tb2.size)
    have Nx0 := Lib.hid hn3
    clear hn3
    go_wp2_with fail
    refine ((HIM _ _ Nx0.out.row).out).mono ?_
    rintro e u4 ⟨rfl, hb4⟩
    have tb4 := below_trans tb3 hb4 tb3.size
    have vx0_4 := Lib.hid (Nx0.out.below hb4)
    clear Nx0
    go_wp2_with fail
    refine (HS1 _).out.mono ?_
    rintro e u9 ⟨rfl, rfl⟩
    go_wp2_with fail
    refine (HS2 _).out.mono ?_
    rintro e u9 ⟨rfl, rfl⟩
    cases okk
    all_goals
      go_wp2_with fail
      refine ((HTO0 _ _ (HRW0.out.below tb4)).out).mono ?_
      rintro e u5 ⟨vy0, rfl, hn5, hb5⟩
      have tb5 := below_trans tb4 hb5 tb4.size
      have vx0_5 := Lib.hid (vx0_4.out.below hb5)
      clear vx0_4
      have Sy0 := Lib.hid (show w.heap.size ≤ _ from tb4.size)
      have Ny0 := Lib.hid hn5
      clear hn5
      go_wp2_with fail
      refine (eqFloats_sm vx0 vy0 z0 z0 _ vx0_5.out.row Ny0.out.row (SmL.refl _) (by omega)).mono ?_
      rintro e u6 ⟨rfl, hd6⟩
      have hb6 := exactLevels_dn hd6
      have tb6 := below_trans tb5 hb6 tb5.size
      have vx0_6 := Lib.hid (vx0_5.out.below hb6)
      clear vx0_5
      have vy0_6 := Lib.hid (Ny0.out.below hb6)
      clear Ny0
      clear hd6
      clear vy0_6
      go_wp2
      go_ret
      exact ⟨rfl, tb6⟩
end Go.Proofs.Ytmelnpimoiipgaa
