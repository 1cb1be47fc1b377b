/-
  What is proved: the walk of the law FnExactDelay.
  Conditions: none beyond the arguments' own.
-/
import Derived.Test.YtnkmcjiohmnfhaaFEq
import Derived.Test.YtnkmcjiohmnfhaaDelay
namespace Go.Proofs.Ytnkmcjiohmnfhaa
set_option linter.unusedVariables false
open Go.RowKit
attribute [local go_sem] run_store_float run_store_complex unary_negf neg256

theorem delayR_same {xs : List Nat} {n : Int} {ys zs : List Nat} (h : DelayR xs n ys) (h' : DelayR xs n zs) : SmL ys zs := by
  unfold DelayR at h h'
  rw [h, h']
  exact SmL.refl _
theorem delayR_len {xs : List Nat} {n : Int} {ys : List Nat} (h : DelayR xs n ys) : ys.length ≤ xs.length := by
  unfold DelayR at h
  rw [h]
  split
  · rw [delayed_len]; exact Nat.le_refl _
  · simp
theorem below_dn {w w' : World} (h : ∃ n, w' = w.drewN n) : Below w.heap.size w w' := by
  obtain ⟨n, rfl⟩ := h
  exact belowDN (Below.refl _ _) n
theorem apart {w w' W : World} {b b' : Nat} {v v' : Value} {xs xs' : List Nat} (h : FNew w b v xs) (h' : FNew w' b' v' xs') (hb : w.heap.size ≤ b') (hW : True) : (∀ k, v.ownBlock = some k → v'.ownBlock ≠ some k) ∧ (∀ k, v'.ownBlock = some k → v.ownBlock ≠ some k) := by
  constructor
  · intro k h1 h2
    have a := (h.lt k h1).2
    have c := (h'.lt k h2).1
    omega
  · intro k h1 h2
    have a := (h.lt k h2).2
    have c := (h'.lt k h1).1
    omega
theorem below_mark {w w1 w2 : World} {b : Nat} {v : Value} {xs : List Nat} (hb : Below w.heap.size w w1) (h : FNew w1 b v xs) (hbase : w.heap.size ≤ b) (hg : w1.grownBy w2 v.ownBlock) : Below w.heap.size w w2 :=
  hb.grown hg hb.size (fun k hk => Nat.le_trans hbase (h.lt k hk).1)
set_option maxHeartbeats 8000000 in
theorem walk_FnExactDelay (a0 : Option Addr) (len0 cap0 : Nat) (z0 : List Nat) (n : Int) (w : World) (w0 : FRow w (.slice a0 len0 cap0) z0 ∧ (∀ z ∈ z0, z < 2 ^ 32) ∧ z0.length = len0) (w1 : (Lit.int .i64 n).wf = true) :
    Calls Try.prog 13 #[.slice a0 len0 cap0, .int .i64 n] w fun e w' => e = .returned (.bool true) ∧ Below w.heap.size w w' := by
  obtain ⟨hrow, _, rfl⟩ := w0
  by_cases hbig : 1048576 < z0.length
  · clear hrow
    go_enter Try.func13, Try.ntmps13
    go_wp2
    go_ret
    exact ⟨rfl, Below.refl _ _⟩
  · have hn : I64 n := by unfold I64; simpa [Lit.wf, IntKind.min, IntKind.max, IntKind.signed, IntKind.bits] using w1
    have HRW := Lib.hid hrow
    have HTO := fun v W hr => Lib.hid (toFloats_any v z0 W hr (by omega))
    have HSP := fun v W hr => Lib.hid (specDelay_any v z0 n W hr hn (by omega))
    have HIM := fun v W hr => Lib.hid (delay_any v z0 n W hr hn (by omega))
    clear hrow w1 hn
    go_enter Try.func13, Try.ntmps13
    go_wp2_with fail
    refine (HTO _ _ HRW.out).out.mono ?_
    rintro e u1 ⟨v1, rfl, hv1, hb1⟩
    go_wp2_with fail
    refine (HSP _ _ hv1.row).out.mono ?_
    rintro e u2 ⟨v2, ys, rfl, hys, hn2, hb2⟩
    have hb12 := below_trans hb1 hb2 hb1.size
    have HY := Lib.hid hys
    have HN2 := Lib.hid hn2
    clear hys hn2 hv1
    go_wp2_with fail
    refine (HTO _ _ (HRW.out.below hb12)).out.mono ?_
    rintro e u3 ⟨v3, rfl, hv3, hb3⟩
    have hb13 := below_trans hb12 hb3 hb12.size
    have HN3 := Lib.hid hv3
    have A23 := Lib.hid (apart (W := w) HN2.out hv3 (Nat.le_refl _) trivial)
    have HB3 := Lib.hid hb3
    clear hv3 hb3
    go_wp2_with fail
    refine (HIM _ _ HN3.out.row).out.mono ?_
    rintro e u4 ⟨v4, zs, rfl, hzs, hn4, hb4⟩
    have hb14 := below_trans hb13 hb4 hb13.size
    have HZ := Lib.hid hzs
    have A34 := Lib.hid (apart (W := w) HN3.out hn4 (Nat.le_refl _) trivial)
    have A24 := Lib.hid (apart (W := w) (HN2.out.below HB3.out) hn4 (Nat.le_refl _) trivial)
    have P2 := Lib.hid ((HN2.out.below HB3.out).below hb4)
    have P3 := Lib.hid (HN3.out.below hb4)
    have P4 := Lib.hid hn4
    have S2 := Lib.hid (show w.heap.size ≤ u1.heap.size from hb1.size)
    have S3 := Lib.hid (show w.heap.size ≤ u2.heap.size from hb12.size)
    have S4 := Lib.hid (show w.heap.size ≤ u3.heap.size from hb13.size)
    clear hzs hn4 HN2 HN3 HB3 hb4 hb13 hb12 hb1 hb2
    go_wp2_with fail
    refine (eqFloats_sm v4 v2 zs ys u4 P4.out.row P2.out.row (delayR_same HZ.out HY.out) (by have := delayR_len HZ.out; omega)).mono ?_
    rintro e u5 ⟨rfl, hd⟩
    have hd5 := below_dn hd
    have hb15 := below_trans hb14 hd5 hb14.size
    have Q2 := Lib.hid (P2.out.below hd5)
    have Q3 := Lib.hid (P3.out.below hd5)
    have Q4 := Lib.hid (P4.out.below hd5)
    clear hd hd5 P2 P3 P4 hb14
    go_wp2_with fail
    refine (HTO _ _ (HRW.out.below hb15)).out.mono ?_
    rintro e u6 ⟨v5, rfl, hv5, hb6⟩
    have hb16 := below_trans hb15 hb6 hb15.size
    have P2 := Lib.hid (Q2.out.below hb6)
    have P3 := Lib.hid (Q3.out.below hb6)
    have P4 := Lib.hid (Q4.out.below hb6)
    have P5 := Lib.hid hv5
    clear hv5 Q2 Q3 Q4 hb15 hb6
    go_wp2_with fail
    refine (eqFloats_sm v3 v5 z0 z0 u6 P3.out.row P5.out.row (SmL.refl _) (by omega)).mono ?_
    rintro e u7 ⟨rfl, hd⟩
    have hd7 := below_dn hd
    have hb17 := below_trans hb16 hd7 hb16.size
    have Q2 := Lib.hid (P2.out.below hd7)
    have Q3 := Lib.hid (P3.out.below hd7)
    have Q4 := Lib.hid (P4.out.below hd7)
    clear hd hd7 P2 P3 P4 P5 hb16
    go_wp2_with fail
    refine (markFloats_any _ v3 z0 u7 Q3.out (by omega)).mono ?_
    rintro e u8 ⟨rfl, hm8, hg8⟩
    have hb18 := below_mark hb17 Q3.out S3.out hg8
    have P2 := Lib.hid (Q2.out.far hg8 A23.out.1)
    have P4 := Lib.hid (Q4.out.far hg8 A34.out.2)
    clear hm8 hg8 hb17 Q2 Q3 Q4
    go_wp2_with fail
    refine (eqFloats_sm v4 v2 zs ys u8 P4.out.row P2.out.row (delayR_same HZ.out HY.out) (by have := delayR_len HZ.out; omega)).mono ?_
    rintro e u9 ⟨rfl, hd⟩
    have hd9 := below_dn hd
    have hb19 := below_trans hb18 hd9 hb18.size
    have Q2 := Lib.hid (P2.out.below hd9)
    have Q4 := Lib.hid (P4.out.below hd9)
    clear hd hd9 P2 P4 hb18
    go_wp2_with fail
    refine (markFloats_any _ v4 zs u9 Q4.out (by have := delayR_len HZ.out; omega)).mono ?_
    rintro e u10 ⟨rfl, hm10, hg10⟩
    have hb110 := below_mark hb19 Q4.out S4.out hg10
    have P2 := Lib.hid (Q2.out.far hg10 A24.out.1)
    have P4 := Lib.hid hm10
    clear hm10 hg10 hb19 Q2 Q4
    go_wp2_with fail
    refine (heldFloats_any v4 zs.length u10 P4.out.row (by have := delayR_len HZ.out; omega)).mono ?_
    rintro e u11 ⟨rfl, hd⟩
    have hd11 := below_dn hd
    have hb111 := below_trans hb110 hd11 hb110.size
    have Q2 := Lib.hid (P2.out.below hd11)
    have Q4 := Lib.hid (P4.out.below hd11)
    clear hd hd11 P2 P4 hb110
    go_wp2_with fail
    refine (HTO _ _ (HRW.out.below hb111)).out.mono ?_
    rintro e u12 ⟨v6, rfl, hv6, hb12⟩
    have hb112 := below_trans hb111 hb12 hb111.size
    have P2 := Lib.hid (Q2.out.below hb12)
    have P4 := Lib.hid (Q4.out.below hb12)
    clear Q2 Q4 hb111 hb12
    go_wp2_with fail
    refine (HIM _ _ hv6.row).out.mono ?_
    rintro e u13 ⟨v7, zs2, rfl, hzs2, hn7, hb13⟩
    have hb113 := below_trans hb112 hb13 hb112.size
    have HZ2 := Lib.hid hzs2
    have Q2 := Lib.hid (P2.out.below hb13)
    have Q4 := Lib.hid (P4.out.below hb13)
    have Q7 := Lib.hid hn7
    clear P2 P4 hb112 hb13 hzs2 hn7 hv6
    go_wp2_with fail
    refine (eqFloats_sm v7 v2 zs2 ys u13 Q7.out.row Q2.out.row (delayR_same HZ2.out HY.out) (by have := delayR_len HZ2.out; omega)).mono ?_
    rintro e u14 ⟨rfl, hd⟩
    have hd14 := below_dn hd
    have hb114 := below_trans hb113 hd14 hb113.size
    have P4 := Lib.hid (Q4.out.below hd14)
    clear hd hd14 Q2 Q4 Q7 hb113
    go_wp2_with fail
    refine (heldFloats_any v4 zs.length u14 P4.out.row (by have := delayR_len HZ.out; omega)).mono ?_
    rintro e u15 ⟨rfl, hd⟩
    have hd15 := below_dn hd
    have hb115 := below_trans hb114 hd15 hb114.size
    clear hd hd15 P4 hb114
    go_wp2
    go_ret
    exact ⟨rfl, hb115⟩
end Go.Proofs.Ytnkmcjiohmnfhaa
