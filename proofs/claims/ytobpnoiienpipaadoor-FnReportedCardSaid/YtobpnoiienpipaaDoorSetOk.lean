/-
  What is proved: the walks of SetOk and NewSet, the program's and the model's.
  Conditions: the numbers are 64-bit ones; the log can be read.
-/
import Derived.Test.YtobpnoiienpipaaDoorSetV
import Derived.Test.YtobpnoiienpipaaDoorRowCnt
namespace Go.Proofs.YtobpnoiienpipaaDoor
set_option linter.unusedVariables false
open Go.RowKit
attribute [local go_sem] run_store_float run_store_complex unary_negf neg256 neg1024

def ge0 (x : Nat) : Bool := Ieee.single.order 0 x == some .lt || Ieee.single.order 0 x == some .eq
def le16 (x : Nat) : Bool := Ieee.single.order x 1098907648 == some .lt || Ieee.single.order x 1098907648 == some .eq
theorem geq_0 (x : Nat) : (FloatKind.f32.format.order x 0 == some .gt || FloatKind.f32.format.order x 0 == some .eq) = ge0 x := by
  obtain ⟨h1, h2⟩ := dorder_swap (Ieee.single.read x) (Ieee.single.read 0)
  show (Ieee.single.order x 0 == some .gt || Ieee.single.order x 0 == some .eq) = _
  unfold ge0 Ieee.Format.order
  rw [h1, h2]
theorem leq_0 (x : Nat) : (FloatKind.f32.format.order 0 x == some .lt || FloatKind.f32.format.order 0 x == some .eq) = ge0 x := rfl
theorem leq_16 (x : Nat) : (FloatKind.f32.format.order x 1098907648 == some .lt || FloatKind.f32.format.order x 1098907648 == some .eq) = le16 x := rfl
attribute [local go_sem] geq_0 leq_0 leq_16 geq_lo1 leq_lo1 leq_hi1

/-- Is the set valid? n: how many texts its log has. -/
def setB (x : SetC) (n : Nat) : Bool := decide (1 ≤ x.c) && (decide (x.c ≤ 64) && (rowCnt x.r && (fin1 x.s && (ge0 x.l && (le16 x.l && (ge0 x.t && (le16 x.t && decide (n ≤ 100))))))))
theorem isGain_any (x : Nat) (w : World) :
    Calls Tryd.prog 49 #[.float .f32 x] w fun e w' => e = .returned (.bool (ge0 x && le16 x)) ∧ w = w' := by
  cases h : ge0 x
  · go_enter Tryd.func49, Tryd.ntmps49
    go_wp2
    go_ret
    exact ⟨rfl, rfl⟩
  · go_enter Tryd.func49, Tryd.ntmps49
    go_wp2
    go_ret
    exact ⟨by simp, rfl⟩
theorem l05In1_any (x : Nat) (w : World) :
    Calls Tryd.prog 61 #[.float .f32 x, .float .f32 1149239296] w fun e w' => e = .returned (.bool (fin1 x)) ∧ w = w' := by
  unfold fin1
  cases h : lo1 x
  · go_enter Tryd.func61, Tryd.ntmps61
    go_wp2
    go_ret
    exact ⟨rfl, rfl⟩
  · go_enter Tryd.func61, Tryd.ntmps61
    go_wp2
    go_ret
    exact ⟨by simp, rfl⟩
set_option maxRecDepth 100000 in
set_option maxHeartbeats 4000000 in
theorem setOk_any (x : SetC) (v : Value) (ls : List (List UInt8)) (w : World) (hx : x.ok) (h : TRow w v ls) (hl : ls.length ≤ 3000000) :
    Calls Tryd.prog 13 #[x.val v] w fun e w' => e = .returned (.bool (setB x ls.length)) ∧ Below w.heap.size w w' := by
  have hA : ∀ o, Below w.heap.size w (w.alloc o) := fun o => (Below.refl _ _).alloc (Nat.le_refl _) o
  obtain ⟨a, c, rfl⟩ := h.lenv
  obtain ⟨xc, xr, xs, xl, xt⟩ := x
  obtain ⟨⟨i1, i2⟩, ⟨i3, i4⟩⟩ := hx
  simp only [SetC.val, setB] at *
  have H1 := fun W => Lib.hid (isRowCount_any xr i3 i4 W)
  have H2 := fun W => Lib.hid (within1_any xs W)
  have H3 := fun W => Lib.hid (isGain_any xl W)
  have H4 := fun W => Lib.hid (isGain_any xt W)
  rw [← Bool.and_assoc (ge0 xt), ← Bool.and_assoc (ge0 xl)]
  clear h i3 i4
  generalize rowCnt xr = b1 at *
  generalize fin1 xs = b2 at *
  generalize (ge0 xl && le16 xl) = b3 at *
  generalize (ge0 xt && le16 xt) = b4 at *
  by_cases q1 : 1 ≤ xc
  rotate_left
  · go_enter Tryd.func13, Tryd.ntmps13
    go_wp2_with (first | (go_at_call 47; refine (H1 _).out.mono ?_; rintro e w1 ⟨rfl, rfl⟩) | (go_at_call 48; refine (H2 _).out.mono ?_; rintro e w1 ⟨rfl, rfl⟩) | (go_at_call 49; first | (refine (H3 _).out.mono ?_; rintro e w1 ⟨rfl, rfl⟩) | (refine (H4 _).out.mono ?_; rintro e w1 ⟨rfl, rfl⟩)))
    all_goals
      go_ret
      refine ⟨?_, hA _⟩
      first | rfl | (simp_all; done) | (simp_all; omega) | (simp_all; intros; omega)
  by_cases q2 : xc ≤ 64
  rotate_left
  · go_enter Tryd.func13, Tryd.ntmps13
    go_wp2_with (first | (go_at_call 47; refine (H1 _).out.mono ?_; rintro e w1 ⟨rfl, rfl⟩) | (go_at_call 48; refine (H2 _).out.mono ?_; rintro e w1 ⟨rfl, rfl⟩) | (go_at_call 49; first | (refine (H3 _).out.mono ?_; rintro e w1 ⟨rfl, rfl⟩) | (refine (H4 _).out.mono ?_; rintro e w1 ⟨rfl, rfl⟩)))
    all_goals
      go_ret
      refine ⟨?_, hA _⟩
      first | rfl | (simp_all; done) | (simp_all; omega) | (simp_all; intros; omega)
  cases b1
  · go_enter Tryd.func13, Tryd.ntmps13
    go_wp2_with (first | (go_at_call 47; refine (H1 _).out.mono ?_; rintro e w1 ⟨rfl, rfl⟩) | (go_at_call 48; refine (H2 _).out.mono ?_; rintro e w1 ⟨rfl, rfl⟩) | (go_at_call 49; first | (refine (H3 _).out.mono ?_; rintro e w1 ⟨rfl, rfl⟩) | (refine (H4 _).out.mono ?_; rintro e w1 ⟨rfl, rfl⟩)))
    all_goals
      go_ret
      refine ⟨?_, hA _⟩
      first | rfl | (simp_all; done) | (simp_all; omega) | (simp_all; intros; omega)
  cases b2
  · go_enter Tryd.func13, Tryd.ntmps13
    go_wp2_with (first | (go_at_call 47; refine (H1 _).out.mono ?_; rintro e w1 ⟨rfl, rfl⟩) | (go_at_call 48; refine (H2 _).out.mono ?_; rintro e w1 ⟨rfl, rfl⟩) | (go_at_call 49; first | (refine (H3 _).out.mono ?_; rintro e w1 ⟨rfl, rfl⟩) | (refine (H4 _).out.mono ?_; rintro e w1 ⟨rfl, rfl⟩)))
    all_goals
      go_ret
      refine ⟨?_, hA _⟩
      first | rfl | (simp_all; done) | (simp_all; omega) | (simp_all; intros; omega)
  cases b3
  · go_enter Tryd.func13, Tryd.ntmps13
    go_wp2_with (first | (go_at_call 47; refine (H1 _).out.mono ?_; rintro e w1 ⟨rfl, rfl⟩) | (go_at_call 48; refine (H2 _).out.mono ?_; rintro e w1 ⟨rfl, rfl⟩) | (go_at_call 49; first | (refine (H3 _).out.mono ?_; rintro e w1 ⟨rfl, rfl⟩) | (refine (H4 _).out.mono ?_; rintro e w1 ⟨rfl, rfl⟩)))
    all_goals
      go_ret
      refine ⟨?_, hA _⟩
      first | rfl | (simp_all; done) | (simp_all; omega) | (simp_all; intros; omega)
  cases b4
  · go_enter Tryd.func13, Tryd.ntmps13
    go_wp2_with (first | (go_at_call 47; refine (H1 _).out.mono ?_; rintro e w1 ⟨rfl, rfl⟩) | (go_at_call 48; refine (H2 _).out.mono ?_; rintro e w1 ⟨rfl, rfl⟩) | (go_at_call 49; first | (refine (H3 _).out.mono ?_; rintro e w1 ⟨rfl, rfl⟩) | (refine (H4 _).out.mono ?_; rintro e w1 ⟨rfl, rfl⟩)))
    all_goals
      go_ret
      refine ⟨?_, hA _⟩
      first | rfl | (simp_all; done) | (simp_all; omega) | (simp_all; intros; omega)
  go_enter Tryd.func13, Tryd.ntmps13
  go_wp2_with (first | (go_at_call 47; refine (H1 _).out.mono ?_; rintro e w1 ⟨rfl, rfl⟩) | (go_at_call 48; refine (H2 _).out.mono ?_; rintro e w1 ⟨rfl, rfl⟩) | (go_at_call 49; first | (refine (H3 _).out.mono ?_; rintro e w1 ⟨rfl, rfl⟩) | (refine (H4 _).out.mono ?_; rintro e w1 ⟨rfl, rfl⟩)))
  all_goals
    go_ret
    refine ⟨?_, hA _⟩
    first | rfl | (simp_all; done) | (simp_all; omega) | (simp_all; intros; omega)
theorem setB_parts (x : SetC) (n : Nat) : setB x n = ((decide (1 ≤ x.c) && decide (x.c ≤ 64)) && ((decide (4 ≤ x.r) && decide (x.r ≤ 64)) && (decide (x.r % 4 = 0) && (fin1 x.s && (ge0 x.l && (le16 x.l && (ge0 x.t && (le16 x.t && decide (n ≤ 100))))))))) := by
  unfold setB rowCnt
  cases decide (1 ≤ x.c) <;> cases decide (x.c ≤ 64) <;> cases decide (4 ≤ x.r) <;> cases decide (x.r ≤ 64) <;> cases decide (x.r % 4 = 0) <;> rfl
set_option maxRecDepth 100000 in
set_option maxHeartbeats 4000000 in
theorem specSetOk_any (x : SetC) (v : Value) (ls : List (List UInt8)) (w : World) (hx : x.ok) (h : TRow w v ls) (hl : ls.length ≤ 3000000) :
    Calls Tryd.prog 22 #[x.val v] w fun e w' => e = .returned (.bool (setB x ls.length)) ∧ Below w.heap.size w w' := by
  have hA : ∀ o, Below w.heap.size w (w.alloc o) := fun o => (Below.refl _ _).alloc (Nat.le_refl _) o
  rw [setB_parts]
  obtain ⟨a, c, rfl⟩ := h.lenv
  obtain ⟨xc, xr, xs, xl, xt⟩ := x
  obtain ⟨h1, h2⟩ := hx
  simp only [SetC.val] at *
  have HI := fun x a b W (h : -9223372036854775808 ≤ x ∧ x ≤ 9223372036854775807) => Lib.hid (l01In_any x a b W h)
  have H2 := fun W => Lib.hid (l05In1_any xs W)
  obtain ⟨i3, i4⟩ := id h2
  have hr : (decide (4 ≤ xr) && decide (xr ≤ 64)) = true → 4 ≤ xr := by simp; intros; omega
  clear h
  obtain ⟨b0, hb0⟩ : ∃ b, (decide (1 ≤ xc) && decide (xc ≤ 64)) = b := ⟨_, rfl⟩
  obtain ⟨b1, hb1⟩ : ∃ b, (decide (4 ≤ xr) && decide (xr ≤ 64)) = b := ⟨_, rfl⟩
  rw [hb1] at hr
  rw [hb0, hb1]
  have E0 := Lib.hid hb0
  have E1 := Lib.hid hb1
  clear hb0 hb1
  generalize fin1 xs = b2 at *
  obtain ⟨B, hB⟩ : ∃ B, (b0 && (b1 && (decide (xr % 4 = 0) && (b2 && (ge0 xl && (le16 xl && (ge0 xt && (le16 xt && decide (ls.length ≤ 100))))))))) = B := ⟨_, rfl⟩
  rw [hB]
  have HB := Lib.hid hB.symm
  clear hB
  cases b0
  · go_enter Tryd.func22, Tryd.ntmps22
    go_wp2_with (first | (go_at_call 60; refine (HI _ _ _ _ (by first | exact h1 | exact h2)).out.mono ?_; rintro e w1 ⟨rfl, rfl⟩; first | rw [E0.out] | rw [E1.out]) | (go_at_call 61; refine (H2 _).out.mono ?_; rintro e w1 ⟨rfl, rfl⟩))
    all_goals
      go_ret
      refine ⟨?_, hA _⟩
      rw [HB.out]
      first | rfl | (simp_all; done) | (simp_all; omega)
  cases b1
  · go_enter Tryd.func22, Tryd.ntmps22
    go_wp2_with (first | (go_at_call 60; refine (HI _ _ _ _ (by first | exact h1 | exact h2)).out.mono ?_; rintro e w1 ⟨rfl, rfl⟩; first | rw [E0.out] | rw [E1.out]) | (go_at_call 61; refine (H2 _).out.mono ?_; rintro e w1 ⟨rfl, rfl⟩))
    all_goals
      go_ret
      refine ⟨?_, hA _⟩
      rw [HB.out]
      first | rfl | (simp_all; done) | (simp_all; omega)
  have hr4 := hr rfl
  clear hr
  by_cases q1 : xr % 4 = 0
  rotate_left
  · go_enter Tryd.func22, Tryd.ntmps22
    go_wp2_with (first | (go_at_call 60; refine (HI _ _ _ _ (by first | exact h1 | exact h2)).out.mono ?_; rintro e w1 ⟨rfl, rfl⟩; first | rw [E0.out] | rw [E1.out]) | (go_at_call 61; refine (H2 _).out.mono ?_; rintro e w1 ⟨rfl, rfl⟩))
    all_goals
      go_ret
      refine ⟨?_, hA _⟩
      rw [HB.out]
      first | rfl | (simp_all; done) | (simp_all; omega)
  cases b2
  · go_enter Tryd.func22, Tryd.ntmps22
    go_wp2_with (first | (go_at_call 60; refine (HI _ _ _ _ (by first | exact h1 | exact h2)).out.mono ?_; rintro e w1 ⟨rfl, rfl⟩; first | rw [E0.out] | rw [E1.out]) | (go_at_call 61; refine (H2 _).out.mono ?_; rintro e w1 ⟨rfl, rfl⟩))
    all_goals
      go_ret
      refine ⟨?_, hA _⟩
      rw [HB.out]
      first | rfl | (simp_all; done) | (simp_all; omega)
  cases g1 : ge0 xl
  · go_enter Tryd.func22, Tryd.ntmps22
    go_wp2_with (first | (go_at_call 60; refine (HI _ _ _ _ (by first | exact h1 | exact h2)).out.mono ?_; rintro e w1 ⟨rfl, rfl⟩; first | rw [E0.out] | rw [E1.out]) | (go_at_call 61; refine (H2 _).out.mono ?_; rintro e w1 ⟨rfl, rfl⟩))
    all_goals
      go_ret
      refine ⟨?_, hA _⟩
      rw [HB.out]
      first | rfl | (simp_all; done) | (simp_all; omega)
  cases g2 : le16 xl
  · go_enter Tryd.func22, Tryd.ntmps22
    go_wp2_with (first | (go_at_call 60; refine (HI _ _ _ _ (by first | exact h1 | exact h2)).out.mono ?_; rintro e w1 ⟨rfl, rfl⟩; first | rw [E0.out] | rw [E1.out]) | (go_at_call 61; refine (H2 _).out.mono ?_; rintro e w1 ⟨rfl, rfl⟩))
    all_goals
      go_ret
      refine ⟨?_, hA _⟩
      rw [HB.out]
      first | rfl | (simp_all; done) | (simp_all; omega)
  cases g3 : ge0 xt
  · go_enter Tryd.func22, Tryd.ntmps22
    go_wp2_with (first | (go_at_call 60; refine (HI _ _ _ _ (by first | exact h1 | exact h2)).out.mono ?_; rintro e w1 ⟨rfl, rfl⟩; first | rw [E0.out] | rw [E1.out]) | (go_at_call 61; refine (H2 _).out.mono ?_; rintro e w1 ⟨rfl, rfl⟩))
    all_goals
      go_ret
      refine ⟨?_, hA _⟩
      rw [HB.out]
      first | rfl | (simp_all; done) | (simp_all; omega)
  cases g4 : le16 xt
  · go_enter Tryd.func22, Tryd.ntmps22
    go_wp2_with (first | (go_at_call 60; refine (HI _ _ _ _ (by first | exact h1 | exact h2)).out.mono ?_; rintro e w1 ⟨rfl, rfl⟩; first | rw [E0.out] | rw [E1.out]) | (go_at_call 61; refine (H2 _).out.mono ?_; rintro e w1 ⟨rfl, rfl⟩))
    all_goals
      go_ret
      refine ⟨?_, hA _⟩
      rw [HB.out]
      first | rfl | (simp_all; done) | (simp_all; omega)
  go_enter Tryd.func22, Tryd.ntmps22
  go_wp2_with (first | (go_at_call 60; refine (HI _ _ _ _ (by first | exact h1 | exact h2)).out.mono ?_; rintro e w1 ⟨rfl, rfl⟩; first | rw [E0.out] | rw [E1.out]) | (go_at_call 61; refine (H2 _).out.mono ?_; rintro e w1 ⟨rfl, rfl⟩))
  all_goals
    go_ret
    refine ⟨?_, hA _⟩
    rw [HB.out]
    first | rfl | (simp_all; done) | (simp_all; omega)
end Go.Proofs.YtobpnoiienpipaaDoor
