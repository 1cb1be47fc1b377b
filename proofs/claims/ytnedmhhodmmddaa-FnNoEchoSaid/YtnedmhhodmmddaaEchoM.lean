/-
  What is proved: echoes of nothing and of all, number by number.
  Conditions: the samples are valid.
-/
import Derived.Test.YtnedmhhodmmddaaTimes
namespace Go.Proofs.Ytnedmhhodmmddaa
set_option linter.unusedVariables false
open Go.RowKit
open Flt (Mag sumv subv mulv quov Q)

theorem fin1_num {x : Nat} (h : fin1 x = true) : ∃ s u, Flt.Num Ieee.single x s u ∧ Flt.Rep Ieee.single u ∧ u < 2 ^ Flt.cap Ieee.single := by
  unfold fin1 lo1 hi1 at h
  simp only [Bool.and_eq_true] at h
  obtain ⟨s, u, h1, h2⟩ := lim_of (s := false) (u := 0) num_k2 num_nk2 h.1 h.2
  obtain ⟨C, hC, hC2⟩ : ∃ C, Flt.cap Ieee.single = C ∧ C = 277 := ⟨_, rfl, Flt.cap32⟩
  refine ⟨s, u, h1, Flt.rep_num h1, ?_⟩
  rw [hC]
  exact Nat.lt_of_le_of_lt h2 (Nat.pow_lt_pow_right (by decide) (by omega))
theorem fin1_ok {x : Nat} (h : fin1 x = true) : isN x = false := by
  obtain ⟨s, u, h1, _⟩ := fin1_num h
  exact Flt.num_read h1
/-- 0 times a sample is a zero. -/
theorem zero_mul1 {x : Nat} (h : fin1 x = true) : ∃ s, floatBits .mul .f32 x 0 = some (mulv x 0) ∧ Flt.Num Ieee.single (mulv x 0) s 0 := by
  obtain ⟨s, u, h1, h2, h3⟩ := fin1_num h
  obtain ⟨r, hr, hn⟩ := Flt.mul_num Flt.fine32 h1 num_zero0 0 (by rw [Nat.mul_zero, Nat.zero_mul]) (Flt.rep_zero _) (Nat.lt_of_le_of_lt (Nat.zero_le _) h3)
  have hr' : floatBits .mul .f32 x 0 = some r := hr
  unfold mulv
  rw [hr']
  exact ⟨_, rfl, hn⟩
theorem mul_one1 {x : Nat} (h32 : x < 2 ^ 32) (h : fin1 x = true) : floatBits .mul .f32 x 1065353216 = some x := by
  obtain ⟨s, u, h1, h2, h3⟩ := fin1_num h
  obtain ⟨r, hr, hn⟩ := Flt.mul_num Flt.fine32 h1 Flt.num_one u (by rw [Flt.unit32]) h2 h3
  have hr' : floatBits .mul .f32 x 1065353216 = some r := hr
  rw [Bool.xor_false] at hn
  rw [hr', Flt.num_inj (Flt.wf32 hr') h32 hn h1]
/-- An echo of nothing. -/
theorem echo_zero {x d m r : Nat} (hx : fin1 x = true) (hd : fin1 d = true) (hm : Res .mul 0 d m) (hr : Res .add x m r) : Ieee.single.order r x = some .eq := by
  obtain ⟨s, z1, z2⟩ := zero_mul1 hd
  obtain rfl := res_some hm.mul_comm z1
  obtain ⟨t, u, h1, h2, h3⟩ := fin1_num hx
  obtain ⟨k1, k2⟩ := zero_add h1 z2 h2 h3
  obtain rfl := res_some hr k1
  exact k2
theorem echo_one {d m : Nat} (h32 : d < 2 ^ 32) (hd : fin1 d = true) (hm : Res .mul 1065353216 d m) : m = d := res_some hm.mul_comm (mul_one1 h32 hd)
/-- What equals a sample is as small. -/
theorem fin1_eq {x y : Nat} (hx : fin1 x = true) (h : Ieee.single.order y x = some .eq) : fin1 y = true := by
  obtain ⟨s, u, h1, _⟩ := fin1_num hx
  cases hy : Ieee.single.read y with
  | nan t p =>
    have : Ieee.single.order y x = none := Flt.order_nan (.inl (by rw [hy]; rfl))
    rw [this] at h; cases h
  | infinity t =>
    obtain ⟨m, i, hm, _⟩ := h1
    unfold Ieee.Format.order at h
    rw [hy, hm] at h
    cases t <;> simp [Ieee.Datum.order] at h
  | number t m i =>
    have h2 := Flt.read_num hy
    rw [Flt.order_num h2 h1] at h
    have h3 := Int.compare_eq_eq.1 (Option.some.inj h)
    unfold fin1 lo1 hi1 at hx ⊢
    rw [Flt.le_iff num_nk2 h1, Flt.le_iff h1 num_k2] at hx
    rw [Flt.le_iff num_nk2 h2, Flt.le_iff h2 num_k2, h3]
    exact hx
end Go.Proofs.Ytnedmhhodmmddaa
