/-
  What is proved: products of complex singles: their order, the factors 1 and i; powers.
  Conditions: those that each fact names.
-/
import Derived.Test.YtnedmhhodmmddaaOpp
import Derived.Test.YtnedmhhodmmddaaChainQ
namespace Go.Proofs.Ytnedmhhodmmddaa
set_option linter.unusedVariables false
open Go.RowKit
open Flt (Mag sumv subv mulv quov Q)

theorem mul_comm32 (x y : Nat) : floatBits .mul .f32 x y = floatBits .mul .f32 y x := by
  show Ieee.single.mul x y = Ieee.single.mul y x
  unfold Ieee.Format.mul
  rw [product_comm]
theorem mulv_comm (x y : Nat) : mulv x y = mulv y x := by unfold mulv; rw [mul_comm32]
theorem sumv_comm (x y : Nat) : sumv x y = sumv y x := by unfold sumv; rw [Flt.add_comm32]
/-- What the product of a + bi and x + yi may be. -/
def TimesR (a b x y re im : Nat) : Prop := ∃ m1 m2 m3 m4, Res .mul a x m1 ∧ Res .mul b y m2 ∧ Res .sub m1 m2 re ∧ Res .mul a y m3 ∧ Res .mul b x m4 ∧ Res .add m3 m4 im
theorem TimesR.comm {a b x y re im re' im' : Nat} (h : TimesR a b x y re im) (h' : TimesR x y a b re' im') : Sm re re' ∧ Sm im im' := by
  obtain ⟨m1, m2, m3, m4, h1, h2, h3, h4, h5, h6⟩ := h
  obtain ⟨n1, n2, n3, n4, g1, g2, g3, g4, g5, g6⟩ := h'
  have k1 := Res.same (Sm.refl _) (Sm.refl _) h1 g1.mul_comm
  have k2 := Res.same (Sm.refl _) (Sm.refl _) h2 g2.mul_comm
  have k3 := Res.same (Sm.refl _) (Sm.refl _) h4 g5.mul_comm
  have k4 := Res.same (Sm.refl _) (Sm.refl _) h5 g4.mul_comm
  exact ⟨Res.same k1 k2 h3 g3, Res.same k3 k4 h6 g6.add_comm⟩
theorem TimesR.is {a b x y re im : Nat} {k l : Nat} (ha : Mag k a) (hb : Mag k b) (hx : Mag l x) (hy : Mag l y) (hkl : k + l ≤ 400) (hl : 149 ≤ k + l) (h : TimesR a b x y re im) : re = timesRe a b x y ∧ im = timesIm a b x y := by
  obtain ⟨m1, m2, m3, m4, h1, h2, h3, h4, h5, h6⟩ := h
  have e1 := ha.mul hx (by omega) hl
  have e2 := hb.mul hy (by omega) hl
  have e3 := ha.mul hy (by omega) hl
  have e4 := hb.mul hx (by omega) hl
  have e5 := e1.2.sub e2.2 (by omega)
  have e6 := e3.2.add e4.2 (by omega)
  obtain rfl := res_some h1 e1.1
  obtain rfl := res_some h2 e2.1
  obtain rfl := res_some h4 e3.1
  obtain rfl := res_some h5 e4.1
  exact ⟨res_some h3 e5.1, res_some h6 e6.1⟩
/-! ### Zeros -/
theorem num_fin {x : Nat} (h : Flt.fin x = true) : ∃ s u, Flt.Num Ieee.single x s u ∧ Flt.Rep Ieee.single u ∧ u < 2 ^ Flt.cap Ieee.single := by
  obtain ⟨s, u, h1, h2⟩ := Flt.fin_of h
  have := Flt.lim_cap h2
  exact ⟨s, u, h1, Flt.rep_num h1, by omega⟩
theorem num_zero0 : Flt.Num Ieee.single 0 false 0 := by
  have h := Flt.read_num Flt.read_zero
  rwa [Nat.zero_mul] at h
/-- x times 0 is a zero. -/
theorem mul_zero32 {x : Nat} (h : Flt.fin x = true) : ∃ s, floatBits .mul .f32 x 0 = some (mulv x 0) ∧ Flt.Num Ieee.single (mulv x 0) s 0 := by
  obtain ⟨s, u, h1, h2, h3⟩ := num_fin h
  obtain ⟨r, hr, hn⟩ := Flt.mul_num Flt.fine32 h1 num_zero0 0 (by rw [Nat.mul_zero, Nat.zero_mul]) (Flt.rep_zero _) (Nat.lt_of_le_of_lt (Nat.zero_le _) h3)
  have hr' : floatBits .mul .f32 x 0 = some r := hr
  unfold mulv
  rw [hr']
  exact ⟨_, rfl, hn⟩
/-- A number and a zero, added or subtracted. -/
theorem zero_sub {x z : Nat} {s t : Bool} {u : Nat} (hx : Flt.Num Ieee.single x s u) (hz : Flt.Num Ieee.single z t 0) (hr : Flt.Rep Ieee.single u) (hc : u < 2 ^ Flt.cap Ieee.single) : floatBits .sub .f32 x z = some (subv x z) ∧ Ieee.single.order (subv x z) x = some .eq := by
  have e : Flt.sg s u - Flt.sg t 0 = Flt.sg s u := by have : Flt.sg t 0 = 0 := by cases t <;> rfl
                                                      omega
  obtain ⟨r, h1, h2⟩ := Flt.sub_num Flt.fine32 hx hz (by rw [e, Flt.natAbs_sg]; exact hr) (by rw [e, Flt.natAbs_sg]; exact hc)
  have h1' : floatBits .sub .f32 x z = some r := h1
  unfold subv
  rw [h1']
  refine ⟨rfl, ?_⟩
  rw [e] at h2
  show Ieee.single.order r x = _
  rw [Flt.order_num h2 hx, Flt.sg_self, Flt.cmp_eq rfl]
theorem sub_zero {x z : Nat} {s t : Bool} {u : Nat} (hx : Flt.Num Ieee.single x s u) (hz : Flt.Num Ieee.single z t 0) (hr : Flt.Rep Ieee.single u) (hc : u < 2 ^ Flt.cap Ieee.single) (h32 : x < 2 ^ 32) : floatBits .sub .f32 z x = some (subv z x) ∧ Ieee.single.order (subv z x) (Op.negFloat .f32 x) = some .eq := by
  have e : Flt.sg t 0 - Flt.sg s u = - Flt.sg s u := by have : Flt.sg t 0 = 0 := by cases t <;> rfl
                                                        omega
  obtain ⟨r, h1, h2⟩ := Flt.sub_num Flt.fine32 hz hx (by rw [e, Int.natAbs_neg, Flt.natAbs_sg]; exact hr) (by rw [e, Int.natAbs_neg, Flt.natAbs_sg]; exact hc)
  have h1' : floatBits .sub .f32 z x = some r := h1
  unfold subv
  rw [h1']
  refine ⟨rfl, ?_⟩
  rw [e] at h2
  show Ieee.single.order r _ = _
  rw [Flt.order_num h2 (Flt.num_neg32 h32 hx), Flt.sg_self, Flt.sg_not, Flt.cmp_eq rfl]
theorem zero_add {x z : Nat} {s t : Bool} {u : Nat} (hx : Flt.Num Ieee.single x s u) (hz : Flt.Num Ieee.single z t 0) (hr : Flt.Rep Ieee.single u) (hc : u < 2 ^ Flt.cap Ieee.single) : floatBits .add .f32 x z = some (sumv x z) ∧ Ieee.single.order (sumv x z) x = some .eq := by
  have e : Flt.sg s u + Flt.sg t 0 = Flt.sg s u := by have : Flt.sg t 0 = 0 := by cases t <;> rfl
                                                      omega
  obtain ⟨r, h1, h2⟩ := Flt.add_num Flt.fine32 hx hz (by rw [e, Flt.natAbs_sg]; exact hr) (by rw [e, Flt.natAbs_sg]; exact hc)
  have h1' : floatBits .add .f32 x z = some r := h1
  unfold sumv
  rw [h1']
  refine ⟨rfl, ?_⟩
  rw [e] at h2
  show Ieee.single.order r x = _
  rw [Flt.order_num h2 hx, Flt.sg_self, Flt.cmp_eq rfl]
theorem mul_one_v {x : Nat} (h32 : x < 2 ^ 32) (h : Flt.fin x = true) : floatBits .mul .f32 x 1065353216 = some x ∧ mulv x 1065353216 = x := by
  have := Flt.mul_one32 h32 h
  exact ⟨this, by unfold mulv; rw [this]; rfl⟩
/-- Times 1: equal. -/
theorem times_one {a b re im : Nat} (ha : a < 2 ^ 32) (hb : b < 2 ^ 32) (fa : Flt.fin a = true) (fb : Flt.fin b = true) (h : TimesR a b 1065353216 0 re im) : Ieee.single.order re a = some .eq ∧ Ieee.single.order im b = some .eq := by
  obtain ⟨m1, m2, m3, m4, h1, h2, h3, h4, h5, h6⟩ := h
  obtain ⟨s, z1, z2⟩ := mul_zero32 fb
  obtain ⟨t, y1, y2⟩ := mul_zero32 fa
  obtain ⟨sa, ua, na, ra, ca⟩ := num_fin fa
  obtain ⟨sb, ub, nb, rb, cb⟩ := num_fin fb
  obtain rfl := res_some h1 (mul_one_v ha fa).1
  obtain rfl := res_some h2 z1
  obtain rfl := res_some h4 y1
  obtain rfl := res_some h5 (mul_one_v hb fb).1
  obtain ⟨k1, k2⟩ := zero_sub na z2 ra ca
  obtain ⟨l1, l2⟩ := zero_add nb y2 rb cb
  obtain rfl := res_some h3 k1
  obtain rfl := res_some h6.add_comm l1
  exact ⟨k2, l2⟩
/-- Times i: a quarter turn. -/
theorem times_i {a b re im : Nat} (ha : a < 2 ^ 32) (hb : b < 2 ^ 32) (fa : Flt.fin a = true) (fb : Flt.fin b = true) (h : TimesR a b 0 1065353216 re im) : Ieee.single.order re (Op.negFloat .f32 b) = some .eq ∧ Ieee.single.order im a = some .eq := by
  obtain ⟨m1, m2, m3, m4, h1, h2, h3, h4, h5, h6⟩ := h
  obtain ⟨s, z1, z2⟩ := mul_zero32 fb
  obtain ⟨t, y1, y2⟩ := mul_zero32 fa
  obtain ⟨sa, ua, na, ra, ca⟩ := num_fin fa
  obtain ⟨sb, ub, nb, rb, cb⟩ := num_fin fb
  obtain rfl := res_some h1 y1
  obtain rfl := res_some h2 (mul_one_v hb fb).1
  obtain rfl := res_some h4 (mul_one_v ha fa).1
  obtain rfl := res_some h5 z1
  obtain ⟨k1, k2⟩ := sub_zero nb y2 rb cb hb
  obtain ⟨l1, l2⟩ := zero_add na z2 ra ca
  obtain rfl := res_some h3 k1
  obtain rfl := res_some h6 l1
  exact ⟨k2, l2⟩
end Go.Proofs.Ytnedmhhodmmddaa
