/-
  What is proved: the walk of the law FnHueTurnSides.
  Conditions: none beyond the arguments' own.
-/
import Derived.Test.YtgecclccmmcdoaaLawMean
import Derived.Test.YtgecclccmmcdoaaHueT
import Derived.Test.YtgecclccmmcdoaaPkCell
namespace Go.Proofs.Ytgecclccmmcdoaa
set_option linter.unusedVariables false
open Go.RowKit
attribute [local go_sem] run_store_float run_store_complex unary_negf neg256

theorem Res.opp_add {x y x' y' r r' : Nat} (hx : Opp x x') (hy : Opp y y') (h : Res .add x y r) (h' : Res .add x' y' r') : Opp r r' :=
  opp_res (a := (Ieee.single.read x).sum (Ieee.single.read y)) (b := (Ieee.single.read x').sum (Ieee.single.read y')) (opp_sum hx hy) rfl rfl h h'
theorem mulv_comm (x y : Nat) : Flt.mulv x y = Flt.mulv y x := by
  unfold Flt.mulv
  have e : floatBits .mul .f32 x y = floatBits .mul .f32 y x := by
    show Ieee.single.mul x y = Ieee.single.mul y x
    unfold Ieee.Format.mul
    rw [product_comm]
  rw [e]
theorem tterm_opp {c d : C3} (h : TermM c d) (h' : TermM d c) : Opp (tterm c d) (tterm d c) := by
  have e2 := h'.s
  rw [mulv_comm d.2.1 c.2.2, mulv_comm d.2.2 c.2.1] at e2
  exact Res.opp_swap (.inl h.s) (.inl e2)
theorem getD_at {cs : List C3} {k : Nat} (h : k < cs.length) : cs.getD k (0, 0, 0) = cs[k] := by
  rw [List.getD_eq_getElem?_getD, List.getElem?_eq_getElem h]; rfl
theorem tsum_opp {a b : List C3} (ha : ∀ c ∈ a, Finc c) (hb : ∀ c ∈ b, Finc c) : ∀ k, k ≤ a.length → k ≤ b.length → k ≤ 64 → Opp (tsum a b k) (tsum b a k)
  | 0, _, _, _ => by
    show Opp 0 0
    unfold Opp
    rw [Flt.read_zero]
    exact ⟨rfl, rfl, .inl rfl⟩
  | k + 1, h1, h2, h3 => by
    have ih := tsum_opp ha hb k (by omega) (by omega) (by omega)
    have e1 := tsum_step ha hb (k := k) (by omega) (by omega) (by omega)
    have e2 := tsum_step hb ha (k := k) (by omega) (by omega) (by omega)
    exact Res.opp_add ih (tterm_opp (termM_of (ha _ (List.getElem_mem (by omega))) (hb _ (List.getElem_mem (by omega)))) (termM_of (hb _ (List.getElem_mem (by omega))) (ha _ (List.getElem_mem (by omega))))) (.inl e1) (.inl e2)
theorem sub_same {k x : Nat} (h : Flt.Mag k x) : Flt.subv x x = 0 := by
  obtain ⟨s, m, e, h1, _⟩ := h
  have e1 : floatBits .sub .f32 x x = some 0 := by
    show Ieee.single.sub x x = some 0
    unfold Ieee.Format.sub
    rw [h1]
    simp only [Ieee.Datum.opposite, Ieee.Datum.sum, Flt.signed_sg, Flt.sg_not, Option.map_some]
    rw [Int.add_right_neg, if_pos rfl]
    have : (s && !s) = false := by cases s <;> rfl
    rw [this]
    show some (Ieee.single.nearest false 0 _) = some 0
    unfold Ieee.Format.nearest
    rw [if_pos rfl]
    rfl
  unfold Flt.subv
  rw [e1]; rfl
theorem tsum_same {a : List C3} (ha : ∀ c ∈ a, Finc c) : ∀ k, k ≤ a.length → tsum a a k = 0
  | 0, _ => rfl
  | k + 1, h => by
    have ih := tsum_same ha k (by omega)
    show Flt.sumv (tsum a a k) (tterm (a.getD k (0, 0, 0)) (a.getD k (0, 0, 0))) = 0
    have hc := ha _ (List.getElem_mem (show k < a.length by omega))
    rw [ih, getD_at (show k < a.length by omega)]
    unfold tterm
    rw [mulv_comm a[k].2.2 a[k].2.1, sub_same (Flt.Mag.mul (Flt.fin_mag hc.2.1) (Flt.fin_mag hc.2.2) (by decide) (by decide)).2]
    decide +kernel
theorem order_opp {k x y : Nat} (h : Opp x y) (hx : Flt.Mag k x) (hy : y < 2 ^ 32) : Ieee.single.order x (Op.negFloat .f32 y) = some .eq := by
  obtain ⟨s, m, e, h1, _⟩ := hx
  have hr : Ieee.single.read (Op.negFloat .f32 y) = (Ieee.single.read y).opposite := by
    obtain ⟨s0, r, rfl, hr⟩ := Flt.word_parts32 y hy
    rw [Flt.neg_word32 s0 r hr, Flt.read_word Ieee.single _ r (by rw [Flt.sw32]; exact hr), Flt.read_word Ieee.single s0 r (by rw [Flt.sw32]; exact hr)]
    split
    · rfl
    · split
      · rfl
      · split
        · rfl
        · rfl
  unfold Opp at h
  rw [h1] at h
  unfold Ieee.Format.order
  rw [hr, h1]
  cases hy2 : Ieee.single.read y with
  | nan _ _ => rw [hy2] at h; exact h.elim
  | infinity _ => rw [hy2] at h; exact h.elim
  | number t n e' =>
    rw [hy2] at h
    obtain ⟨rfl, rfl, h3⟩ := h
    simp only [Ieee.Datum.opposite, Ieee.Datum.order, Flt.signed_sg]
    have : Flt.sg s (m * 2 ^ (e - min e e).toNat) = Flt.sg (!t) (m * 2 ^ (e - min e e).toNat) := by
      rcases h3 with rfl | rfl
      · simp [Flt.sg]
      · simp
    rw [this, Int.compare_eq_eq.2 rfl]
theorem sumv_lt (x y : Nat) : Flt.sumv x y < 2 ^ 32 := by
  unfold Flt.sumv
  cases h : floatBits .add .f32 x y with
  | none => decide
  | some r => simpa [Lit.wf] using floatBits_wf h
theorem tsum_lt (a b : List C3) : ∀ k, tsum a b k < 2 ^ 32
  | 0 => by show 0 < 2 ^ 32; decide
  | k + 1 => sumv_lt _ _
theorem zero_eq : FloatKind.f32.format.order 0 0 = some .eq := by decide +kernel
theorem turnV_opp (a b : List C3) : FloatKind.f32.format.order (turnV a b) (Op.negFloat .f32 (turnV b a)) = some .eq := by
  unfold turnV
  rw [meanOk_swap a b]
  cases hm : meanOk a b with
  | false => exact (show FloatKind.f32.format.order 0 (Op.negFloat .f32 0) = some .eq by decide +kernel)
  | true =>
    rw [if_pos rfl, if_pos rfl]
    unfold meanOk at hm
    rw [Bool.and_eq_true, Bool.and_eq_true, decide_eq_true_iff] at hm
    obtain ⟨hra, hrb, hlen⟩ := hm
    have h64 := (rok_iff.1 hra).1.2
    rw [← hlen]
    exact order_opp (tsum_opp (rok_iff.1 hra).2 (rok_iff.1 hrb).2 _ (Nat.le_refl _) (by omega) h64) (tsum_le (rok_iff.1 hra).2 (rok_iff.1 hrb).2 _ (Nat.le_refl _) (by omega) h64).mag (tsum_lt _ _ _)
theorem turnV_same (a : List C3) : turnV a a = 0 := by
  unfold turnV
  cases hm : meanOk a a with
  | false => rfl
  | true =>
    rw [if_pos rfl]
    rw [meanOk_self] at hm
    exact tsum_same (rok_iff.1 hm).2 _ (Nat.le_refl _)
set_option maxHeartbeats 1000000 in
theorem drawHueTurn_any (a : Option Addr) (len cap : Nat) (w : World) (hs : Src w w.heap.size a len cap) :
    Calls Try.prog 35 #[.slice a len cap] w fun e w' => Draw2 w e w' := by
  have HD := Lib.hid (drawMeanRow_any a len cap w hs)
  clear hs
  go_enter Try.func35, Try.ntmps35
  go_wp2_with fail
  refine HD.out.mono ?_
  rintro e w1 ⟨va, vb, a, b, hl, rfl, hr, hb1⟩
  have HR := Lib.hid hr
  clear hr
  go_wp2
  go_ret2
  exact ⟨va, vb, a, b, hl, rfl, HR.out, hb1⟩
set_option maxHeartbeats 4000000 in
theorem walk_FnHueTurnSides (a0 : Option Addr) (len0 cap0 : Nat) (z0 : List Int) (w : World) (w0 : IsRow .u8 w a0 len0 cap0 z0) :
    Calls Try.prog 7 #[.slice a0 len0 cap0] w fun e w' => e = .returned (.bool true) ∧ Below w.heap.size w w' := by
  by_cases hbig : 1048576 < len0
  · have hbb : decide ((1048576 : Int) < len0) = true := by simp; omega
    have HB := Lib.hid (big_any a0 len0 cap0 w)
    rw [hbb] at HB
    clear hbb
    go_enter Try.func7, Try.ntmps7
    go_wp2_with fail
    refine HB.out.mono ?_
    rintro e w1 ⟨rfl, rfl⟩
    go_wp2
    go_ret
    exact ⟨rfl, Below.refl _ _⟩
  · have hbb : decide ((1048576 : Int) < len0) = false := by simp; omega
    have HB := Lib.hid (big_any a0 len0 cap0 w)
    rw [hbb] at HB
    have HD := Lib.hid (drawHueTurn_any a0 len0 cap0 w (w0.src (by omega)))
    clear hbb w0
    go_enter Try.func7, Try.ntmps7
    go_wp2_with fail
    refine HB.out.mono ?_
    rintro e w1 ⟨rfl, rfl⟩
    go_wp2_with fail
    refine HD.out.mono ?_
    rintro e w1 ⟨va, vb, a, b, hl, rfl, hr, hb1⟩
    have HA := Lib.hid hr.1
    have HBB := Lib.hid hr.2
    have HL := Lib.hid (show a.length ≤ 1000000 ∧ b.length ≤ 1000000 by omega)
    clear hr hl HD HB
    go_wp2_with fail
    refine (hueTurn_any va vb a b w1 HA.out HBB.out HL.out.1 HL.out.2).mono ?_
    rintro e w2 ⟨rfl, hb2⟩
    have HA2 := Lib.hid (HA.out.below hb2)
    have HB2 := Lib.hid (HBB.out.below hb2)
    go_wp2_with fail
    refine (hueTurn_any vb va b a w2 HB2.out HA2.out HL.out.2 HL.out.1).mono ?_
    rintro e w3 ⟨rfl, hb3⟩
    have HA3 := Lib.hid (HA2.out.below hb3)
    go_wp2_with fail
    refine (hueTurn_any va va a a w3 HA3.out HA3.out HL.out.1 HL.out.1).mono ?_
    rintro e w4 ⟨rfl, hb4⟩
    have HA4 := Lib.hid (HA3.out.below hb4)
    have h1 := turnV_opp a b
    have h2 := zero_eq
    rw [meanOk_swap a b, meanOk_self a, turnV_same a]
    have hbw := below_trans hb1 (below_trans hb2 (below_trans hb3 hb4 hb3.size) hb2.size) hb1.size
    clear HA HBB HA2 HB2 HA3 hb1 hb2 hb3 hb4
    generalize turnV a b = x at *
    generalize turnV b a = y at *
    generalize meanOk a b = t at *
    go_wp2_with fail
    refine (specRowOk_any va a w4 HA4.out HL.out.1).mono ?_
    rintro e w5 ⟨rfl, hb5⟩
    generalize rok a = t' at *
    go_wp2
    go_ret
    exact ⟨rfl, below_trans hbw hb5 hbw.size⟩
end Go.Proofs.Ytgecclccmmcdoaa
