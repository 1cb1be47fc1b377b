/-
  What is proved: the walk of the law FnMeanSelf.
  Conditions: none beyond the argument's own.
-/
import Derived.Test.YtlbepmiomcmcnaaSpecMean
import Derived.Test.YtlbepmiomcmcnaaEq
namespace Go.Proofs.Ytlbepmiomcmcnaa
set_option linter.unusedVariables false
open Go.RowKit

def Draw2 (w : World) (e : Ending) (w' : World) : Prop := ∃ v v' a b, (a.length ≤ 1000 ∧ b.length ≤ 1000) ∧ e = .returned (.tuple #[v, v']) ∧ (RowV w' v a ∧ RowV w' v' b) ∧ Below w.heap.size w w'
theorem Draw2.mk {w w' : World} {v v' : Value} {a b : List C3} (hl : a.length ≤ 1000) (hl' : b.length ≤ 1000) (hr : RowV w' v a) (hr' : RowV w' v' b) (hb : Below w.heap.size w w') : Draw2 w (.returned (.tuple #[v, v'])) w' := ⟨v, v', a, b, ⟨hl, hl'⟩, rfl, ⟨hr, hr'⟩, hb⟩
theorem RowV.cur {w w' : World} {v : Value} {cs : List C3} {a b : Nat} (h : RowV w v cs) (hg : w.grownBy w' (some b)) (hc : Cur w b) : RowV w' v cs := by
  rcases h with h | ⟨g, o, cap, h1, h2, h3⟩
  · exact .inl h
  · refine .inr ⟨g, o, cap, h1, h2, fun i hi => ?_⟩
    obtain ⟨k0, k1⟩ := h3 i hi
    obtain ⟨_, _, _, _, _, _, _, _, _, hbk⟩ := hc
    have hne : g ≠ b := by
      rintro rfl
      simp only [World.cell?, hbk] at k0
      rcases (by omega : o + i * 2 = 0 ∨ o + i * 2 = 1 ∨ o + i * 2 = 2 ∨ 3 ≤ o + i * 2) with e | e | e | e
      · rw [e] at k0; simp at k0
      · rw [e] at k0; simp at k0
      · rw [e] at k0; simp at k0
      · rw [Array.getElem?_eq_none (by simpa using e)] at k0; cases k0
    exact ⟨hg.cell k0 (by simpa using hne), hg.cell k1 (by simpa using hne)⟩
set_option maxHeartbeats 1000000 in
theorem drawMeanRow_any (a : Option Addr) (len cap : Nat) (w : World) (hs : Src w w.heap.size a len cap) :
    Calls Try.prog 13 #[.slice a len cap] w fun e w' => Draw2 w e w' := by
  have HN := Lib.hid (l01New_any a len cap w hs)
  clear hs
  go_enter Try.func13, Try.ntmps13
  go_wp2_with fail
  refine HN.out.mono ?_
  rintro e w1 ⟨rfl, hc1, hg1⟩
  go_wp2_with fail
  refine (l02Any_any _ _ hc1).mono ?_
  rintro e w2 ⟨v, cs, hl, hf, rfl, hr, hc2, hg2⟩
  have HR := Lib.hid hr
  clear hr hf
  go_wp2_with fail
  refine (l01Once_any _ _ _ hc2 (by decide) (by decide)).mono ?_
  rintro e w3 ⟨t, rfl, hc3, hg3⟩
  have HR3 := Lib.hid (HR.out.cur (a := 0) hg3 hc2)
  clear HR
  cases t
  · obtain ⟨ad, cp, hv⟩ := HR3.out.lenv
    subst hv
    go_wp2_with fail
    refine (l02Cells_any _ cs.length _ hc3 hl).mono ?_
    rintro e w4 ⟨v4, cs4, hl4, hf4, rfl, hr4, hc4, hg4⟩
    have HR4 := Lib.hid hr4
    have HL := Lib.hid (show cs4.length ≤ 1000 by omega)
    clear hr4 hf4 hl4
    go_wp2
    go_ret2
    exact Draw2.mk hl HL.out (HR3.out.cur (a := 0) hg4 hc3) HR4.out (drawn hg1 ((hg2.trans hg3).trans hg4))
  · go_wp2_with fail
    refine (l02Any_any _ _ hc3).mono ?_
    rintro e w4 ⟨v4, cs4, hl4, hf4, rfl, hr4, hc4, hg4⟩
    have HR4 := Lib.hid hr4
    clear hr4 hf4
    go_wp2
    go_ret2
    exact Draw2.mk hl hl4 (HR3.out.cur (a := 0) hg4 hc3) HR4.out (drawn hg1 ((hg2.trans hg3).trans hg4))

theorem meanOk_self (a : List C3) : meanOk a a = rok a := by unfold meanOk; simp
theorem meanOk_swap (a b : List C3) : meanOk b a = meanOk a b := by
  unfold meanOk
  rw [show decide (b.length = a.length) = decide (a.length = b.length) from decide_eq_decide.2 ⟨Eq.symm, Eq.symm⟩]
  cases rok a <;> cases rok b <;> simp
theorem meanOk_rok {a b : List C3} (h : rok a = false) : meanOk a b = false := by unfold meanOk; rw [h]; rfl
set_option maxHeartbeats 4000000 in
theorem walk_FnMeanSelf (a0 : Option Addr) (len0 cap0 : Nat) (z0 : List Int) (w : World) (w0 : IsRow .u8 w a0 len0 cap0 z0) :
    Calls Try.prog 4 #[.slice a0 len0 cap0] w fun e w' => e = .returned (.bool true) ∧ Below w.heap.size w w' := by
  by_cases hbig : 1048576 < len0
  · have hbb : decide ((1048576 : Int) < len0) = true := by simp; omega
    have HB := Lib.hid (big_any a0 len0 cap0 w)
    rw [hbb] at HB
    clear hbb
    go_enter Try.func4, Try.ntmps4
    go_wp2_with fail
    refine HB.out.mono ?_
    rintro e w1 ⟨rfl, rfl⟩
    go_wp2
    go_ret
    exact ⟨rfl, Below.refl _ _⟩
  · have hbb : decide ((1048576 : Int) < len0) = false := by simp; omega
    have HB := Lib.hid (big_any a0 len0 cap0 w)
    rw [hbb] at HB
    have HD := Lib.hid (drawMeanRow_any a0 len0 cap0 w (w0.src (by omega)))
    clear hbb w0
    go_enter Try.func4, Try.ntmps4
    go_wp2_with fail
    refine HB.out.mono ?_
    rintro e w1 ⟨rfl, rfl⟩
    go_wp2_with fail
    refine HD.out.mono ?_
    rintro e w1 ⟨va, vb, a, b, hl, rfl, hr, hb1⟩
    have HA := Lib.hid hr.1
    have HBB := Lib.hid hr.2
    have HL := Lib.hid (show a.length ≤ 1000000 ∧ b.length ≤ 1000000 by omega)
    clear hr hl HD HB
    go_wp2_with fail
    refine (meanRow_any va va a a w1 HA.out HA.out HL.out.1 HL.out.1).mono ?_
    rintro e w2 ⟨vx, rfl, hx, hb2⟩
    have HX := Lib.hid hx
    have HA2 := Lib.hid (HA.out.below hb2)
    have HB2 := Lib.hid (HBB.out.below hb2)
    clear hx
    go_wp2_with fail
    refine (meanRow_any va vb a b w2 HA2.out HB2.out HL.out.1 HL.out.2).mono ?_
    rintro e w3 ⟨vy, rfl, hy, hb3⟩
    have HY := Lib.hid hy
    have HA3 := Lib.hid (HA2.out.below hb3)
    have HB3 := Lib.hid (HB2.out.below hb3)
    clear hy
    go_wp2_with fail
    refine (meanRow_any vb va b a w3 HB3.out HA3.out HL.out.2 HL.out.1).mono ?_
    rintro e w4 ⟨vz, rfl, hz, hb4⟩
    have HZ := Lib.hid hz
    have HA4 := Lib.hid (HA3.out.below hb4)
    have HB4 := Lib.hid (HB3.out.below hb4)
    clear hz
    rw [meanOk_swap a b]
    go_wp2_with fail
    refine (specMean_any va vb a b w4 HA4.out HB4.out HL.out.1 HL.out.2).mono ?_
    rintro e w5 ⟨vd, rfl, hb5⟩
    have HA5 := Lib.hid (HA4.out.below hb5)
    rw [meanOk_self a]
    go_wp2_with fail
    refine (specRowOk_any va a w5 HA5.out HL.out.1).mono ?_
    rintro e w6 ⟨rfl, hb6⟩
    have hb36 := below_trans hb3 (below_trans hb4 (below_trans hb5 hb6 hb5.size) hb4.size) hb3.size
    have hb46 := below_trans hb4 (below_trans hb5 hb6 hb5.size) hb4.size
    have hb56 := below_trans hb5 hb6 hb5.size
    have hbw6 := below_trans hb1 (below_trans hb2 hb36 hb2.size) hb1.size
    have HXX := Lib.hid (fun h => (HX.out h).below hb36)
    have HYY := Lib.hid (fun h => (HY.out h).below hb46)
    have HZZ := Lib.hid (fun h => (HZ.out h).below hb56)
    have HAA := Lib.hid (HA5.out.below hb6)
    clear HX HY HZ HA HBB HA2 HB2 HA3 HB3 HA4 HB4 HA5 hb1 hb2 hb3 hb4 hb5 hb6 hb36 hb46 hb56
    cases hra : rok a with
    | false =>
      have hm := meanOk_rok (b := b) hra
      rw [hm]
      clear hm hra HXX HYY HZZ
      go_wp2
      go_ret
      exact ⟨rfl, hbw6⟩
    | true =>
      have hx := HXX.out (by rw [meanOk_self]; exact hra)
      have HE := fun W hW => Lib.hid (equalRow_any vx va _ a W (hx.below hW) (HAA.out.below hW) (by have := HL.out.1; simp; omega) (mid_self hra))
      cases hm : meanOk a b with
      | false =>
        clear hra hm hx HXX HYY HZZ
        go_wp2_with fail
        refine (HE _ (Below.refl _ _)).out.mono ?_
        rintro e w7 ⟨rfl, hb7⟩
        go_wp2
        go_ret
        exact ⟨rfl, below_trans hbw6 hb7 hbw6.size⟩
      | true =>
        have hy := HYY.out hm
        have hz := HZZ.out (by rw [meanOk_swap]; exact hm)
        have HE2 := fun W hW => Lib.hid (equalRow_any vy vz _ _ W (hy.below hW) (hz.below hW) (by have := HL.out.1; simp; omega) (mid_swap hm))
        clear hra hm hx hy hz HXX HYY HZZ
        go_wp2_with fail
        refine (HE _ (Below.refl _ _)).out.mono ?_
        rintro e w7 ⟨rfl, hb7⟩
        go_wp2_with fail
        refine (HE2 _ hb7).out.mono ?_
        rintro e w8 ⟨rfl, hb8⟩
        go_wp2
        go_ret
        exact ⟨rfl, below_trans hbw6 (below_trans hb7 hb8 hb7.size) hbw6.size⟩
end Go.Proofs.Ytlbepmiomcmcnaa
