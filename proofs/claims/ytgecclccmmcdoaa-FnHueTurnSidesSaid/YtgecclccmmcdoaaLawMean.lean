/-
  What is proved: the walk of the law FnMeanSelf.
  Conditions: none beyond the argument's own.
-/
import Derived.Test.YtgecclccmmcdoaaSpecMean
import Derived.Test.YtgecclccmmcdoaaEq
namespace Go.Proofs.Ytgecclccmmcdoaa
set_option linter.unusedVariables false
open Go.RowKit

def Draw2 (w : World) (e : Ending) (w' : World) : Prop := ∃ v v' a b, (a.length ≤ 1000 ∧ b.length ≤ 1000) ∧ e = .returned (.tuple #[v, v']) ∧ (RowV w' v a ∧ RowV w' v' b) ∧ Below w.heap.size w w'
theorem Draw2.mk {w w' : World} {v v' : Value} {a b : List C3} (hl : a.length ≤ 1000) (hl' : b.length ≤ 1000) (hr : RowV w' v a) (hr' : RowV w' v' b) (hb : Below w.heap.size w w') : Draw2 w (.returned (.tuple #[v, v'])) w' := ⟨v, v', a, b, ⟨hl, hl'⟩, rfl, ⟨hr, hr'⟩, hb⟩
theorem RowV.cur {w w' : World} {v : Value} {cs : List C3} {a b : Nat} (h : RowV w v cs) (hg : w.grownBy w' (some b)) (hc : Cur w b) : RowV w' v cs := by
  rcases h with h | ⟨g, o, cap, h1, h2, h3⟩
  · exact .inl h
  · refine .inr ⟨g, o, cap, h1, h2, fun i hi => ?_⟩
    obtain ⟨k0, k1⟩ := h3 i hi
    obtain ⟨_, _, _, _, _, _, _, _, _, hbk⟩ := hc
    have hne : g ≠ b := by
      rintro rfl
      simp only [World.cell?, hbk] at k0
      rcases (by omega : o + i * 2 = 0 ∨ o + i * 2 = 1 ∨ o + i * 2 = 2 ∨ 3 ≤ o + i * 2) with e | e | e | e
      · rw [e] at k0; simp at k0
      · rw [e] at k0; simp at k0
      · rw [e] at k0; simp at k0
      · rw [Array.getElem?_eq_none (by simpa using e)] at k0; cases k0
    exact ⟨hg.cell k0 (by simpa using hne), hg.cell k1 (by simpa using hne)⟩
set_option maxHeartbeats 1000000 in
theorem drawMeanRow_any (a : Option Addr) (len cap : Nat) (w : World) (hs : Src w w.heap.size a len cap) :
    Calls Try.prog 79 #[.slice a len cap] w fun e w' => Draw2 w e w' := by
  have HN := Lib.hid (l01New_any a len cap w hs)
  clear hs
  go_enter Try.func79, Try.ntmps79
  go_wp2_with fail
  refine HN.out.mono ?_
  rintro e w1 ⟨rfl, hc1, hg1⟩
  go_wp2_with fail
  refine (l02Any_any _ _ hc1).mono ?_
  rintro e w2 ⟨v, cs, hl, hf, rfl, hr, hc2, hg2⟩
  have HR := Lib.hid hr
  clear hr hf
  go_wp2_with fail
  refine (l01Once_any _ _ _ hc2 (by decide) (by decide)).mono ?_
  rintro e w3 ⟨t, rfl, hc3, hg3⟩
  have HR3 := Lib.hid (HR.out.cur (a := 0) hg3 hc2)
  clear HR
  cases t
  · obtain ⟨ad, cp, hv⟩ := HR3.out.lenv
    subst hv
    go_wp2_with fail
    refine (l02Cells_any _ cs.length _ hc3 hl).mono ?_
    rintro e w4 ⟨v4, cs4, hl4, hf4, rfl, hr4, hc4, hg4⟩
    have HR4 := Lib.hid hr4
    have HL := Lib.hid (show cs4.length ≤ 1000 by omega)
    clear hr4 hf4 hl4
    go_wp2
    go_ret2
    exact Draw2.mk hl HL.out (HR3.out.cur (a := 0) hg4 hc3) HR4.out (drawn hg1 ((hg2.trans hg3).trans hg4))
  · go_wp2_with fail
    refine (l02Any_any _ _ hc3).mono ?_
    rintro e w4 ⟨v4, cs4, hl4, hf4, rfl, hr4, hc4, hg4⟩
    have HR4 := Lib.hid hr4
    clear hr4 hf4
    go_wp2
    go_ret2
    exact Draw2.mk hl hl4 (HR3.out.cur (a := 0) hg4 hc3) HR4.out (drawn hg1 ((hg2.trans hg3).trans hg4))

theorem meanOk_self (a : List C3) : meanOk a a = rok a := by unfold meanOk; simp
theorem meanOk_swap (a b : List C3) : meanOk b a = meanOk a b := by
  unfold meanOk
  rw [show decide (b.length = a.length) = decide (a.length = b.length) from decide_eq_decide.2 ⟨Eq.symm, Eq.symm⟩]
  cases rok a <;> cases rok b <;> simp
theorem meanOk_rok {a b : List C3} (h : rok a = false) : meanOk a b = false := by unfold meanOk; rw [h]; rfl
end Go.Proofs.Ytgecclccmmcdoaa
