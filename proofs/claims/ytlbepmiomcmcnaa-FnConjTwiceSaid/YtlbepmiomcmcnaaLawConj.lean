/-
  What is proved: the walk of the law FnConjTwice.
  Conditions: none beyond the argument's own.
-/
import Derived.Test.YtlbepmiomcmcnaaDrawRow
import Derived.Test.YtlbepmiomcmcnaaSame
namespace Go.Proofs.Ytlbepmiomcmcnaa
set_option linter.unusedVariables false
open Go.RowKit

set_option maxHeartbeats 2000000 in
theorem walk_FnConjTwice (a0 : Option Addr) (len0 cap0 : Nat) (z0 : List Int) (w : World) (w0 : IsRow .u8 w a0 len0 cap0 z0) :
    Calls Try.prog 5 #[.slice a0 len0 cap0] w fun e w' => e = .returned (.bool true) ∧ Below w.heap.size w w' := by
  by_cases hbig : 1048576 < len0
  · have hbb : decide ((1048576 : Int) < len0) = true := by simp; omega
    have HB := Lib.hid (big_any a0 len0 cap0 w)
    rw [hbb] at HB
    clear hbb
    go_enter Try.func5, Try.ntmps5
    go_wp2_with fail
    refine HB.out.mono ?_
    rintro e w1 ⟨rfl, rfl⟩
    go_wp2
    go_ret
    exact ⟨rfl, Below.refl _ _⟩
  · have hbb : decide ((1048576 : Int) < len0) = false := by simp; omega
    have HB := Lib.hid (big_any a0 len0 cap0 w)
    rw [hbb] at HB
    have HD := Lib.hid (drawConjugate_any a0 len0 cap0 w (w0.src (by omega)))
    clear hbb w0
    go_enter Try.func5, Try.ntmps5
    go_wp2_with fail
    refine HB.out.mono ?_
    rintro e w1 ⟨rfl, rfl⟩
    go_wp2_with fail
    refine HD.out.mono ?_
    rintro e w1 ⟨v, cs, hl, hf, rfl, hr, hb1⟩
    have HR := Lib.hid hr
    have HF := Lib.hid hf
    clear hr hf HD HB
    go_wp2_with fail
    refine (conjugateRow_any v cs w1 HR.out (by omega)).mono ?_
    rintro e w2 ⟨v2, rfl, hr2, hb2⟩
    have HR2 := Lib.hid hr2
    clear hr2
    go_wp2_with fail
    refine (conjugateRow_any v2 _ w2 HR2.out (by split <;> simp <;> omega)).mono ?_
    rintro e w3 ⟨v3, rfl, hr3, hb3⟩
    have hb13 := below_trans hb2 hb3 hb2.size
    have HR3 := Lib.hid hr3
    have HR13 := Lib.hid (HR.out.below hb13)
    clear hr3 HR2
    go_wp2_with fail
    refine (scaleRow_one v cs w3 HR13.out (by omega) HF.out).mono ?_
    rintro e w4 ⟨v4, rfl, hr4, hb4⟩
    have hb14 := below_trans hb13 hb4 hb13.size
    have HR4 := Lib.hid hr4
    have HR14 := Lib.hid (HR.out.below hb14)
    have HR34 := Lib.hid (HR3.out.below hb4)
    clear hr4 HR13 HR3
    go_wp2_with fail
    refine (specRowOk_any v cs w4 HR14.out (by omega)).mono ?_
    rintro e w5 ⟨rfl, hb5⟩
    have hb15 := below_trans hb14 hb5 hb14.size
    have HV := Lib.hid (HR.out.below hb15)
    have HX := Lib.hid (HR34.out.below hb5)
    have HY := Lib.hid (HR4.out.below hb5)
    clear HR14 HR34 HR4 HR
    cases hrk : rok cs with
    | false =>
      have hx := HX.out
      rw [hrk] at hx
      simp only [Bool.false_eq_true, if_false, show rok [] = false by decide] at hx
      clear HX HY HV
      rcases hx with ⟨rfl, _⟩ | ⟨g, o, cap, rfl, _, _⟩
      all_goals
        go_wp2
        go_ret
        exact ⟨rfl, below_trans hb1 hb15 hb1.size⟩
    | true =>
      have hx := HX.out
      have hy := HY.out
      rw [hrk] at hx hy
      simp only [if_true, rok_cj HF.out hrk, cj_cj] at hx hy
      have hall : (cs.all fun c => okc c.1 c.2.1 c.2.2) = true := by
        unfold rok at hrk
        rw [Bool.and_eq_true] at hrk
        exact hrk.2
      have HA := Lib.hid hall
      have HX2 := Lib.hid hx
      have HY2 := Lib.hid hy
      clear hx hy hall hrk HX HY HF
      go_wp2_with fail
      refine (sameRow_self v3 v cs w5 HX2.out HV.out (by omega) HA.out).mono ?_
      rintro e w6 ⟨rfl, hb6⟩
      go_wp2_with fail
      refine (sameRow_self v4 v cs w6 (HY2.out.below hb6) (HV.out.below hb6) (by omega) HA.out).mono ?_
      rintro e w7 ⟨rfl, hb7⟩
      go_wp2
      go_ret
      exact ⟨rfl, below_trans hb1 (below_trans hb15 (below_trans hb6 hb7 hb6.size) hb15.size) hb1.size⟩
end Go.Proofs.Ytlbepmiomcmcnaa
