/-
  What is proved: the walk of the law FnOddConjugate.
  Conditions: none beyond the argument's own.
-/
import Derived.Test.YtnkmcjiohmnfhaaEncCells
import Derived.Test.YtnkmcjiohmnfhaaFSame
namespace Go.Proofs.Ytnkmcjiohmnfhaa
set_option linter.unusedVariables false
open Go.RowKit
attribute [local go_sem] run_store_float run_store_complex unary_negf neg256

def DrawEn (w : World) (e : Ending) (w' : World) : Prop := ∃ v cs t, cs.length ≤ 1000 ∧ Fit cs ∧ e = .returned (.tuple #[v, .bool t]) ∧ RowV w' v cs ∧ Below w.heap.size w w'
theorem DrawEn.mk {w w' : World} {v : Value} {cs : List C3} {t : Bool} (hl : cs.length ≤ 1000) (hf : Fit cs) (hr : RowV w' v cs) (hb : Below w.heap.size w w') : DrawEn w (.returned (.tuple #[v, .bool t])) w' := ⟨v, cs, t, hl, hf, rfl, hr, hb⟩
theorem drawEncode_any (a : Option Addr) (len cap : Nat) (w : World) (hs : Src w w.heap.size a len cap) :
    Calls Try.prog 19 #[.slice a len cap] w fun e w' => DrawEn w e w' := by
  have HN := Lib.hid (l01New_any a len cap w hs)
  clear hs
  go_enter Try.func19, Try.ntmps19
  go_wp2_with fail
  refine HN.out.mono ?_
  rintro e w1 ⟨rfl, hc1, hg1⟩
  go_wp2_with fail
  refine (l02Any_any _ _ hc1).mono ?_
  rintro e w2 ⟨v, cs, hl, hf, rfl, hr, hc2, hg2⟩
  have HH := Lib.hid (And.intro hf hr)
  clear hf hr
  go_wp2_with fail
  refine (l01Once_any _ _ _ hc2 (by decide) (by decide)).mono ?_
  rintro e w3 ⟨t, rfl, hc3, hg3⟩
  have HR3 := Lib.hid (HH.out.2.curF hg3 hc2)
  go_wp2
  go_ret2
  exact DrawEn.mk hl HH.out.1 HR3.out (drawn hg1 (hg2.trans hg3))
set_option maxHeartbeats 2000000 in
theorem walk_FnOddConjugate (a0 : Option Addr) (len0 cap0 : Nat) (z0 : List Int) (w : World) (w0 : IsRow .u8 w a0 len0 cap0 z0) :
    Calls Try.prog 4 #[.slice a0 len0 cap0] w fun e w' => e = .returned (.bool true) ∧ Below w.heap.size w w' := by
  by_cases hbig : 1048576 < len0
  · have hbb : decide ((1048576 : Int) < len0) = true := by simp; omega
    have HB := Lib.hid (big_any a0 len0 cap0 w)
    rw [hbb] at HB
    clear hbb
    go_enter Try.func4, Try.ntmps4
    go_wp2_with fail
    refine HB.out.mono ?_
    rintro e w1 ⟨rfl, rfl⟩
    go_wp2
    go_ret
    exact ⟨rfl, Below.refl _ _⟩
  · have hbb : decide ((1048576 : Int) < len0) = false := by simp; omega
    have HB := Lib.hid (big_any a0 len0 cap0 w)
    rw [hbb] at HB
    have HD := Lib.hid (drawEncode_any a0 len0 cap0 w (w0.src (by omega)))
    clear hbb w0
    go_enter Try.func4, Try.ntmps4
    go_wp2_with fail
    refine HB.out.mono ?_
    rintro e w1 ⟨rfl, rfl⟩
    go_wp2_with fail
    refine HD.out.mono ?_
    rintro e w1 ⟨v, cs, t, hl, hf, rfl, hr, hb1⟩
    have HR := Lib.hid hr
    have HF := Lib.hid hf
    clear hr hf HD HB
    go_wp2_with fail
    refine (encode_odd v cs w1 HR.out HF.out (by omega)).mono ?_
    rintro e w2 ⟨v2, rfl, hn2, hb2⟩
    have hb12 := below_trans hb1 hb2 hb1.size
    have HR2 := Lib.hid (HR.out.below hb2)
    have N2 := Lib.hid hn2
    clear HR hn2
    go_wp2_with fail
    refine (conjugateRow_any v cs w2 HR2.out (by omega)).mono ?_
    rintro e w3 ⟨v3, rfl, hr3, hb3⟩
    have hb13 := below_trans hb12 hb3 hb12.size
    have HR3 := Lib.hid (HR2.out.below hb3)
    have N3 := Lib.hid (N2.out.below hb3)
    have HC3 := Lib.hid hr3
    have hfc : Fit (if rok cs = true then cs.map cj else []) := by
      split
      · intro c hc
        obtain ⟨d, hd, rfl⟩ := List.mem_map.1 hc
        exact ⟨(HF.out d hd).1, (HF.out d hd).2.1, Flt.neg_lt32 (HF.out d hd).2.2⟩
      · intro c hc; cases hc
    have HFC := Lib.hid hfc
    clear hr3 HR2 N2 hfc
    go_wp2_with fail
    refine (encode_even v3 _ w3 HC3.out HFC.out (by split <;> simp <;> omega)).mono ?_
    rintro e w4 ⟨v4, rfl, hn4, hb4⟩
    have hb14 := below_trans hb13 hb4 hb13.size
    have HR4 := Lib.hid (HR3.out.below hb4)
    have N34 := Lib.hid (N3.out.below hb4)
    have N4 := Lib.hid hn4
    clear HR3 N3 HC3 hn4
    have heq : (if rok (if rok cs = true then cs.map cj else []) = true then enc (if rok cs = true then cs.map cj else []) else []) = (if rok cs = true then enc (cs.map cj) else []) := by
      cases hrk : rok cs with
      | false => simp [show rok [] = false from rfl]
      | true => simp [rok_cj HF.out hrk]
    rw [heq] at N4
    have hle : (if rok cs = true then enc (cs.map cj) else []).length ≤ 1000000000 := by
      split
      · rw [enc_len]; simp; omega
      · simp
    have hpos : (0 < (if rok cs = true then enc (cs.map cj) else []).length) ↔ rok cs = true := by
      cases hrk : rok cs with
      | false => simp
      | true =>
        have := (rok_iff.1 hrk).1.1
        rw [if_pos (by first | rfl | exact hrk), enc_len, List.length_map]
        exact ⟨fun _ => by first | rfl | exact hrk, fun _ => by omega⟩
    have HPOS := Lib.hid hpos
    have HS := Lib.hid (sameSamples_sm v2 v4 _ _ w4 N34.out.row N4.out.row (SmL.refl _) hle)
    obtain ⟨a2, c2, hv2⟩ := N34.out.row.lenv
    generalize (if rok cs = true then enc (cs.map cj) else []).length = L at *
    subst hv2
    have HRO := fun W hW => Lib.hid (specRowOk_any v cs W hW (by omega))
    clear heq hle hpos N34 N4 HFC
    go_wp2_with fail
    refine HS.out.mono ?_
    rintro e w5 ⟨rfl, q5, hq5⟩
    have hb45 : Below w4.heap.size w4 w5 := by rw [hq5]; exact belowDN (Below.refl _ _) _
    have hb15 := below_trans hb14 hb45 hb14.size
    have HR5 := Lib.hid (HR4.out.below hb45)
    clear hq5 HR4 HS
    go_wp2_with fail
    refine (HRO _ HR5.out).out.mono ?_
    rintro e w6 ⟨rfl, hb6⟩
    have hb16 := below_trans hb15 hb6 hb15.size
    cases hrk : rok cs with
    | false =>
      have hL : ¬ (0 < L) := fun h => by have := HPOS.out.1 h; rw [hrk] at this; cases this
      have hL0 : L = 0 := by omega
      clear hrk hL
      go_wp2
      go_ret
      exact ⟨rfl, hb16⟩
    | true =>
      have hL : 0 < L := HPOS.out.2 hrk
      clear hrk
      go_wp2
      go_ret
      exact ⟨rfl, hb16⟩
end Go.Proofs.Ytnkmcjiohmnfhaa
