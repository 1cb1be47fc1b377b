/-
  What is proved: whether the model takes two lines' colours for killed is determined.
  Conditions: the lines can be read.
-/
import Derived.Test.YtgecclccmmcdoaaSwing
namespace Go.Proofs.Ytgecclccmmcdoaa
set_option linter.unusedVariables false
open Go.RowKit
attribute [local go_sem] run_store_float run_store_complex unary_negf neg256

def ltb (x y : Nat) : Bool := Ieee.single.order x y == some .lt
/-- The amount of a number. -/
def amt (u : Nat) : Nat := if ltb u 0 = true then Op.negFloat .f32 u else u
theorem amt_yes {u : Nat} (h : ltb u 0 = true) : amt u = Op.negFloat .f32 u := if_pos h
theorem amt_no {u : Nat} (h : ltb u 0 = false) : amt u = u := if_neg (by rw [h]; decide)
def KillR (xs ys : List Nat) (k : Nat) (b : Bool) : Prop := ∃ u z ok n, HueR xs ys u z ok ∧ SwingR xs ys n ∧ b = (decide (n = 0) || ltb (amt u) k)
theorem KillR.same {xs ys : List Nat} {k : Nat} {b b' : Bool} (h : KillR xs ys k b) (h' : KillR xs ys k b') : b = b' := by
  obtain ⟨u, z, ok, n, h1, h2, rfl⟩ := h
  obtain ⟨u', z', ok', n', k1, k2, rfl⟩ := h'
  rw [(h1.same k1).2.1, h2.same k2]
def KillA (xs ys : List Nat) (k : Nat) (w : World) (e : Ending) (w' : World) : Prop := ∃ b, e = .returned (.bool b) ∧ KillR xs ys k b ∧ Below w.heap.size w w'
set_option maxHeartbeats 2000000 in
theorem specKilled_any (v v' : Value) (xs ys : List Nat) (k : Nat) (w : World) (h : FRow w v xs) (h' : FRow w v' ys) (hl : xs.length ≤ 4000000) (hl' : ys.length ≤ 4000000) :
    Calls Try.prog 48 #[v, v', .float .f32 k] w fun e w' => KillA xs ys k w e w' := by
  have HH := Lib.hid (specHue_any v v' xs ys w h h' hl hl')
  have HS := fun W hr hr' => Lib.hid (specSwing_any v v' xs ys W hr hr' hl hl')
  have HR := Lib.hid h
  have HR' := Lib.hid h'
  clear h h'
  go_enter Try.func48, Try.ntmps48
  go_wp2_with fail
  refine HH.out.mono ?_
  rintro e w1 ⟨u, z, ok, rfl, hu, hb1⟩
  have HU := Lib.hid hu
  have HS1 := HS w1 (HR.out.below hb1) (HR'.out.below hb1)
  clear hu HS HH HR HR'
  cases hlt : ltb u 0 with
  | true =>
    have hlt' : (FloatKind.f32.format.order u 0 == some .lt) = true := hlt
    have HAM := Lib.hid (amt_yes hlt)
    clear hlt
    go_wp2_with fail
    refine HS1.out.mono ?_
    rintro e w2 ⟨n, rfl, hn, hb2⟩
    have HN := Lib.hid hn
    have hb := below_trans hb1 hb2 hb1.size
    clear hn HS1
    by_cases h0 : n = 0
    · subst h0
      go_wp2
      go_ret
      exact ⟨true, rfl, ⟨_, _, _, _, HU.out, HN.out, by simp⟩, hb⟩
    · have hd : decide (n = 0) = false := decide_eq_false h0
      cases hk : ltb (Op.negFloat .f32 u) k
      all_goals
        have hk' : (FloatKind.f32.format.order (Op.negFloat .f32 u) k == some .lt) = _ := hk
        go_wp2
        go_ret
        exact ⟨_, rfl, ⟨_, _, _, _, HU.out, HN.out, by rw [HAM.out, hk]; simp [h0]⟩, hb⟩
  | false =>
    have hlt' : (FloatKind.f32.format.order u 0 == some .lt) = false := hlt
    have HAM := Lib.hid (amt_no hlt)
    clear hlt
    go_wp2_with fail
    refine HS1.out.mono ?_
    rintro e w2 ⟨n, rfl, hn, hb2⟩
    have HN := Lib.hid hn
    have hb := below_trans hb1 hb2 hb1.size
    clear hn HS1
    by_cases h0 : n = 0
    · subst h0
      go_wp2
      go_ret
      exact ⟨true, rfl, ⟨_, _, _, _, HU.out, HN.out, by simp⟩, hb⟩
    · have hd : decide (n = 0) = false := decide_eq_false h0
      cases hk : ltb u k
      all_goals
        have hk' : (FloatKind.f32.format.order u k == some .lt) = _ := hk
        go_wp2
        go_ret
        exact ⟨_, rfl, ⟨_, _, _, _, HU.out, HN.out, by rw [HAM.out, hk]; simp [h0]⟩, hb⟩
end Go.Proofs.Ytgecclccmmcdoaa
