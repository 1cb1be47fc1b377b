/-
  What is proved: the walks of the program's Times and Power.
  Conditions: none.
-/
import Derived.Test.YtnedmhhodmmddaaDecCell
import Derived.Test.YtnedmhhodmmddaaUndo
namespace Go.Proofs.Ytnedmhhodmmddaa
set_option linter.unusedVariables false
open Go.RowKit
attribute [local go_sem] run_store_float run_store_complex unary_negf neg256

/-- What Times tells. -/
def TimesA (a b x y : Nat) (w : World) (e : Ending) (w' : World) : Prop := ∃ re im, e = .returned (.complex .f32 re im) ∧ (TimesR a b x y re im ∧ re < 2 ^ 32 ∧ im < 2 ^ 32) ∧ ∃ n, w' = w.drewN n
set_option maxHeartbeats 1000000 in
theorem times_any (a b x y : Nat) (w : World) :
    Calls Try.prog 18 #[.complex .f32 a b, .complex .f32 x y] w fun e w' => TimesA a b x y w e w' := by
  go_enter Try.func18, Try.ntmps18
  obtain ⟨m1, n1, e1, R1, B1⟩ := run_res .mul (.inr (.inr (.inl rfl))) a x w
  obtain ⟨m2, n2, e2, R2, B2⟩ := run_res .mul (.inr (.inr (.inl rfl))) b y (w.drewN (n1))
  rw [drewN_addD] at e2
  obtain ⟨re, n3, e3, R3, B3⟩ := run_res .sub (.inr (.inl rfl)) m1 m2 (w.drewN (n1 + n2))
  rw [drewN_addD] at e3
  obtain ⟨m3, n4, e4, R4, B4⟩ := run_res .mul (.inr (.inr (.inl rfl))) a y (w.drewN (n1 + n2 + n3))
  rw [drewN_addD] at e4
  obtain ⟨m4, n5, e5, R5, B5⟩ := run_res .mul (.inr (.inr (.inl rfl))) b x (w.drewN (n1 + n2 + n3 + n4))
  rw [drewN_addD] at e5
  obtain ⟨im, n6, e6, R6, B6⟩ := run_res .add (.inl rfl) m3 m4 (w.drewN (n1 + n2 + n3 + n4 + n5))
  rw [drewN_addD] at e6
  have HR := Lib.hid (show TimesR a b x y re im ∧ re < 2 ^ 32 ∧ im < 2 ^ 32 from ⟨⟨m1, m2, m3, m4, R1, R2, R3, R4, R5, R6⟩, B3, B6⟩)
  clear R1 R2 R3 R4 R5 R6 B1 B2 B3 B4 B5 B6
  go_wp2
  go_ret
  exact ⟨re, im, rfl, HR.out, _, rfl⟩
def PowA (x y : Nat) (w : World) (e : Ending) (w' : World) : Prop := ∃ p, e = .returned (.float .f32 p) ∧ (PowR x y p ∧ p < 2 ^ 32) ∧ ∃ n, w' = w.drewN n
set_option maxHeartbeats 1000000 in
theorem power_any (x y : Nat) (w : World) :
    Calls Try.prog 22 #[.complex .f32 x y] w fun e w' => PowA x y w e w' := by
  go_enter Try.func22, Try.ntmps22
  obtain ⟨m1, n1, e1, R1, B1⟩ := run_res .mul (.inr (.inr (.inl rfl))) x x w
  obtain ⟨m2, n2, e2, R2, B2⟩ := run_res .mul (.inr (.inr (.inl rfl))) y y (w.drewN (n1))
  rw [drewN_addD] at e2
  obtain ⟨p, n3, e3, R3, B3⟩ := run_res .add (.inl rfl) m1 m2 (w.drewN (n1 + n2))
  rw [drewN_addD] at e3
  have HR := Lib.hid (show PowR x y p ∧ p < 2 ^ 32 from ⟨⟨m1, m2, R1, R2, R3⟩, B3⟩)
  clear R1 R2 R3 B1 B2 B3
  go_wp2
  go_ret
  exact ⟨p, rfl, HR.out, _, rfl⟩
end Go.Proofs.Ytnedmhhodmmddaa
