/-
  What is proved: the law's comparing of a complex number with itself.
  Conditions: its parts are no NaN.
-/
import Derived.Test.YtjccnmnhgahlfaaFSame
namespace Go.Proofs.Ytjccnmnhgahlfaa
set_option linter.unusedVariables false
open Go.RowKit
attribute [local go_sem] run_store_float run_store_complex unary_negf neg256

theorem cconv_num {a b : Nat} (ha : isN a = false) (hb : isN b = false) : ∃ p q, (∀ W, (convert 32 41 (.complex .f32 a b)).run Try.prog W = .ok (.complex .f64 p q) W) ∧ (Ieee.double.read p).isNaN = false ∧ (Ieee.double.read q).isNaN = false := by
  obtain ⟨p, hp, np⟩ := conv_num ha
  obtain ⟨q, hq, nq⟩ := conv_num hb
  exact ⟨p, q, fun W => run_convert_complex W 32 41 .f32 .f64 a b p q (by kernel_rfl) Try.underlying41 (by simp [cConvBits, hp, hq]), np, nq⟩
theorem sameComplex_self (p q : Nat) (w : World) (hp : (Ieee.double.read p).isNaN = false) (hq : (Ieee.double.read q).isNaN = false) :
    Calls Try.prog 36 #[.complex .f64 p q, .complex .f64 p q] w fun e w' => e = .returned (.bool true) ∧ w = w' := by
  have HP := fun W => Lib.hid (sameFloat_self p W hp)
  have HQ := fun W => Lib.hid (sameFloat_self q W hq)
  clear hp hq
  go_enter Try.func36, Try.ntmps36
  go_wp2_with fail
  refine (HP _).out.mono ?_
  rintro e w1 ⟨rfl, rfl⟩
  go_wp2_with fail
  refine (HQ _).out.mono ?_
  rintro e w1 ⟨rfl, rfl⟩
  go_wp2
  go_ret
  exact ⟨rfl, rfl⟩
end Go.Proofs.Ytjccnmnhgahlfaa
