/-
  What is proved: the walk of the law FnExactCarrier.
  Conditions: none beyond the argument's own.
-/
import Derived.Test.YtnkmcjiohmnfhaaSame
import Derived.Test.YtnkmcjiohmnfhaaCar
namespace Go.Proofs.Ytnkmcjiohmnfhaa
set_option linter.unusedVariables false
open Go.RowKit
attribute [local go_sem] run_store_float run_store_complex unary_negf neg256

/-- Both are NaN, or both the same number. -/
theorem sameFloat_zero (w : World) : Calls Try.prog 70 #[.float .f64 0, .float .f64 0] w fun e w' => e = .returned (.bool true) ∧ w = w' := by
  have h1 : (FloatKind.f64.format.order 0 0) = some .eq := by decide +kernel
  have hd := fun W => run_float_arith (P := Try.prog) W .quo 88 .f64 4607182418800017408 0 9218868437227405312 (by decide +kernel)
  have h2 : (FloatKind.f64.format.order 9218868437227405312 0) = some .gt := by decide +kernel
  go_enter Try.func70, Try.ntmps70
  go_wp2
  go_ret
  exact ⟨rfl, rfl⟩
theorem sameFloat_one (x : Nat) (hx : x = 4607182418800017408 ∨ x = 13830554455654793216) (w : World) : Calls Try.prog 70 #[.float .f64 x, .float .f64 x] w fun e w' => e = .returned (.bool true) ∧ w = w' := by
  have h1 : (FloatKind.f64.format.order x x) = some .eq := by rcases hx with rfl | rfl <;> decide +kernel
  have h2 : (FloatKind.f64.format.order x 0 == some .eq) = false := by rcases hx with rfl | rfl <;> decide +kernel
  clear hx
  go_enter Try.func70, Try.ntmps70
  go_wp2
  go_ret
  exact ⟨rfl, rfl⟩
theorem sameComplex_a (x : Nat) (hx : x = 4607182418800017408 ∨ x = 13830554455654793216) (w : World) : Calls Try.prog 33 #[.complex .f64 x 0, .complex .f64 x 0] w fun e w' => e = .returned (.bool true) ∧ w = w' := by
  have H1 := fun W => Lib.hid (sameFloat_one x hx W)
  have H2 := fun W => Lib.hid (sameFloat_zero W)
  clear hx
  go_enter Try.func33, Try.ntmps33
  go_wp2_with fail
  refine (H1 _).out.mono ?_
  rintro e w1 ⟨rfl, rfl⟩
  go_wp2_with fail
  refine (H2 _).out.mono ?_
  rintro e w1 ⟨rfl, rfl⟩
  go_wp2
  go_ret
  exact ⟨rfl, rfl⟩
theorem sameComplex_b (x : Nat) (hx : x = 4607182418800017408 ∨ x = 13830554455654793216) (w : World) : Calls Try.prog 33 #[.complex .f64 0 x, .complex .f64 0 x] w fun e w' => e = .returned (.bool true) ∧ w = w' := by
  have H1 := fun W => Lib.hid (sameFloat_one x hx W)
  have H2 := fun W => Lib.hid (sameFloat_zero W)
  clear hx
  go_enter Try.func33, Try.ntmps33
  go_wp2_with fail
  refine (H2 _).out.mono ?_
  rintro e w1 ⟨rfl, rfl⟩
  go_wp2_with fail
  refine (H1 _).out.mono ?_
  rintro e w1 ⟨rfl, rfl⟩
  go_wp2
  go_ret
  exact ⟨rfl, rfl⟩
set_option maxHeartbeats 1000000 in
theorem walk_FnExactCarrier (n : Int) (w : World) (hn : (Lit.int .i64 n).wf = true) :
    Calls Try.prog 8 #[.int .i64 n] w fun e w' => e = .returned (.bool true) ∧ Below w.heap.size w w' := by
  have HS := fun W => Lib.hid (specCarrier_any n W)
  have HP := fun W => Lib.hid (carrier_any n W)
  have hr : phase n = (1065353216, 0) ∨ phase n = (0, 1065353216) ∨ phase n = (3212836864, 0) ∨ phase n = (0, 3212836864) := by
    unfold phase
    repeat' split
    all_goals simp
  obtain ⟨re, im, hc, hcall⟩ : ∃ re im, cConvBits .f32 (phase n).1 (phase n).2 .f64 = some (re, im) ∧ ∀ W, Calls Try.prog 33 #[.complex .f64 re im, .complex .f64 re im] W fun e w' => e = .returned (.bool true) ∧ W = w' := by
    rcases hr with h | h | h | h <;> rw [h]
    · exact ⟨4607182418800017408, 0, by decide +kernel, fun W => sameComplex_a _ (.inl rfl) W⟩
    · exact ⟨0, 4607182418800017408, by decide +kernel, fun W => sameComplex_b _ (.inl rfl) W⟩
    · exact ⟨13830554455654793216, 0, by decide +kernel, fun W => sameComplex_a _ (.inr rfl) W⟩
    · exact ⟨0, 13830554455654793216, by decide +kernel, fun W => sameComplex_b _ (.inr rfl) W⟩
  have HC := fun W => Lib.hid (hcall W)
  generalize (phase n).1 = a at *
  generalize (phase n).2 = b at *
  have hcv := fun W => run_convert_complex (P := Try.prog) W 40 51 .f32 .f64 a b re im (by kernel_rfl) Try.underlying51 hc
  clear hn hr hcall hc
  go_enter Try.func8, Try.ntmps8
  go_wp2_with fail
  refine (HS _).out.mono ?_
  rintro e w1 ⟨rfl, rfl⟩
  go_wp2_with fail
  refine (HP _).out.mono ?_
  rintro e w1 ⟨rfl, hb⟩
  clear HS HP
  go_wp2_with fail
  refine (HC _).out.mono ?_
  rintro e w2 ⟨rfl, rfl⟩
  go_wp2
  go_ret
  exact ⟨rfl, hb⟩
end Go.Proofs.Ytnkmcjiohmnfhaa
