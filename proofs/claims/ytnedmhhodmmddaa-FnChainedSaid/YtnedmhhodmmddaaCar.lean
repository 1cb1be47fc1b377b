/-
  What is proved: the walks of Carrier and Carried (the program's and the model's) at every number.
  Conditions: those that each fact names.
-/
import Derived.Test.YtnedmhhodmmddaaConj
namespace Go.Proofs.Ytnedmhhodmmddaa
set_option linter.unusedVariables false
open Go.RowKit
attribute [local go_sem] run_store_float run_store_complex unary_negf neg256

theorem and_three (n : Int) : bits .and .i64 n 3 = n % 4 := by
  have h2 : (BitVec.ofInt 64 n &&& BitVec.ofInt 64 3).toNat = (n % 18446744073709551616).toNat % 4 := by
    rw [BitVec.toNat_and, BitVec.toNat_ofInt]
    exact Nat.and_two_pow_sub_one_eq_mod _ 2
  show IntKind.i64.wrap ((BitVec.ofInt 64 n &&& BitVec.ofInt 64 3).toNat : Int) = _
  rw [h2]
  have h3 : (((n % 18446744073709551616).toNat % 4 : Nat) : Int) = n % 4 := by omega
  rw [h3]
  exact IntWalk.i64_in _ (by omega)
theorem sampleNumber_any (n : Int) (w : World) : Calls Try.prog 67 #[.int .i64 n] w fun e w' => e = .returned (.int .i64 (n % 4)) ∧ w = w' := by
  have h := and_three n
  go_enter Try.func67, Try.ntmps67
  go_wp2
  go_ret
  exact ⟨rfl, rfl⟩
theorem l03Mod_any (n : Int) (w : World) : Calls Try.prog 76 #[.int .i64 n] w fun e w' => e = .returned (.int .i64 (n % 4)) ∧ w = w' := by
  have h0 : -4 < n.tmod 4 ∧ n.tmod 4 < 4 := ⟨Int.lt_tmod_of_pos n (by decide), Int.tmod_lt_of_pos n (by decide)⟩
  have h1 : wrap64 (n.tmod 4 + 4) = n.tmod 4 + 4 := by unfold wrap64; omega
  have h2 : (n.tmod 4 + 4).tmod 4 = n % 4 := by
    rw [Int.tmod_eq_emod_of_nonneg (by omega), Int.add_emod_right]
    have h3 := Int.tmod_add_mul_tdiv n 4
    generalize n.tmod 4 = a at *
    generalize n.tdiv 4 = b at *
    omega
  clear h0
  go_enter Try.func76, Try.ntmps76
  go_wp2
  go_ret
  exact ⟨rfl, rfl⟩

/-- The phase of the carrier. -/
def phase (n : Int) : Nat × Nat := if n % 4 = 0 then (1065353216, 0) else if n % 4 = 1 then (0, 1065353216) else if n % 4 = 2 then (3212836864, 0) else (0, 3212836864)

/-- What a sample carries of a colour. -/
def carriedOf (u v : Nat) (n : Int) : Nat := if n % 4 = 0 then u else if n % 4 = 1 then Op.negFloat .f32 v else if n % 4 = 2 then Op.negFloat .f32 u else v
theorem carried_any (u v : Nat) (n : Int) (w : World) : Calls Try.prog 58 #[.complex .f32 u v, .int .i64 n] w fun e w' => e = .returned (.float .f32 (carriedOf u v n)) ∧ Below w.heap.size w w' := by
  have HS := fun W => Lib.hid (sampleNumber_any n W)
  unfold carriedOf
  have hr : n % 4 = 0 ∨ n % 4 = 1 ∨ n % 4 = 2 ∨ n % 4 = 3 := by omega
  have hb := (Below.refl w.heap.size w).alloc (Nat.le_refl _) (.cells #[.float .f32 u, .float .f32 (Op.negFloat .f32 v), .float .f32 (Op.negFloat .f32 u), .float .f32 v] 57)
  go_enter Try.func58, Try.ntmps58
  go_wp2_with fail
  refine (HS _).out.mono ?_
  rintro e w1 ⟨rfl, rfl⟩
  clear HS
  rcases hr with h | h | h | h <;> rw [h]
  all_goals
    go_wp2
    go_ret
    exact ⟨by simp, hb⟩
theorem specCarried_any (u v : Nat) (n : Int) (w : World) : Calls Try.prog 75 #[.complex .f32 u v, .int .i64 n] w fun e w' => e = .returned (.float .f32 (carriedOf u v n)) ∧ w = w' := by
  have HS := fun W => Lib.hid (l03Mod_any n W)
  unfold carriedOf
  have hr : n % 4 = 0 ∨ n % 4 = 1 ∨ n % 4 = 2 ∨ n % 4 = 3 := by omega
  go_enter Try.func75, Try.ntmps75
  go_wp2_with fail
  refine (HS _).out.mono ?_
  rintro e w1 ⟨rfl, rfl⟩
  clear HS
  rcases hr with h | h | h | h <;> rw [h]
  all_goals
    go_wp2
    go_ret
    exact ⟨by simp, rfl⟩
end Go.Proofs.Ytnedmhhodmmddaa
