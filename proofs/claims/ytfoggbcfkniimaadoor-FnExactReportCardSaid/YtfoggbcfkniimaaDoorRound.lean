/-
  What is proved: the walks of math.Round and of ToFixed.
  Conditions: none.
-/
import Derived.Test.YtfoggbcfkniimaaDoorFrom
import Derived.Test.YtfoggbcfkniimaaDoorPkNum
namespace Go.Proofs.YtfoggbcfkniimaaDoor
set_option linter.unusedVariables false
open Go.RowKit

@[go_sem] theorem f64bits (b : Nat) (w : World) : (callFunc 105 #[.float .f64 b]).run Tryd.prog w = .ok (.value (.int .u64 (b : Int))) w := by kernel_rfl
@[go_sem] theorem f64from (b : Int) (w : World) : (callFunc 106 #[.int .u64 b]).run Tryd.prog w = .ok (.value (.float .f64 b.toNat)) w := by kernel_rfl
set_option maxRecDepth 100000 in
set_option maxHeartbeats 400000 in
theorem round_lo (b E z : Nat) (w : World) (he : bits BinOp.and IntKind.u64 ((b : Int) / 4503599627370496) 2047 = (E : Int)) (h1 : E < 1022) (h3 : ((E : Int) == 1022) = false) (hz : bits BinOp.and IntKind.u64 (b : Int) 9223372036854775808 = (z : Int)) :
    Calls Tryd.prog 84 #[.float .f64 b] w fun e w' => e = .returned (.float .f64 z) ∧ w = w' := by
  go_enter Tryd.func84, Tryd.ntmps84
  go_wp2
  go_ret
  exact ⟨by simp, rfl⟩
set_option maxRecDepth 100000 in
set_option maxHeartbeats 400000 in
theorem round_half (b z o : Nat) (w : World) (he : bits BinOp.and IntKind.u64 ((b : Int) / 4503599627370496) 2047 = 1022) (hz : bits BinOp.and IntKind.u64 (b : Int) 9223372036854775808 = (z : Int)) (ho : bits BinOp.or IntKind.u64 (z : Int) 4607182418800017408 = (o : Int)) :
    Calls Tryd.prog 84 #[.float .f64 b] w fun e w' => e = .returned (.float .f64 o) ∧ w = w' := by
  go_enter Tryd.func84, Tryd.ntmps84
  go_wp2
  go_ret
  exact ⟨by simp, rfl⟩
set_option maxRecDepth 100000 in
set_option maxHeartbeats 400000 in
theorem round_mid (b E o : Nat) (w : World) (he : bits BinOp.and IntKind.u64 ((b : Int) / 4503599627370496) 2047 = (E : Int)) (h1 : 1023 ≤ E) (h2 : E < 1075)
    (ho : bits BinOp.andNot IntKind.u64 (IntKind.u64.wrap ((b : Int) + 2251799813685248 / 2 ^ (E - 1023))) (4503599627370495 / 2 ^ (E - 1023)) = (o : Int)) :
    Calls Tryd.prog 84 #[.float .f64 b] w fun e w' => e = .returned (.float .f64 o) ∧ w = w' := by
  go_enter Tryd.func84, Tryd.ntmps84
  go_wp2
  go_ret
  exact ⟨by simp, rfl⟩
set_option maxRecDepth 100000 in
set_option maxHeartbeats 400000 in
theorem round_hi (b E : Nat) (w : World) (he : bits BinOp.and IntKind.u64 ((b : Int) / 4503599627370496) 2047 = (E : Int)) (h2 : 1075 ≤ E) :
    Calls Tryd.prog 84 #[.float .f64 b] w fun e w' => e = .returned (.float .f64 b) ∧ w = w' := by
  go_enter Tryd.func84, Tryd.ntmps84
  go_wp2
  go_ret
  exact ⟨rfl, rfl⟩
theorem ret_flt {k : FloatKind} {a b : Nat} (h : a = b) : Ending.returned (.float k a) = .returned (.float k b) := by rw [h]
/-- math.Round, at every word. -/
theorem round_word (s : Bool) (r : Nat) (w : World) (hr : r < 2 ^ 63) :
    Calls Tryd.prog 84 #[.float .f64 (Ieee.double.word s r)] w fun e w' => e = .returned (.float .f64 (Ieee.double.word s (Flt.rndRung r))) ∧ w = w' := by
  have he := Flt.bit_exp s r hr
  by_cases h1 : r / 2 ^ 52 < 1022
  · have e1 : Flt.rndRung r = 0 := by unfold Flt.rndRung; rw [if_pos h1]
    rw [e1]
    exact round_lo _ _ _ w he h1 (by simp; omega) (Flt.bit_sign s r hr)
  · by_cases h2 : r / 2 ^ 52 = 1022
    · have e1 : Flt.rndRung r = 1023 * 2 ^ 52 := by unfold Flt.rndRung; rw [if_neg h1, if_pos h2]
      rw [e1]
      rw [h2] at he
      exact round_half _ _ _ w he (Flt.bit_sign s r hr) (Flt.bit_one s)
    · by_cases h3 : r / 2 ^ 52 < 1075
      · exact round_mid _ _ _ w he (by omega) h3 (Flt.bit_mid s r hr (by omega) h3)
      · have e1 : Flt.rndRung r = r := by unfold Flt.rndRung; rw [if_neg h1, if_neg h2, if_neg h3]
        rw [e1]
        exact round_hi _ _ w he (by omega)
/-- math.Abs, at every word. -/
theorem abs_word (s : Bool) (r : Nat) (w : World) (hr : r < 2 ^ 63) :
    Calls Tryd.prog 86 #[.float .f64 (Ieee.double.word s r)] w fun e w' => e = .returned (.float .f64 r) ∧ w = w' := by
  have hb := Flt.bit_abs s r hr
  generalize Ieee.double.word s r = b at hb ⊢
  clear hr
  go_enter Tryd.func86, Tryd.ntmps86
  go_wp2
  go_ret
  exact ⟨by simp, rfl⟩
end Go.Proofs.YtfoggbcfkniimaaDoor
