/-
  What is proved: the law's comparing of floats, colours and rows that are alike answers true.
  Conditions: no number is NaN or above 256.
-/
import Derived.Test.YtjccnmnhgahlfaaRowOk
namespace Go.Proofs.Ytjccnmnhgahlfaa
set_option linter.unusedVariables false
open Go.RowKit

theorem qt_add {P : Program} {f : FuncId} {args : Array Value} {w : World} {a n : Nat} {v : Value} (h : Calls P f args (w.drewN (a + n)) fun e w' => e = .returned v ∧ w.drewN (a + n) = w') :
    Calls P f args (w.drewN (a + n)) fun e w'' => e = .returned v ∧ ∃ m, w'' = w.drewN (a + m) := h.mono fun _ _ hh => ⟨hh.1, n, hh.2.symm⟩
theorem qt_one {P : Program} {f : FuncId} {args : Array Value} {w : World} {n : Nat} {v : Value} (h : Calls P f args (w.drewN n) fun e w' => e = .returned v ∧ w.drewN n = w') :
    Calls P f args (w.drewN n) fun e w'' => e = .returned v ∧ ∃ m, w'' = w.drewN m := h.mono fun _ _ hh => ⟨hh.1, n, hh.2.symm⟩
theorem belowDN {B : Nat} {a w : World} (h : Below B a w) (n : Nat) : Below B a (w.drewN n) := ⟨h.os, h.tape, h.output, h.size, h.block⟩
theorem rd0 : Ieee.double.read 0 = .number false 0 (-1074) := by decide +kernel
theorem rd1 : Ieee.double.read 4607182418800017408 = .number false 4503599627370496 (-52) := by decide +kernel
set_option maxHeartbeats 400000 in
theorem same64_self (a : Nat) (w : World) (ha : (Ieee.double.read a).isNaN = false) :
    Calls Try.prog 66 #[.float .f64 a, .float .f64 a] w fun e w' => e = .returned (.bool true) ∧ w = w' := by
  have hs : (FloatKind.f64.format.order a a) = some .eq := Flt.order_self ha
  cases hz : FloatKind.f64.format.order a 0 == some .eq
  · have hz' : (FloatKind.f64.format.order a 0 != some .eq) = true := by unfold bne; rw [hz]; rfl
    go_enter Try.func66, Try.ntmps66
    go_wp2
    go_ret
    exact ⟨rfl, rfl⟩
  · obtain ⟨s, i, he⟩ := Flt.eq_zero rd0 (eq_of_beq hz)
    obtain ⟨r, hr⟩ := Flt.div_zero rd1 (by decide) he
    have hrn : (Ieee.double.read r).isNaN = false := by
      unfold Ieee.Format.div at hr
      rw [rd1, he] at hr
      simp only [Ieee.Datum.quotient, if_true, show (4503599627370496 : Nat) ≠ 0 by decide, if_false, Option.map_some, Option.some.injEq] at hr
      rw [← hr]
      cases s <;> decide +kernel
    have hrs : (FloatKind.f64.format.order r r) = some .eq := Flt.order_self hrn
    have hz' : (FloatKind.f64.format.order a 0 != some .eq) = false := by unfold bne; rw [hz]; rfl
    have hd := fun wx => run_float_arith (P := Try.prog) wx .quo 66 .f64 _ _ r (show floatBits .quo .f64 _ _ = _ from hr)
    clear he hr hrn
    go_enter Try.func66, Try.ntmps66
    go_wp2
    go_ret
    exact ⟨by simp, rfl⟩
theorem same32_self (x : Nat) (w : World) (hx : Flt.fin x = true) :
    Calls Try.prog 47 #[.float .f32 x, .float .f32 x] w fun e w' => e = .returned (.bool true) ∧ w = w' := by
  obtain ⟨r, hr, hn⟩ := Flt.conv_fin hx
  have HS := fun W => Lib.hid (same64_self r W hn)
  have hc := fun W => run_convert_float_float (P := Try.prog) W 52 66 .f32 .f64 x r (by kernel_rfl) Try.underlying66 hr
  clear hr hn hx
  go_enter Try.func47, Try.ntmps47
  go_wp2_with fail
  refine (HS _).out.mono ?_
  rintro e w1 ⟨rfl, rfl⟩
  go_wp2
  go_ret
  exact ⟨rfl, rfl⟩

end Go.Proofs.Ytjccnmnhgahlfaa
