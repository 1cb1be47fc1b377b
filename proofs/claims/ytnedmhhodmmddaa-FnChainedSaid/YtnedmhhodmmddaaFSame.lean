/-
  What is proved: the laws' comparing of single floats that are alike answers true, NaN among them.
  Conditions: those that each fact names.
-/
import Derived.Test.YtnedmhhodmmddaaFRow
namespace Go.Proofs.Ytnedmhhodmmddaa
set_option linter.unusedVariables false
open Go.RowKit
attribute [local go_sem] run_store_float run_store_complex unary_negf neg256

set_option maxHeartbeats 400000 in
theorem sameFloat_self (a : Nat) (w : World) (ha : (Ieee.double.read a).isNaN = false) :
    Calls Try.prog 53 #[.float .f64 a, .float .f64 a] w fun e w' => e = .returned (.bool true) ∧ w = w' := by
  have hs : (FloatKind.f64.format.order a a) = some .eq := Flt.order_self ha
  cases hz : FloatKind.f64.format.order a 0 == some .eq
  · clear ha
    go_enter Try.func53, Try.ntmps53
    go_wp2
    go_ret
    exact ⟨rfl, rfl⟩
  · obtain ⟨s, i, he⟩ := Flt.eq_zero rd0 (eq_of_beq hz)
    obtain ⟨r, hr⟩ := Flt.div_zero rd1 (by decide) he
    have hd := fun wx => run_float_arith (P := Try.prog) wx .quo 84 .f64 _ _ r (show floatBits .quo .f64 _ _ = _ from hr)
    clear he hr ha
    go_enter Try.func53, Try.ntmps53
    go_wp2
    go_ret
    exact ⟨by simp, rfl⟩
theorem sameFloat_nan (a b : Nat) (w : World) (ha : (Ieee.double.read a).isNaN = true) (hb : (Ieee.double.read b).isNaN = true) :
    Calls Try.prog 53 #[.float .f64 a, .float .f64 b] w fun e w' => e = .returned (.bool true) ∧ w = w' := by
  have h1 : (FloatKind.f64.format.order a a) = none := Flt.order_nan (.inl ha)
  have h2 : (FloatKind.f64.format.order b b) = none := Flt.order_nan (.inl hb)
  clear ha hb
  go_enter Try.func53, Try.ntmps53
  go_wp2
  go_ret
  exact ⟨rfl, rfl⟩

theorem drewN_add (w : World) (a b : Nat) : (w.drewN a).drewN b = w.drewN (a + b) := by simp [World.drewN, Nat.add_assoc]
theorem qt_ex {P : Program} {f : FuncId} {args : Array Value} {w : World} {a n : Nat} {v : Value} (h : Calls P f args (w.drewN (a + n)) fun e w' => e = .returned v ∧ ∃ m, w' = (w.drewN (a + n)).drewN m) :
    Calls P f args (w.drewN (a + n)) fun e w'' => e = .returned v ∧ ∃ m, w'' = w.drewN (a + m) := h.mono fun _ _ hh => ⟨hh.1, hh.2.elim fun m e => ⟨n + m, by rw [e, drewN_add, Nat.add_assoc]⟩⟩
theorem qt_ex1 {P : Program} {f : FuncId} {args : Array Value} {w : World} {n : Nat} {v : Value} (h : Calls P f args (w.drewN n) fun e w' => e = .returned v ∧ ∃ m, w' = (w.drewN n).drewN m) :
    Calls P f args (w.drewN n) fun e w'' => e = .returned v ∧ ∃ m, w'' = w.drewN m := h.mono fun _ _ hh => ⟨hh.1, hh.2.elim fun m e => ⟨n + m, by rw [e, drewN_add]⟩⟩
/-- The lists are as long as each other, and the same place for place. -/
def SmL (xs ys : List Nat) : Prop := xs.length = ys.length ∧ ∀ i (h : i < xs.length) (h' : i < ys.length), Sm xs[i] ys[i]
theorem SmL.refl (xs : List Nat) : SmL xs xs := ⟨rfl, fun i h h' => Sm.refl _⟩
end Go.Proofs.Ytnedmhhodmmddaa
