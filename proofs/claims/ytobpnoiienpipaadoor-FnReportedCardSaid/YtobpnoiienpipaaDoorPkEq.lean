/-
  What is proved: the laws' comparing of single floats that are alike answers true, NaN among them.
  Conditions: those that each fact names.
-/
import Derived.Test.YtobpnoiienpipaaDoorFRow
namespace Go.Proofs.YtobpnoiienpipaaDoor
set_option linter.unusedVariables false
open Go.RowKit
attribute [local go_sem] run_store_float run_store_complex unary_negf neg256

set_option maxHeartbeats 400000 in
theorem sameFloat_self (a : Nat) (w : World) (ha : (Ieee.double.read a).isNaN = false) :
    Calls Tryd.prog 65 #[.float .f64 a, .float .f64 a] w fun e w' => e = .returned (.bool true) ∧ w = w' := by
  have hs : (FloatKind.f64.format.order a a) = some .eq := Flt.order_self ha
  cases hz : FloatKind.f64.format.order a 0 == some .eq
  · clear ha
    go_enter Tryd.func65, Tryd.ntmps65
    go_wp2
    go_ret
    exact ⟨rfl, rfl⟩
  · obtain ⟨s, i, he⟩ := Flt.eq_zero rd0 (eq_of_beq hz)
    obtain ⟨r, hr⟩ := Flt.div_zero rd1 (by decide) he
    have hd := fun wx => run_float_arith (P := Tryd.prog) wx .quo 76 .f64 _ _ r (show floatBits .quo .f64 _ _ = _ from hr)
    clear he hr ha
    go_enter Tryd.func65, Tryd.ntmps65
    go_wp2
    go_ret
    exact ⟨by simp, rfl⟩
theorem sameFloat_nan (a b : Nat) (w : World) (ha : (Ieee.double.read a).isNaN = true) (hb : (Ieee.double.read b).isNaN = true) :
    Calls Tryd.prog 65 #[.float .f64 a, .float .f64 b] w fun e w' => e = .returned (.bool true) ∧ w = w' := by
  have h1 : (FloatKind.f64.format.order a a) = none := Flt.order_nan (.inl ha)
  have h2 : (FloatKind.f64.format.order b b) = none := Flt.order_nan (.inl hb)
  clear ha hb
  go_enter Tryd.func65, Tryd.ntmps65
  go_wp2
  go_ret
  exact ⟨rfl, rfl⟩
theorem same64_nan (a b : Nat) (w : World) (ha : (Ieee.double.read a).isNaN = true) (hb : (Ieee.double.read b).isNaN = true) :
    Calls Tryd.prog 75 #[.float .f64 a, .float .f64 b] w fun e w' => e = .returned (.bool true) ∧ w = w' := by
  have h1 : (FloatKind.f64.format.order a a) = none := Flt.order_nan (.inl ha)
  have h2 : (FloatKind.f64.format.order b b) = none := Flt.order_nan (.inl hb)
  clear ha hb
  go_enter Tryd.func75, Tryd.ntmps75
  go_wp2
  go_ret
  exact ⟨rfl, rfl⟩
theorem same32_sm (x y : Nat) (w : World) (h : Sm x y) :
    Calls Tryd.prog 50 #[.float .f32 x, .float .f32 y] w fun e w' => e = .returned (.bool true) ∧ ∃ n, w' = w.drewN n := by
  rcases conv_any x with ⟨r, hn, hx, hc⟩ | ⟨hx, hc⟩
  · have e : x = y := h.elim id fun h => by rw [hx] at h; exact absurd h.1 (by decide)
    subst e
    have HS := fun W => Lib.hid (same64_self r W hn)
    clear hn h hx
    go_enter Tryd.func50, Tryd.ntmps50
    go_wp2_with fail
    refine (HS _).out.mono ?_
    rintro e w1 ⟨rfl, rfl⟩
    go_wp2
    go_ret
    exact ⟨rfl, 0, rfl⟩
  · have hy : isN y = true := h.elim (fun e => by rw [← e]; exact hx) fun h => h.2
    rcases conv_any y with ⟨_, _, hy', _⟩ | ⟨_, hc'⟩
    · rw [hy] at hy'; cases hy'
    · obtain ⟨r1, hn1, hc1⟩ := hc w
      obtain ⟨r2, hn2, hc2⟩ := hc' (w.drewN 1)
      have HS := fun W => Lib.hid (same64_nan r1 r2 W hn1 hn2)
      clear hn1 hn2 h hx hy hc hc'
      go_enter Tryd.func50, Tryd.ntmps50
      go_wp2_with fail
      refine (HS _).out.mono ?_
      rintro e w1 ⟨rfl, rfl⟩
      go_wp2
      go_ret
      exact ⟨rfl, 2, rfl⟩

theorem drewN_add (w : World) (a b : Nat) : (w.drewN a).drewN b = w.drewN (a + b) := by simp [World.drewN, Nat.add_assoc]
theorem qt_ex {P : Program} {f : FuncId} {args : Array Value} {w : World} {a n : Nat} {v : Value} (h : Calls P f args (w.drewN (a + n)) fun e w' => e = .returned v ∧ ∃ m, w' = (w.drewN (a + n)).drewN m) :
    Calls P f args (w.drewN (a + n)) fun e w'' => e = .returned v ∧ ∃ m, w'' = w.drewN (a + m) := h.mono fun _ _ hh => ⟨hh.1, hh.2.elim fun m e => ⟨n + m, by rw [e, drewN_add, Nat.add_assoc]⟩⟩
theorem qt_ex1 {P : Program} {f : FuncId} {args : Array Value} {w : World} {n : Nat} {v : Value} (h : Calls P f args (w.drewN n) fun e w' => e = .returned v ∧ ∃ m, w' = (w.drewN n).drewN m) :
    Calls P f args (w.drewN n) fun e w'' => e = .returned v ∧ ∃ m, w'' = w.drewN m := h.mono fun _ _ hh => ⟨hh.1, hh.2.elim fun m e => ⟨n + m, by rw [e, drewN_add]⟩⟩
/-- The lists are as long as each other, and the same place for place. -/
def SmL (xs ys : List Nat) : Prop := xs.length = ys.length ∧ ∀ i (h : i < xs.length) (h' : i < ys.length), Sm xs[i] ys[i]
theorem SmL.refl (xs : List Nat) : SmL xs xs := ⟨rfl, fun i h h' => Sm.refl _⟩
end Go.Proofs.YtobpnoiienpipaaDoor
