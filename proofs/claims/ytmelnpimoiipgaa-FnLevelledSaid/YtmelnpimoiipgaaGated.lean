/-
  What is proved: the walks of the program's Transmit and Echo, up to what the effect does that stands between the checks.
  Conditions: the samples can be read.
-/
import Derived.Test.YtmelnpimoiipgaaOn
import Derived.Test.YtmelnpimoiipgaaChanOk
namespace Go.Proofs.Ytmelnpimoiipgaa
set_option linter.unusedVariables false
open Go.RowKit
attribute [local go_sem] run_store_float run_store_complex unary_negf neg256

theorem run_store_fn (P : Program) (w : World) (a : Addr) (m : Mode) (fn : Fn) (first captured : Array Value) : (store a (.func fn first captured) m).run P w = stored P w a (.func fn first captured) m := run_store P w a _ m rfl
attribute [local go_sem] run_store_fn
set_option maxRecDepth 100000 in
theorem checked_any (T : TypeId) (ev : Value) (w : World) :
    Calls Try.prog 72 #[.iface T ev] w fun e w' => e = .returned (.iface 122 (.agg #[.iface 122 (.agg #[.iface 120 (.agg #[.func (.func 99) #[] #[]]), .iface T ev]), .iface 120 (.agg #[.func (.func 99) #[] #[]])])) ∧ Below w.heap.size w w' := by
  have hb0 := (Below.refl w.heap.size w).alloc (Nat.le_refl _) (.cells #[.func (.func 99) #[] #[]] 120)
  go_enter Try.func72, Try.ntmps72
  go_wp2
  go_ret
  exact ⟨rfl, hb0⟩
theorem aheadChain (v : Value) (w : World) : (nilAhead 234 122 v "loop.example/g03326/impl.on").run Try.prog w = .ok (some false) w := by kernel_rfl
set_option maxHeartbeats 1000000 in
set_option maxRecDepth 100000 in
theorem transmitBy_any (E : List Nat → Bool → Prop) (A O X Y : Nat) (v : Value) (xs : List Nat) (w : World) (h : FRow w v xs) (hl : xs.length ≤ 4000000) (hlE : ∀ ys ok, E ys ok → ys.length ≤ 4000000)
    (HE : sampOk xs = true → ∀ W, FRow W v xs → Hid (Calls Try.prog 140 #[.agg #[.float .f32 A, .float .f32 O, .complex .f32 X Y], v] W fun e w' => OnB E W e w')) :
    Calls Try.prog 27 #[.agg #[.float .f32 A, .float .f32 O, .complex .f32 X Y], v] w fun e w' => OnB (OutR (InR E xs)) w e w' := by
  obtain ⟨a, c, rfl⟩ := h.lenv
  have hin : ∀ ys ok, InR E xs ys ok → ys.length ≤ 4000000 := by
    intro ys ok hi
    unfold InR at hi
    split at hi
    · exact hlE ys ok hi
    · rw [hi.1]; exact Nat.zero_le _
  have HO := fun W (hr : FRow W (.slice a xs.length c) xs) => Lib.hid (outer_any (InR E xs) (.agg #[.iface 120 (.agg #[.func (.func 99) #[] #[]]), .iface 101 (.agg #[.float .f32 A, .float .f32 O, .complex .f32 X Y])]) (.slice a xs.length c) xs W hr hin (fun W hr => Lib.hid (innerGain_any E A O X Y (.slice a xs.length c) xs W hr hl HE)))
  have hm := onChain (.agg #[.iface 122 (.agg #[.iface 120 (.agg #[.func (.func 99) #[] #[]]), .iface 101 (.agg #[.float .f32 A, .float .f32 O, .complex .f32 X Y])]), .iface 120 (.agg #[.func (.func 99) #[] #[]])])
  have hb0 := (Below.refl w.heap.size w).alloc (Nat.le_refl _) (.cells #[.float .f32 A, .float .f32 O, .complex .f32 X Y] 35)
  obtain ⟨c0, c1, c2, _, _, _⟩ := (LieC.new w A O X Y).all
  have HR := Lib.hid (h.below hb0)
  clear h HE hlE hin
  go_enter Try.func27, Try.ntmps27
  go_wp2_with fail
  generalize w.alloc (.cells #[.float .f32 A, .float .f32 O, .complex .f32 X Y] 35) = wA at *
  refine (checked_any _ _ _).mono ?_
  rintro e w1 ⟨rfl, hb1⟩
  have HR1 := Lib.hid (HR.out.below hb1)
  have hb1 := below_trans hb0 hb1 hb0.size
  clear c0 c1 c2
  go_wp2_with fail
  refine (HO _ HR1.out).out.mono ?_
  rintro e w2 ⟨v2, ys, ok, rfl, ho, hn, hb2⟩
  have HN := Lib.hid (And.intro ho (hn.mono hb1.size))
  have hb02 := below_trans hb1 hb2 hb1.size
  clear ho hn hm HO
  go_wp2
  go_ret2
  exact ⟨v2, ys, ok, rfl, HN.out.1, HN.out.2, hb02⟩
end Go.Proofs.Ytmelnpimoiipgaa
