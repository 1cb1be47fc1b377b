/-
  What is proved: the closure that makes the one colour of two lines.
  Conditions: the parts of both colours are finite.
-/
import Derived.Test.YtgecclccmmcdoaaMean
import Derived.Test.YtgecclccmmcdoaaPkDec
namespace Go.Proofs.Ytgecclccmmcdoaa
set_option linter.unusedVariables false
open Go.RowKit
attribute [local go_sem] run_store_float run_store_complex unary_negf neg256

/-- The colour of two lines that swing so. -/
def sh (n : Int) (p q : Nat × Nat) : Nat × Nat :=
  if n = 1 then (Flt.half p.1 q.1, Flt.half p.2 (Op.negFloat .f32 q.2)) else if n = -1 then (Flt.half p.1 q.1, Flt.half (Op.negFloat .f32 p.2) q.2) else (0, 0)
theorem conjP_any (u v : Nat) (w : World) :
    Calls Try.prog 104 #[.complex .f32 u v] w fun e w' => e = .returned (.complex .f32 u (Op.negFloat .f32 v)) ∧ w = w' := by
  go_enter Try.func104, Try.ntmps104
  go_wp2
  go_ret
  exact ⟨rfl, rfl⟩
/-- A function that makes the colour. -/
def MixF (k : FuncId) (n : Int) : Prop := ∀ (u v u' v' : Nat) (W : World), Flt.fin u = true → Flt.fin v = true → Flt.fin u' = true → Flt.fin v' = true → v < 2 ^ 32 → v' < 2 ^ 32 →
  Calls Try.prog k #[.complex .f32 u v, .complex .f32 u' v'] W fun e w' => e = .returned (.complex .f32 (sh n (u, v) (u', v')).1 (sh n (u, v) (u', v')).2) ∧ W = w'
theorem MixF.at {k : FuncId} {n : Int} (h : MixF k n) (c d : Nat × Nat × Nat) (W : World) (h1 : Flt.fin c.2.1 = true) (h2 : Flt.fin c.2.2 = true) (h3 : Flt.fin d.2.1 = true) (h4 : Flt.fin d.2.2 = true) (h5 : c.2.2 < 2 ^ 32) (h6 : d.2.2 < 2 ^ 32) :
    Calls Try.prog k #[.complex .f32 c.2.1 c.2.2, .complex .f32 d.2.1 d.2.2] W fun e w' => e = .returned (.complex .f32 (sh n c.2 d.2).1 (sh n c.2 d.2).2) ∧ W = w' := h _ _ _ _ W h1 h2 h3 h4 h5 h6
theorem mix_one : MixF 102 1 := by
  intro u v u' v' W h1 h2 h3 h4 h5 h6
  have HC := Lib.hid (conjP_any u' v' W)
  have HH := fun W => Lib.hid (halfColour_any u v u' (Op.negFloat .f32 v') W h1 h2 h3 (Flt.fin_neg h6 h4))
  clear h1 h2 h3 h4 h5 h6
  go_enter Try.func102, Try.ntmps102
  go_wp2_with fail
  refine HC.out.mono ?_
  rintro e w1 ⟨rfl, rfl⟩
  go_wp2_with fail
  refine (HH _).out.mono ?_
  rintro e w1 ⟨rfl, rfl⟩
  go_wp2
  go_ret
  exact ⟨rfl, rfl⟩
theorem mix_less : MixF 105 (-1) := by
  intro u v u' v' W h1 h2 h3 h4 h5 h6
  have HC := Lib.hid (conjP_any u v W)
  have HH := fun W => Lib.hid (halfColour_any u (Op.negFloat .f32 v) u' v' W h1 (Flt.fin_neg h5 h2) h3 h4)
  clear h1 h2 h3 h4 h5 h6
  go_enter Try.func105, Try.ntmps105
  go_wp2_with fail
  refine HC.out.mono ?_
  rintro e w1 ⟨rfl, rfl⟩
  go_wp2_with fail
  refine (HH _).out.mono ?_
  rintro e w1 ⟨rfl, rfl⟩
  go_wp2
  go_ret
  exact ⟨rfl, rfl⟩
theorem mix_no (n : Int) (h1 : n ≠ 1) (h2 : n ≠ -1) : MixF 106 n := by
  intro u v u' v' W _ _ _ _ _ _
  have HS := Lib.hid (show sh n (u, v) (u', v') = (0, 0) by unfold sh; rw [if_neg h1, if_neg h2])
  clear h1 h2
  go_enter Try.func106, Try.ntmps106
  go_wp2
  go_ret
  exact ⟨by rw [HS.out]; rfl, rfl⟩
def MixPost (n : Int) (w : World) (e : Ending) (w' : World) : Prop := ∃ k : FuncId, (k = 102 ∨ k = 105 ∨ k = 106) ∧ e = .returned (.func (.func k) #[] #[]) ∧ MixF k n ∧ w = w'
theorem shared_any (n : Int) (w : World) :
    Calls Try.prog 58 #[.int .i64 n] w fun e w' => MixPost n w e w' := by
  by_cases h1 : n = 1
  · subst h1
    go_enter Try.func58, Try.ntmps58
    go_wp2
    go_ret
    exact ⟨_, .inl rfl, rfl, mix_one, rfl⟩
  · have d1 : decide (n = 1) = false := decide_eq_false h1
    by_cases h2 : n = -1
    · subst h2
      go_enter Try.func58, Try.ntmps58
      go_wp2
      go_ret
      exact ⟨_, .inr (.inl rfl), rfl, mix_less, rfl⟩
    · have d2 : decide (n = -1) = false := decide_eq_false h2
      have HN := Lib.hid (mix_no n h1 h2)
      go_enter Try.func58, Try.ntmps58
      go_wp2
      go_ret
      exact ⟨_, .inr (.inr rfl), rfl, HN.out, rfl⟩
end Go.Proofs.Ytgecclccmmcdoaa
