/-
  What is proved: the walk of the law FnDelayed.
  Conditions: none beyond the argument's own.
-/
import Derived.Test.YtgecclccmmcdoaaDrawF32
import Derived.Test.YtgecclccmmcdoaaPkEq
import Derived.Test.YtgecclccmmcdoaaDelay
namespace Go.Proofs.Ytgecclccmmcdoaa
set_option linter.unusedVariables false
open Go.RowKit
attribute [local go_sem] run_store_float run_store_complex unary_negf neg256

theorem delayed_zero0 (xs : List Nat) : delayed xs 0 = xs := by
  refine List.ext_getElem (delayed_len _ _) fun i h1 h2 => ?_
  rw [delayed_get, if_neg (by omega), List.getD_eq_getElem?_getD, Nat.mul_zero, Nat.sub_zero, List.getElem?_eq_getElem h2]; rfl
theorem delayed_twice (xs : List Nat) (a b : Nat) : delayed (delayed xs a) b = delayed xs (a + b) := by
  refine List.ext_getElem (by rw [delayed_len, delayed_len, delayed_len]) fun i h1 h2 => ?_
  rw [delayed_get, delayed_get]
  rw [delayed_len, delayed_len] at h1
  by_cases hb : i < 4 * b
  · rw [if_pos hb, if_pos (by omega)]
  · rw [if_neg hb, List.getD_eq_getElem?_getD, List.getElem?_eq_getElem (by rw [delayed_len]; omega), delayed_get]
    by_cases ha : i - 4 * b < 4 * a
    · rw [if_pos ha, if_pos (by omega)]; rfl
    · rw [if_neg ha, if_neg (by omega)]
      show xs.getD _ 0 = _
      congr 1
      omega
def DrawDl (w : World) (e : Ending) (w' : World) : Prop := ∃ v xs n, xs.length ≤ 5000 ∧ I64 n ∧ e = .returned (.tuple #[v, .int .i64 n]) ∧ FRow w' v xs ∧ Below w.heap.size w w'
theorem DrawDl.mk {w w' : World} {v : Value} {xs : List Nat} {n : Int} (hl : xs.length ≤ 5000) (hn : I64 n) (hr : FRow w' v xs) (hb : Below w.heap.size w w') : DrawDl w (.returned (.tuple #[v, .int .i64 n])) w' := ⟨v, xs, n, hl, hn, rfl, hr, hb⟩
theorem samp_far {w w' : World} {base g n cap b : Nat} {xs : List Nat} (h : OwnF w base (.slice (some ⟨g, 0, none⟩) n cap) xs) (hg : w.grownBy w' (some b)) (hb : b < base) : OwnF w' base (.slice (some ⟨g, 0, none⟩) n cap) xs :=
  h.kept hg (.inr (by intro e; have h1 : g = b := Option.some.inj e; have := (h.lt g rfl).1; omega))
theorem delayOk_no {n : Int} (h : delayOk n = false) : n < 0 ∨ 64 < n := by unfold delayOk at h; simp at h; omega
theorem delayOk_yes {n : Int} (h : delayOk n = true) : 0 ≤ n ∧ n ≤ 64 := by unfold delayOk at h; simp at h; omega
end Go.Proofs.Ytgecclccmmcdoaa
