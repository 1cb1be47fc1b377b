/-
  What is proved: the walks of Brightness and Colouring.
  Conditions: the list can be read; at most 4000000 numbers.
-/
import Derived.Test.YtgecclccmmcdoaaPlain
import Derived.Test.YtgecclccmmcdoaaPkGEq
namespace Go.Proofs.Ytgecclccmmcdoaa
set_option linter.unusedVariables false
open Go.RowKit
attribute [local go_sem] run_store_float run_store_complex unary_negf neg256

/-- Each sample replaced by its cell's brightness. -/
def spread (cs : List C3) : List Nat := cs.flatMap fun c => [c.1, c.1, c.1, c.1]
theorem spread_len (cs : List C3) : (spread cs).length = 4 * cs.length := by
  induction cs with
  | nil => rfl
  | cons c cs ih => simp only [spread, List.flatMap_cons, List.length_append, List.length_cons, List.length_nil] at ih ⊢; omega
theorem spread_get : ∀ (cs : List C3) (i : Nat) (h : i < (spread cs).length) (h' : i / 4 < cs.length), (spread cs)[i] = cs[i / 4].1
  | [], i, h, _ => by simp [spread] at h
  | c :: cs, i, h, h' => by
    have e : spread (c :: cs) = c.1 :: c.1 :: c.1 :: c.1 :: spread cs := by simp [spread]
    have h2 := h
    rw [e] at h2
    rw [List.getElem_of_eq e h]
    by_cases h4 : i < 4
    · have : i = 0 ∨ i = 1 ∨ i = 2 ∨ i = 3 := by omega
      rcases this with rfl | rfl | rfl | rfl <;> rfl
    · obtain ⟨j, rfl⟩ : ∃ j, i = j + 4 := ⟨i - 4, by omega⟩
      have hj : j < (spread cs).length := by simp only [List.length_cons] at h2; omega
      have hj' : j / 4 < cs.length := by rw [spread_len] at hj; omega
      have := spread_get cs j hj hj'
      show (spread cs)[j] = _
      rw [this]
      have e4 : (j + 4) / 4 = j / 4 + 1 := by omega
      simp [e4]
/-- What Brightness may answer. -/
def BrightR (xs ys : List Nat) (ok : Bool) : Prop := ∃ cs, (xs.length % 4 = 0 → DecL xs cs) ∧ (xs.length % 4 ≠ 0 → cs = []) ∧ ok = rok cs ∧ ys = if rok cs = true then spread cs else []
def AnsB (R : List Nat → Bool → Prop) (w : World) (e : Ending) (w' : World) : Prop := ∃ v ys ok, e = .returned (.tuple #[v, .bool ok]) ∧ R ys ok ∧ FNew w' w.heap.size v ys ∧ Below w.heap.size w w'
theorem AnsB.mk {R : List Nat → Bool → Prop} {w w' : World} {v : Value} {ys : List Nat} {ok : Bool} (hr : R ys ok) (h : FNew w' w.heap.size v ys) (hb : Below w.heap.size w w') : AnsB R w (.returned (.tuple #[v, .bool ok])) w' := ⟨v, ys, ok, rfl, hr, h, hb⟩
/-- What Colouring may answer. -/
def ColourR (xs ys : List Nat) (ok : Bool) : Prop := ∃ bs, BrightR xs bs ok ∧ if ok = true then ys.length = xs.length ∧ ResL .sub xs bs ys else ys = []
theorem BrightR.len {xs ys : List Nat} (h : BrightR xs ys true) : ys.length = xs.length := by
  obtain ⟨cs, h1, h2, h3, h4⟩ := h
  rw [← h3, if_pos rfl] at h4
  have hm4 : xs.length % 4 = 0 := by
    by_cases h : xs.length % 4 = 0
    · exact h
    · rw [h2 h] at h3; cases h3
  rw [h4, spread_len, (h1 hm4).1]
end Go.Proofs.Ytgecclccmmcdoaa
