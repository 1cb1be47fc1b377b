/-
  What is proved: there is one answer of two lines alone.
  Conditions: none.
-/
import Derived.Test.YtgecclccmmcdoaaPairD
namespace Go.Proofs.Ytgecclccmmcdoaa
set_option linter.unusedVariables false
open Go.RowKit

theorem pair_fix (xs ys : List Nat) : ∃ (LL : List (List C3)) (okk : Bool), (LL.length ≤ 2 ∧ (∀ r ∈ LL, r.length ≤ 64 ∧ NumL r) ∧ csum LL ≤ 128 ∧ ∀ k, k < LL.length → 2 * csum (LL.take k) ≤ 128) ∧ ∀ rows ok, PairR xs ys rows ok → ok = okk ∧ rows = LL := by
  by_cases h : ∃ rows ok, PairR xs ys rows ok
  · obtain ⟨rows, ok, h⟩ := h
    exact ⟨rows, ok, h.ok, fun r o h' => h'.same h⟩
  · exact ⟨[], false, ⟨Nat.zero_le _, (fun r hr => by cases hr), Nat.zero_le _, fun k hk => absurd hk (Nat.not_lt_zero _)⟩, fun r o h' => absurd ⟨r, o, h'⟩ h⟩
theorem pair_got {xs ys : List Nat} {LL : List (List C3)} {okk : Bool} (hf : ∀ rows ok, PairR xs ys rows ok → ok = okk ∧ rows = LL) {k : FuncId} {args : Array Value} {w : World} (h : Calls Try.prog k args w fun e w' => PairA xs ys w e w') :
    Calls Try.prog k args w fun e w' => ∃ v ss, e = .returned (.tuple #[v, .bool okk]) ∧ GridN w' w.heap.size v LL ss ∧ Below w.heap.size w w' :=
  h.mono fun e w' ⟨v, rows, ss, ok, h1, h2, h3, h4⟩ => by
    obtain ⟨rfl, rfl⟩ := hf rows ok h2
    exact ⟨v, ss, h1, h3, h4⟩
end Go.Proofs.Ytgecclccmmcdoaa
