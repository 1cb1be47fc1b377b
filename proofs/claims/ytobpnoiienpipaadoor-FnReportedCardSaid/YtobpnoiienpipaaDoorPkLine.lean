/-
  What is proved: the walks of LineOk, the program's and the model's.
  Conditions: the list can be read, and has at most 4000000 numbers.
-/
import Derived.Test.YtobpnoiienpipaaDoorFRow
namespace Go.Proofs.YtobpnoiienpipaaDoor
set_option linter.unusedVariables false
open Go.RowKit
theorem neg1024 : Op.negFloat .f32 1149239296 = 3296722944 := by decide
attribute [local go_sem] run_store_float run_store_complex unary_negf neg256 neg1024

def lo1 (x : Nat) : Bool := Ieee.single.order 3296722944 x == some .lt || Ieee.single.order 3296722944 x == some .eq
def hi1 (x : Nat) : Bool := Ieee.single.order x 1149239296 == some .lt || Ieee.single.order x 1149239296 == some .eq
/-- Has a sample an amount of at most MaxSample? -/
def fin1 (x : Nat) : Bool := lo1 x && hi1 x
theorem geq_lo1 (x : Nat) : (FloatKind.f32.format.order x 3296722944 == some .gt || FloatKind.f32.format.order x 3296722944 == some .eq) = lo1 x := by
  obtain ⟨h1, h2⟩ := dorder_swap (Ieee.single.read x) (Ieee.single.read 3296722944)
  show (Ieee.single.order x 3296722944 == some .gt || Ieee.single.order x 3296722944 == some .eq) = _
  unfold lo1 Ieee.Format.order
  rw [h1, h2]
theorem leq_lo1 (x : Nat) : (FloatKind.f32.format.order 3296722944 x == some .lt || FloatKind.f32.format.order 3296722944 x == some .eq) = lo1 x := rfl
theorem leq_hi1 (x : Nat) : (FloatKind.f32.format.order x 1149239296 == some .lt || FloatKind.f32.format.order x 1149239296 == some .eq) = hi1 x := rfl
attribute [local go_sem] geq_lo1 leq_lo1 leq_hi1
def lineLen (n : Nat) : Bool := decide (n % 4 = 0) && (decide (28 ≤ n) && decide (n ≤ 280))
/-- Is a list a valid line? -/
def lineOk (xs : List Nat) : Bool := lineLen xs.length && xs.all fin1

theorem within1_any (x : Nat) (w : World) :
    Calls Tryd.prog 48 #[.float .f32 x, .float .f32 1149239296] w fun e w' => e = .returned (.bool (fin1 x)) ∧ w = w' := by
  unfold fin1
  cases h : lo1 x
  · go_enter Tryd.func48, Tryd.ntmps48
    go_wp2
    go_ret
    exact ⟨rfl, rfl⟩
  · go_enter Tryd.func48, Tryd.ntmps48
    go_wp2
    go_ret
    exact ⟨rfl, rfl⟩



theorem lineLen_no {n : Nat} (h : ¬(n % 4 = 0 ∧ 28 ≤ n ∧ n ≤ 280)) : lineLen n = false := by
  unfold lineLen
  cases h1 : decide (n % 4 = 0) && (decide (28 ≤ n) && decide (n ≤ 280))
  · rfl
  · simp at h1; exact absurd h1 h
theorem lineLen_yes {n : Nat} (h : n % 4 = 0 ∧ 28 ≤ n ∧ n ≤ 280) : lineLen n = true := by
  unfold lineLen
  rw [decide_eq_true h.1, decide_eq_true h.2.1, decide_eq_true h.2.2]; rfl
theorem lineLen_iff {n : Nat} : lineLen n = true ↔ n % 4 = 0 ∧ 28 ≤ n ∧ n ≤ 280 := by
  constructor
  · intro h
    by_cases h1 : n % 4 = 0 ∧ 28 ≤ n ∧ n ≤ 280
    · exact h1
    · rw [lineLen_no h1] at h; cases h
  · exact lineLen_yes
theorem lineOk_no {xs : List Nat} (h : lineLen xs.length = false) : lineOk xs = false := by unfold lineOk; rw [h]; rfl
theorem lineOk_yes {xs : List Nat} (h : lineLen xs.length = true) : lineOk xs = xs.all fin1 := by unfold lineOk; rw [h]; rfl
theorem lineOk_len {xs : List Nat} (h : lineOk xs = true) : xs.length % 4 = 0 ∧ 28 ≤ xs.length ∧ xs.length ≤ 280 := by
  cases h1 : lineLen xs.length with
  | true => exact lineLen_iff.1 h1
  | false => rw [lineOk_no h1] at h; cases h
theorem lineOk_all {xs : List Nat} (h : lineOk xs = true) : ∀ x ∈ xs, fin1 x = true := by
  have h1 : xs.all fin1 = true := by
    cases h1 : lineLen xs.length with
    | true => rw [lineOk_yes h1] at h; exact h
    | false => rw [lineOk_no h1] at h; cases h
  exact List.all_eq_true.1 h1

end Go.Proofs.YtobpnoiienpipaaDoor
