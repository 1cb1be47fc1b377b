/-
  What is proved: the walks of PulseOf, BurstOf and CellsOf, the program's and the model's.
  Conditions: the list can be read, and has at most 4000000 numbers.
-/
import Derived.Test.YtobpnoiienpipaaDoorPkLine
namespace Go.Proofs.YtobpnoiienpipaaDoor
set_option linter.unusedVariables false
open Go.RowKit
attribute [local go_sem] run_store_float run_store_complex unary_negf neg256

/-- The samples of a list from place i on, m of them. -/
def part (xs : List Nat) (i m : Nat) : List Nat := (xs.drop i).take m
theorem part_len (xs : List Nat) (i m : Nat) (h : i + m ≤ xs.length) : (part xs i m).length = m := by simp [part]; omega
theorem part_get (xs : List Nat) (i m k : Nat) (h : k < (part xs i m).length) (h' : i + k < xs.length) : (part xs i m)[k] = xs[i + k] := by simp [part]
def GotF (ys : List Nat) (w : World) (e : Ending) (w' : World) : Prop := ∃ v', e = .returned v' ∧ FNew w' w.heap.size v' ys ∧ Below w.heap.size w w'
theorem GotF.mk {ys : List Nat} {w w' : World} {v' : Value} (h : FNew w' w.heap.size v' ys) (hb : Below w.heap.size w w') : GotF ys w (.returned v') w' := ⟨v', rfl, h, hb⟩
theorem GotF.own {ys : List Nat} {w w' : World} {g n cap : Nat} (hn : ys.length = n) (h : OwnF w' w.heap.size (.slice (some ⟨g, 0, none⟩) n cap) ys) (hb : Below w.heap.size w w') : GotF ys w (.returned (.slice (some ⟨g, 0, none⟩) n cap)) w' := ⟨_, rfl, h.new, hb⟩
theorem FRow.part {w : World} {xs : List Nat} {g o n cap : Nat} (h : FRow w (.slice (some ⟨g, o, none⟩) n cap) xs) (hn : xs.length = n) (i m c : Nat) (hi : i + m ≤ n) (hc : m ≤ c) (h0 : 0 < m) : FRow w (.slice (some ⟨g, o + i, none⟩) m c) (part xs i m) := by
  have hm := part_len xs i m (by omega)
  rcases h with ⟨⟨a, c', e⟩, h1⟩ | ⟨g', o', cap', e, hcap, hcell⟩
  · subst h1; simp at hn; omega
  · cases e
    refine .inr ⟨g, o + i, c, by rw [hm], by omega, fun k hk => ?_⟩
    rw [part_get xs i m k hk (by omega), Nat.add_assoc]
    exact hcell (i + k) (by omega)


/-- The part of a line that a walk answers: nothing, if the line is not valid. -/
def lpart (xs : List Nat) (i m : Nat) : List Nat := if lineOk xs = true then part xs i m else []
theorem lpart_yes {xs : List Nat} (h : lineOk xs = true) (i m : Nat) : lpart xs i m = part xs i m := if_pos h
theorem lpart_no {xs : List Nat} (h : lineOk xs = false) (i m : Nat) : lpart xs i m = [] := if_neg (by rw [h]; decide)
theorem lpart_le (xs : List Nat) (i m : Nat) : (lpart xs i m).length ≤ xs.length := by
  unfold lpart part
  split
  · simp; omega
  · simp
/-- What a walk that cuts a line answers. -/
def CutsF (k : FuncId) (i : Nat) (m : Nat → Nat) : Prop := ∀ (g o n cap : Nat) (W : World), 28 ≤ n → n ≤ cap → n ≤ 4000000 →
  Calls Tryd.prog k #[.slice (some ⟨g, o, none⟩) n cap] W fun e w' => e = .returned (.slice (some ⟨g, o + i, none⟩) (m n) (m n)) ∧ W = w'
end Go.Proofs.YtobpnoiienpipaaDoor
