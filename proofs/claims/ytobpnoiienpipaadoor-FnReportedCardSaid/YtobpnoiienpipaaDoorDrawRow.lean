/-
  What is proved: what the functions that draw rows of cells answer; the law's size test.
  Conditions: the cursor's block holds a cursor; the bytes that they draw from can be read.
-/
import Derived.Test.YtobpnoiienpipaaDoorRowOwn
namespace Go.Proofs.YtobpnoiienpipaaDoor
set_option linter.unusedVariables false
open Go.RowKit
attribute [local go_sem] run_store_float run_store_complex unary_negf neg256

theorem drawn {w w1 w2 : World} (h1 : w.grownBy w1 none) (h2 : w1.grownBy w2 (some w.heap.size)) : Below w.heap.size w w2 :=
  ((Below.refl _ _).grown h1 (Nat.le_refl _) (fun _ h => by cases h)).grown h2 h1.size (fun k h => by cases h; exact Nat.le_refl _)
theorem big_any (a : Option Addr) (len cap : Nat) (w : World) :
    Calls Tryd.prog 10 #[.slice a len cap] w fun e w' => e = .returned (.bool (decide ((1048576 : Int) < len))) ∧ w = w' := by
  go_enter Tryd.func10, Tryd.ntmps10
  go_wp2
  go_ret
  exact ⟨rfl, rfl⟩

theorem Fit.snoc {cs : List C3} {y u v : Nat} (h : Fit cs) (hf : y < 2 ^ 32 ∧ u < 2 ^ 32 ∧ v < 2 ^ 32) : Fit (cs ++ [(y, u, v)]) := by
  intro c hc
  rcases List.mem_append.1 hc with hc | hc
  · exact h c hc
  · obtain rfl := List.mem_singleton.1 hc; exact hf

def RowsPost (N : Nat) (b : Nat) (w : World) (e : Ending) (w' : World) : Prop := ∃ v cs, cs.length = N ∧ Fit cs ∧ e = .returned v ∧ RowV w' v cs ∧ Cur w' b ∧ w.grownBy w' (some b)
theorem RowsPost.mk {N b : Nat} {w w' : World} {v : Value} {cs : List C3} (hl : cs.length = N) (hf : Fit cs) (hr : RowV w' v cs) (hc : Cur w' b) (hg : w.grownBy w' (some b)) : RowsPost N b w (.returned v) w' := ⟨v, cs, hl, hf, rfl, hr, hc, hg⟩
theorem grown_own {a w w' : World} {g : Nat} {row : Option Nat} (h : a.grownBy w (some g)) (hg : w.grownBy w' row) (hr : ∀ r, row = some r → a.heap.size ≤ r) : a.grownBy w' (some g) :=
  ⟨hg.os.trans h.os, hg.tape.trans h.tape, hg.output.trans h.output, Nat.le_trans h.size hg.size, fun i hi hne => (hg.block i (Nat.lt_of_lt_of_le hi h.size) (fun e => by have := hr i e.symm; omega)).trans (h.block i hi hne)⟩

def AnyPost (b : Nat) (w : World) (e : Ending) (w' : World) : Prop := ∃ v cs, cs.length ≤ 1000 ∧ Fit cs ∧ e = .returned v ∧ RowV w' v cs ∧ Cur w' b ∧ w.grownBy w' (some b)
theorem AnyPost.mk {b : Nat} {w w' : World} {v : Value} {cs : List C3} (hl : cs.length ≤ 1000) (hf : Fit cs) (hr : RowV w' v cs) (hc : Cur w' b) (hg : w.grownBy w' (some b)) : AnyPost b w (.returned v) w' := ⟨v, cs, hl, hf, rfl, hr, hc, hg⟩
def Few (x : Int) : Prop := 0 ≤ x ∧ x ≤ 100

def DrawRow (w : World) (e : Ending) (w' : World) : Prop := ∃ v cs, cs.length ≤ 1000 ∧ Fit cs ∧ e = .returned v ∧ RowV w' v cs ∧ Below w.heap.size w w'
theorem DrawRow.mk {w w' : World} {v : Value} {cs : List C3} (hl : cs.length ≤ 1000) (hf : Fit cs) (hr : RowV w' v cs) (hb : Below w.heap.size w w') : DrawRow w (.returned v) w' := ⟨v, cs, hl, hf, rfl, hr, hb⟩
end Go.Proofs.YtobpnoiienpipaaDoor
