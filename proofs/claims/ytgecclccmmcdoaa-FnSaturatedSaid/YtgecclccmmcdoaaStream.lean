/-
  What is proved: what the model draws for chapter 6: streams of lines, some without pulses.
  Conditions: the cursor's block holds a cursor; the bytes can be read.
-/
import Derived.Test.YtgecclccmmcdoaaSpecErase
import Derived.Test.YtgecclccmmcdoaaDrawLine
import Derived.Test.YtgecclccmmcdoaaDraw5
namespace Go.Proofs.Ytgecclccmmcdoaa
set_option linter.unusedVariables false
open Go.RowKit
attribute [local go_sem] run_store_float run_store_complex unary_negf neg256

def StreamP (b : Nat) (w : World) (e : Ending) (w' : World) : Prop := ∃ v ys, ∃ n : Nat, (ys.length ≤ 25000 ∧ 1 ≤ n ∧ n ≤ 3) ∧ e = .returned (.tuple #[v, .int .i64 (24 + 4 * (n : Int))]) ∧ FRow w' v ys ∧ Cur w' b ∧ w.grownBy w' (some b)
theorem StreamP.mk {b n : Nat} {x : Int} {w w' : World} {v : Value} {ys : List Nat} (hx : x = 24 + 4 * (n : Int)) (h : ys.length ≤ 25000 ∧ 1 ≤ n ∧ n ≤ 3) (hr : FRow w' v ys) (hc : Cur w' b) (hg : w.grownBy w' (some b)) : StreamP b w (.returned (.tuple #[v, .int .i64 x])) w' := by
  subst hx; exact ⟨v, ys, n, h, rfl, hr, hc, hg⟩
theorem box_facts {W : World} {x y u v : Nat} (h : W.heap[x]? = some (.cells #[.float .f32 y, .complex .f32 u v] 40 (0, 0))) : W.cell? ⟨x, 0, none⟩ = some (.float .f32 y) ∧ W.cell? ⟨x, 1, none⟩ = some (.complex .f32 u v) ∧ W.frozen? ⟨x, 0, none⟩ = false ∧ W.frozen? ⟨x, 1, none⟩ = false := by
  simp [World.cell?, World.frozen?, h]
/-- A row of the inner loop: the world of the outer one stays but for the cursor. -/
structure InRow (wo wr : World) (b g cap : Nat) (cs : List C3) : Prop where
  own : OwnC wr wo.heap.size (.slice (some ⟨g, 0, none⟩) cs.length cap) cs
  cur : Cur wr b
  grown : wo.grownBy wr (some b)
theorem InRow.start {wo : World} {b : Nat} (hc : Cur wo b) : InRow wo (wo.alloc (.cells #[] 40)) b wo.heap.size 0 [] :=
  ⟨OwnC.made0 wo, hc.alloc _, World.grownBy_alloc wo _ _⟩
theorem InRow.next {wo wr w' : World} {b g cap : Nat} {cs : List C3} (h : InRow wo wr b g cap cs) (hb : b < wo.heap.size) (hc : Cur w' b) (hg : wr.grownBy w' (some b)) : InRow wo w' b g cap cs := by
  have hge := (h.own.lt g rfl).1
  exact ⟨h.own.kept hg (.inr (by intro e; have := Option.some.inj e; simp at this; omega)), hc, h.grown.trans hg⟩
/-- What changes blocks that are newer than the row's changes nothing. -/
theorem InRow.far {wo wr w' : World} {b g cap x : Nat} {cs : List C3} (h : InRow wo wr b g cap cs) (hb : b < wo.heap.size) (hx : wr.heap.size ≤ x) (hg : wr.grownBy w' none ∨ wr.grownBy w' (some x)) : InRow wo w' b g cap cs := by
  have hge := h.own.lt g rfl
  have key : ∃ row, wr.grownBy w' row ∧ (∀ r, row = some r → wr.heap.size ≤ r) := by
    rcases hg with hg | hg
    · exact ⟨none, hg, fun r e => by cases e⟩
    · exact ⟨some x, hg, fun r e => by cases e; exact hx⟩
  obtain ⟨row, hg, hr⟩ := key
  refine ⟨h.own.kept hg (.inr ?_), h.cur.grown hg (fun r e => by have := hr r e; have := h.cur.lt; omega), grown_own h.grown hg (fun r e => by have := hr r e; have := h.grown.size; omega)⟩
  intro e
  have := hr g e.symm
  omega
theorem InRow.app {wo wr w' : World} {b g cap g6 cap6 : Nat} {cs : List C3} {c : C3} (h : InRow wo wr b g cap cs) (hb : b < wo.heap.size) (o : Obj) (hown : OwnC w' wo.heap.size (.slice (some ⟨g6, 0, none⟩) (cs.length + [c].length) cap6) (cs ++ [c])) (hg : (wr.alloc o).grownBy w' (some g)) : InRow wo w' b g6 cap6 (cs ++ [c]) := by
  have hge := h.own.lt g rfl
  refine ⟨by simpa using hown, (h.cur.alloc o).grown hg (fun r e => by cases e; omega), ?_⟩
  exact grown_own (h.grown.trans (World.grownBy_alloc wr o _)) hg (fun r e => by cases e; exact hge.1)
theorem snoc_len {α : Type} {xs : List α} {x : α} {n : Nat} (h : xs.length = n) : (xs ++ [x]).length = n + 1 := by simp [h]
end Go.Proofs.Ytgecclccmmcdoaa
