/-
  What is proved: the walk of the model's MeanRow, as far as its second result goes.
  Conditions: both rows can be read.
-/
import Derived.Test.YtgecclccmmcdoaaMeanRow
import Derived.Test.YtgecclccmmcdoaaDrawRow
import Derived.Test.YtgecclccmmcdoaaPkCell
namespace Go.Proofs.Ytgecclccmmcdoaa
set_option linter.unusedVariables false
open Go.RowKit
attribute [local go_sem] run_store_float run_store_complex unary_negf neg256

/-- One cell that has just been laid, appended, at a step of a region that draws its order. -/
theorem step_cell {ops : Array Oper} {o : Oper} {a : Act} {w : World} {K : Act → World → Prop} {Q : Exit → Act → World → Prop} {E : Prop} (hgd : o.guard = none) (s x : Operand)
    (ho : o.op = .call { callee := .builtin .append, args := #[s, x], argTypes := #[36, 36] })
    (base : Nat) (v : Value) (cs ds : List C3) (hs : a.eval s = v) (hown : OwnC w base v cs) (g o' c : Nat) (hx : a.eval x = .slice (some ⟨g, o', none⟩) ds.length c) (hrow : RowV w (.slice (some ⟨g, o', none⟩) ds.length c) ds)
    (hm : 0 < ds.length) (hlen : cs.length + ds.length ≤ 1000000) (hbase : base ≤ w.heap.size)
    (h : ∀ g cap w', OwnC w' base (.slice (some ⟨g, 0, none⟩) (cs.length + ds.length) cap) (cs ++ ds) → w.grownBy w' v.ownBlock → (v.ownBlock = some g ∨ g = w.heap.size) → g < w'.heap.size → K (a.put o.dst (.slice (some ⟨g, 0, none⟩) (cs.length + ds.length) cap)) w') :
    if Region.wanted o (yielded ops a.tmps) = true then Oper.wp Try.prog o a w K Q else E := by
  obtain ⟨i0, hi, hz0, hz1, hz2⟩ := info_parts info_cell
  refine step_append_lies w hgd s x 36 ho base 40 i0 _ 2 12 Try.underlying36 hi hz0 hz1 hz2 rfl (by decide) v cs.length _ hs hown ⟨g, o', none⟩ ds.length c (cellsOf ds) hx (cellsOf_len ds) (fun j u hu => hrow.cells j u hu) (cellsOf_one ds) hm (by unfold maxLen; omega) (by omega) hbase w.heap.size rfl ?_
  intro g cap w' h2 h3 h4 h5
  refine h g cap w' ?_ h3 h4 h5
  unfold OwnC
  rw [List.length_append, cellsOf_append]
  exact h2

def SMPost (a b : List C3) (w : World) (e : Ending) (w' : World) : Prop := ∃ v', e = .returned (.tuple #[v', .bool (meanOk a b)]) ∧ Below w.heap.size w w'
theorem SMPost.mk {a b : List C3} {w w' : World} {v' : Value} {t : Bool} (h : meanOk a b = t) (hb : Below w.heap.size w w') : SMPost a b w (.returned (.tuple #[v', .bool t])) w' := ⟨v', by rw [h], hb⟩
theorem SMPost.no {a b : List C3} {w w' : World} {v' : Value} (h : meanOk a b = false) (hb : Below w.heap.size w w') : SMPost a b w (.returned (.tuple #[v', .bool false])) w' := .mk h hb


theorem OwnC.drew {w : World} {base : Nat} {v : Value} {cs : List C3} (h : OwnC w base v cs) : OwnC w.drew base v cs := h
theorem RowV.drew {w : World} {v : Value} {cs : List C3} (h : RowV w v cs) : RowV w.drew v cs := h
/-- What stands at the head of a round. -/
structure SRnd (w wr : World) (v : Value) (cs : List C3) : Prop where
  own : OwnC wr w.heap.size v cs
  below : Below w.heap.size w wr
theorem SRnd.grown {w wr w' : World} {v : Value} {cs : List C3} (h : SRnd w wr v cs) (hg : wr.grownBy w' none) : SRnd w w' v cs :=
  ⟨h.own.kept hg (by cases v.ownBlock <;> simp), h.below.grown hg h.below.size (fun k e => by cases e)⟩
end Go.Proofs.Ytgecclccmmcdoaa
