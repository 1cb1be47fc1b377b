/-
  What is proved: the walk of the model's Erase.
  Conditions: the stream can be read.
-/
import Derived.Test.YtgecclccmmcdoaaPkGen
import Derived.Test.YtgecclccmmcdoaaPkLine
namespace Go.Proofs.Ytgecclccmmcdoaa
set_option linter.unusedVariables false
open Go.RowKit
attribute [local go_sem] run_store_float run_store_complex unary_negf neg256

/-- How many samples may be erased. -/
def eraseOk (n : Int) : Bool := decide (0 ≤ n) && decide (n ≤ 280)
/-- Whether the place i is erased. -/
def gone (p n : Int) (i : Nat) : Bool := eraseOk n && (decide (p ≤ (i : Int)) && decide ((i : Int) - n < p))
/-- The stream with what is erased. -/
def erased (xs : List Nat) (p n : Int) : List Nat := (List.range xs.length).map fun i => if gone p n i = true then 0 else xs.getD i 0
theorem erased_len (xs : List Nat) (p n : Int) : (erased xs p n).length = xs.length := by simp [erased]
theorem erased_get (xs : List Nat) (p n : Int) (i : Nat) (h : i < (erased xs p n).length) (h' : i < xs.length) : (erased xs p n)[i] = if gone p n i = true then 0 else xs[i] := by
  simp [erased, List.getElem?_eq_getElem h']
/-- The first k places are done. -/
def erasedK (xs : List Nat) (p n : Int) (k : Nat) : List Nat := (erased xs p n).take k ++ xs.drop k
theorem erasedK_len {xs : List Nat} {p n : Int} {k : Nat} (h : k ≤ xs.length) : (erasedK xs p n k).length = xs.length := by
  unfold erasedK
  rw [List.length_append, List.length_take, List.length_drop, erased_len]
  omega
theorem erasedK_zero (xs : List Nat) (p n : Int) : erasedK xs p n 0 = xs := by simp [erasedK]
theorem erasedK_all (xs : List Nat) (p n : Int) : erasedK xs p n xs.length = erased xs p n := by
  unfold erasedK
  rw [List.drop_length, List.append_nil, List.take_of_length_le (by rw [erased_len]; exact Nat.le_refl _)]
theorem erasedK_next {xs : List Nat} {p n : Int} {k : Nat} (h : k < xs.length) : erasedK xs p n (k + 1) = (erasedK xs p n k).set k (if gone p n k = true then 0 else xs[k]) := by
  have hl : k < (erased xs p n).length := by rw [erased_len]; exact h
  unfold erasedK
  rw [List.take_succ_eq_append_getElem hl, erased_get xs p n k hl h, List.set_append_right _ _ (by rw [List.length_take]; omega), List.length_take, Nat.min_eq_left (by omega), Nat.sub_self, List.append_assoc]
  conv => rhs; rw [List.drop_eq_getElem_cons h]
  rfl
theorem erasedK_at {xs : List Nat} {p n : Int} {k : Nat} (h : k < xs.length) (h' : k < (erasedK xs p n k).length) : (erasedK xs p n k)[k] = xs[k] := by
  have e : (erasedK xs p n k)[k]? = some xs[k] := by
    unfold erasedK
    rw [List.getElem?_append_right (by rw [List.length_take]; omega), List.length_take, erased_len, Nat.min_eq_left (Nat.le_of_lt h), Nat.sub_self, List.getElem?_drop, Nat.add_zero, List.getElem?_eq_getElem h]
  exact Option.some.inj ((List.getElem?_eq_getElem h').symm.trans e)
theorem erasedK_stay {xs : List Nat} {p n : Int} {k : Nat} (h : k < xs.length) (hg : gone p n k = false) : erasedK xs p n (k + 1) = erasedK xs p n k := by
  have h' : k < (erasedK xs p n k).length := by rw [erasedK_len (by omega)]; exact h
  rw [erasedK_next h, if_neg (by rw [hg]; decide)]
  conv => lhs; rw [← erasedK_at h h']
  exact List.set_getElem_self h'
theorem erased_none {xs : List Nat} {p n : Int} (h : eraseOk n = false) : erased xs p n = xs := by
  refine List.ext_getElem (erased_len _ _ _) fun i h1 h2 => ?_
  rw [erased_get xs p n i h1 h2, if_neg (by unfold gone; rw [h]; simp)]
/-- An answer that is a list which may be appended to. -/
def GotO (ys : List Nat) (w : World) (e : Ending) (w' : World) : Prop := ∃ g cap, e = .returned (.slice (some ⟨g, 0, none⟩) ys.length cap) ∧ OwnF w' w.heap.size (.slice (some ⟨g, 0, none⟩) ys.length cap) ys ∧ Below w.heap.size w w'
theorem GotO.mk {ys : List Nat} {w w' : World} {g n cap : Nat} (hn : ys.length = n) (h : OwnF w' w.heap.size (.slice (some ⟨g, 0, none⟩) n cap) ys) (hb : Below w.heap.size w w') : GotO ys w (.returned (.slice (some ⟨g, 0, none⟩) n cap)) w' := by
  subst hn; exact ⟨g, cap, rfl, h, hb⟩
theorem GotO.got {ys : List Nat} {w w' : World} {e : Ending} (h : GotO ys w e w') : GotF ys w e w' := by
  obtain ⟨g, cap, rfl, ho, hb⟩ := h
  exact GotF.own rfl ho hb
end Go.Proofs.Ytgecclccmmcdoaa
