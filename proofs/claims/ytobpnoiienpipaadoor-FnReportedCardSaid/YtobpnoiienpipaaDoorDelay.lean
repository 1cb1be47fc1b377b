/-
  What is proved: the walks of Delay, the program's and the model's.
  Conditions: the list can be read and has at most 1000000000 numbers.
-/
import Derived.Test.YtobpnoiienpipaaDoorFRow
import Derived.Test.YtobpnoiienpipaaDoorDrawRow
import Derived.Laws.CopyOwn
import Derived.Deep.RegionLawGrows
namespace Go.Proofs.YtobpnoiienpipaaDoor
set_option linter.unusedVariables false
open Go.RowKit
attribute [local go_sem] run_store_float run_store_complex unary_negf neg256

/-- An answer of a list and whether there is one; the list lies in new memory. -/
def Ans (ok : Bool) (R : List Nat → Prop) (w : World) (e : Ending) (w' : World) : Prop := ∃ v ys, e = .returned (.tuple #[v, .bool ok]) ∧ R ys ∧ FNew w' w.heap.size v ys ∧ Below w.heap.size w w'
theorem Ans.mk {ok : Bool} {R : List Nat → Prop} {w w' : World} {v : Value} {ys : List Nat} (hr : R ys) (h : FNew w' w.heap.size v ys) (hb : Below w.heap.size w w') : Ans ok R w (.returned (.tuple #[v, .bool ok])) w' := ⟨v, ys, rfl, hr, h, hb⟩

def delayed (xs : List Nat) (c : Nat) : List Nat := (List.range xs.length).map fun i => if i < 4 * c then 0 else xs.getD (i - 4 * c) 0
theorem delayed_len (xs : List Nat) (c : Nat) : (delayed xs c).length = xs.length := by simp [delayed]
theorem delayed_get (xs : List Nat) (c i : Nat) (h : i < (delayed xs c).length) : (delayed xs c)[i] = if i < 4 * c then 0 else xs.getD (i - 4 * c) 0 := by simp [delayed]
def delayOk (n : Int) : Bool := decide (0 ≤ n) && decide (n ≤ 64)
theorem take_snoc {α : Type} (l : List α) (k : Nat) (h : k < l.length) : l.take (k + 1) = l.take k ++ [l[k]] := by
  rw [List.take_add_one, List.getElem?_eq_getElem h]; rfl
theorem one_cell (x : Nat) (W : World) : ∀ i (h : i < [x].length), (W.alloc (.cells #[.float .f32 x] 24)).cell? ⟨W.heap.size, 0 + i, none⟩ = some (.float .f32 [x][i]) := by
  intro i hi
  have hi0 : i = 0 := by simpa using hi
  subst hi0
  exact (cell_of_row _ _ 0 _ _ _ (heap_alloc_new W (.cells #[.float .f32 x] 24))).trans rfl
theorem fnew_of {w : World} {base n cap g : Nat} {xs ys : List Nat} (h : OwnF w base (.slice (some ⟨g, 0, none⟩) n cap) xs) (e : xs = ys) (hn : ys.length = n) : FNew w base (.slice (some ⟨g, 0, none⟩) n cap) ys := by
  subst e; exact h.new
def DelayR (xs : List Nat) (n : Int) (ys : List Nat) : Prop := ys = if delayOk n = true then delayed xs n.toNat else []


theorem made_get (n i : Nat) (h : i < n) : (madeCells #[.float .f32 0] n)[i]? = some (Value.float .f32 0) := by
  have hs : i < (madeCells #[.float .f32 0] n).size := by rw [size_madeCells]; exact h
  rw [Array.getElem?_eq_getElem hs]
  simp [madeCells, Nat.mod_one]
theorem splice_get {α : Type} (L X : List α) (q i : Nat) (hq : q ≤ L.length) : (splice L q X)[i]? = if i < q then L[i]? else if i < q + X.length then X[i - q]? else L[i]? := by
  unfold splice
  have hlen : (L.take q).length = q := by rw [List.length_take]; omega
  by_cases h1 : i < q
  · rw [if_pos h1, List.getElem?_append_left (by omega), List.getElem?_take, if_pos h1]
  · rw [if_neg h1, List.getElem?_append_right (by omega), hlen]
    by_cases h2 : i < q + X.length
    · rw [if_pos h2, List.getElem?_append_left (by omega)]
    · rw [if_neg h2, List.getElem?_append_right (by omega), List.getElem?_drop]
      congr 1
      omega
/-- What the copy leaves: zeros, and the list from its first number on. -/
theorem delayed_made {w : World} {g q j m : Nat} {xs : List Nat} (hq : 4 * m = q) (hx : xs.length = q + j)
    (h : w.heap[g]? = some (.cells (splice (madeCells #[.float .f32 0] (q + j)).toList q ((xs.take j).map (.float .f32))).toArray 24 (0, 0))) : MadeF w g (q + j) (q + j) (delayed xs m) := by
  have hml : (madeCells #[.float .f32 0] (q + j)).toList.length = q + j := by rw [Array.length_toList, size_madeCells]
  have hXl : ((xs.take j).map (Value.float .f32)).length = j := by rw [List.length_map, List.length_take]; omega
  refine ⟨_, h, ?_, fun i hi hk => ?_⟩
  · rw [List.size_toArray, length_splice _ _ _ (by rw [hXl, hml]; exact Nat.le_refl _), hml]; exact Nat.le_refl _
  · rw [List.getElem?_toArray, splice_get _ _ _ _ (by rw [hml]; omega), hXl, delayed_get]
    by_cases h1 : i < q
    · rw [if_pos h1, if_pos (by omega), Array.getElem?_toList, made_get _ _ (by omega)]
    · rw [if_neg h1, if_pos (by omega), if_neg (by omega), List.getElem?_map, List.getElem?_take, if_pos (by omega), hq, List.getD_eq_getElem?_getD, List.getElem?_eq_getElem (by omega)]
      rfl
theorem delayed_zero {w : World} {g m : Nat} {xs : List Nat} (hx : xs.length ≤ 4 * m)
    (h : w.heap[g]? = some (.cells (madeCells #[.float .f32 0] xs.length) 24 (0, 0))) : MadeF w g xs.length xs.length (delayed xs m) := by
  refine ⟨_, h, ?_, fun i hi hk => ?_⟩
  · rw [size_madeCells]; exact Nat.le_refl _
  · rw [made_get _ _ hk, delayed_get, if_pos (by omega)]
end Go.Proofs.YtobpnoiienpipaaDoor
