/-
  What is proved: rows of cells that a call owns; an append of cells to one; what the functions that draw rows of chapter 2 answer.
  Conditions: the cursor's block holds a cursor.
-/
import Derived.Test.YtobpnoiienpipaaDoorLevel
import Derived.Deep.AppendLies
import Derived.Test.YtobpnoiienpipaaDoorPkConj
namespace Go.Proofs.YtobpnoiienpipaaDoor
set_option linter.unusedVariables false
open Go.RowKit
attribute [local go_sem] run_store_float run_store_complex unary_negf neg256

def cellsOf (cs : List C3) : List Value := cs.flatMap fun c => [.float .f32 c.1, .complex .f32 c.2.1 c.2.2]
theorem cellsOf_len (cs : List C3) : (cellsOf cs).length = cs.length * 2 := by
  induction cs with
  | nil => rfl
  | cons c cs ih => simp only [cellsOf, List.flatMap_cons, List.length_append, List.length_cons, List.length_nil] at ih ⊢; rw [ih]; omega
theorem cellsOf_append (cs ds : List C3) : cellsOf (cs ++ ds) = cellsOf cs ++ cellsOf ds := by simp [cellsOf]
theorem cellsOf_get (cs : List C3) : ∀ i, (cellsOf cs)[i * 2]? = cs[i]?.map (fun c => .float .f32 c.1) ∧ (cellsOf cs)[i * 2 + 1]? = cs[i]?.map (fun c => .complex .f32 c.2.1 c.2.2) := by
  induction cs with
  | nil => intro i; simp [cellsOf]
  | cons c cs ih =>
    intro i
    have e : cellsOf (c :: cs) = .float .f32 c.1 :: .complex .f32 c.2.1 c.2.2 :: cellsOf cs := by simp [cellsOf]
    rw [e]
    cases i with
    | zero => simp
    | succ i =>
      have := ih i
      rw [show (i + 1) * 2 = i * 2 + 1 + 1 by omega]
      simpa using this
theorem cellsOf_one (cs : List C3) : ∀ u ∈ cellsOf cs, u.oneCell' = true := by
  intro u hu
  obtain ⟨c, _, hc⟩ := List.mem_flatMap.1 hu
  rcases List.mem_cons.1 hc with rfl | hc
  · rfl
  · obtain rfl := List.mem_singleton.1 hc; rfl
theorem RowV.cells {w : World} {g o c : Nat} {ds : List C3} (h : RowV w (.slice (some ⟨g, o, none⟩) ds.length c) ds) (j : Nat) (u : Value) (hu : (cellsOf ds)[j]? = some u) : w.cell? ((⟨g, o, none⟩ : Addr).add j) = some u := by
  have hadd : (⟨g, o, none⟩ : Addr).add j = ⟨g, o + j, none⟩ := by unfold Addr.add; split <;> simp_all
  rw [hadd]
  rcases h with ⟨h, _⟩ | ⟨g', o', cap, h, _, hcell⟩
  · cases h
  · simp only [Value.slice.injEq, Option.some.injEq, Addr.mk.injEq, and_true] at h
    obtain ⟨⟨rfl, rfl⟩, _⟩ := h
    have hj : j < ds.length * 2 := by rw [← cellsOf_len]; exact (List.getElem?_eq_some_iff.1 hu).1
    have hi : j / 2 < ds.length := by omega
    obtain ⟨g1, g2⟩ := hcell (j / 2) hi
    obtain ⟨e1, e2⟩ := cellsOf_get ds (j / 2)
    rw [List.getElem?_eq_getElem hi] at e1 e2
    rcases (by omega : j = j / 2 * 2 ∨ j = j / 2 * 2 + 1) with h | h
    · rw [h, e1] at hu
      rw [h, g1]; exact hu
    · rw [h, e2] at hu
      rw [h, ← Nat.add_assoc, g2]; exact hu



theorem grown_set {a w : World} {g : Nat} (h : a.grownBy w (some g)) {p : Addr} (hp : a.heap.size ≤ p.block) (u : Value) : a.grownBy (w.setCell p u) (some g) :=
  ⟨h.os, h.tape, h.output, by simpa [World.setCell] using h.size, fun i hi hne => (Below.heap_setCell w p u i (by omega)).trans (h.block i hi hne)⟩
theorem grown_alloc {a w : World} {row : Option Nat} (h : a.grownBy w row) (o : Obj) : a.grownBy (w.alloc o) row :=
  ⟨h.os, h.tape, h.output, Nat.le_trans h.size (by simp), fun i hi hne => (Below.heap_alloc w o i (Nat.lt_of_lt_of_le hi h.size)).trans (h.block i hi hne)⟩
theorem Cur.set {w : World} {b : Nat} (h : Cur w b) {p : Addr} (hp : b < p.block) (u : Value) : Cur (w.setCell p u) b :=
  h.grown (row := some p.block) ⟨rfl, rfl, rfl, by simp [World.setCell], fun i hi hne => Below.heap_setCell w p u i (fun e => hne (by rw [e]))⟩ (fun r hr => by cases hr; exact hp)

def CellPost (b : Nat) (w : World) (e : Ending) (w' : World) : Prop :=
  ∃ y u v, (y < 2 ^ 32 ∧ u < 2 ^ 32 ∧ v < 2 ^ 32) ∧ e = .returned (.agg #[.float .f32 y, .complex .f32 u v]) ∧ Cur w' b ∧ w.grownBy w' (some b)
end Go.Proofs.YtobpnoiienpipaaDoor
