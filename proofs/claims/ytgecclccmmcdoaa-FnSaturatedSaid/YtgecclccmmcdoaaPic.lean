/-
  What is proved: pictures as they lie in memory; the walks of PictureOk (the program's and the model's).
  Conditions: the picture can be read.
-/
import Derived.Test.YtgecclccmmcdoaaMeanRow
namespace Go.Proofs.Ytgecclccmmcdoaa
set_option linter.unusedVariables false
open Go.RowKit
attribute [local go_sem] run_store_float run_store_complex unary_negf neg256

/-- The slice v of rows reads as rs. -/
def PicV (w : World) (v : Value) (rs : List (List C3)) : Prop :=
  (v = .slice none 0 0 ∧ rs = []) ∨ ∃ g o cap, v = .slice (some ⟨g, o, none⟩) rs.length cap ∧ rs.length ≤ cap ∧ ∀ i (h : i < rs.length), ∃ rv, w.cell? ⟨g, o + i, none⟩ = some rv ∧ RowV w rv rs[i]
theorem PicV.grown {w w' : World} {v : Value} {rs : List (List C3)} (h : PicV w v rs) (hg : w.grownBy w' none) : PicV w' v rs := by
  rcases h with h | ⟨g, o, cap, h1, h2, h3⟩
  · exact .inl h
  · refine .inr ⟨g, o, cap, h1, h2, fun i hi => ?_⟩
    obtain ⟨rv, g1, g2⟩ := h3 i hi
    exact ⟨rv, hg.cell g1 (by simp), g2.grown hg⟩
theorem PicV.below {w w' : World} {v : Value} {rs : List (List C3)} (h : PicV w v rs) (hb : Below w.heap.size w w') : PicV w' v rs := h.grown (grown_of hb)
theorem PicV.nil (w : World) : PicV w (.slice none 0 0) [] := .inl ⟨rfl, rfl⟩
theorem PicV.lenv {w : World} {v : Value} {rs : List (List C3)} (h : PicV w v rs) : ∃ a cap, v = .slice a rs.length cap := by
  rcases h with ⟨h, h2⟩ | ⟨g, o, cap, h, _⟩
  · subst h2; exact ⟨none, 0, h⟩
  · exact ⟨_, _, h⟩
theorem PicV.len {w : World} {v : Value} {rs : List (List C3)} (h : PicV w v rs) (hne : rs ≠ []) : ∃ g o cap, v = .slice (some ⟨g, o, none⟩) rs.length cap ∧ rs.length ≤ cap ∧
    ∀ i (h : i < rs.length), ∃ a c, w.cell? ⟨g, o + i, none⟩ = some (.slice a rs[i].length c) ∧ RowV w (.slice a rs[i].length c) rs[i] := by
  rcases h with ⟨_, h⟩ | ⟨g, o, cap, h1, h2, h3⟩
  · exact absurd h hne
  · refine ⟨g, o, cap, h1, h2, fun i hi => ?_⟩
    obtain ⟨rv, g1, g2⟩ := h3 i hi
    obtain ⟨a, c, rfl⟩ := g2.lenv
    exact ⟨a, c, g1, g2⟩
/-- Few enough cells in each row. -/
def Thin (rs : List (List C3)) : Prop := ∀ r ∈ rs, r.length ≤ 1000000
/-- A valid row, as long as the first. -/
def rowFit (n : Nat) (r : List C3) : Bool := rok r && decide (r.length = n)
def sizeOk (rs : List (List C3)) : Bool := decide (rs.length % 4 = 0) && (decide (4 ≤ rs.length) && decide (rs.length ≤ 64))
def pok (rs : List (List C3)) : Bool := sizeOk rs && rs.all (rowFit (rs.headD []).length)
theorem pok_size {rs : List (List C3)} (h : sizeOk rs = false) : pok rs = false := by unfold pok; rw [h]; rfl
theorem pok_rows {rs : List (List C3)} (h : sizeOk rs = true) : pok rs = rs.all (rowFit (rs.headD []).length) := by unfold pok; rw [h]; rfl
theorem sizeOk_iff {rs : List (List C3)} : sizeOk rs = true ↔ rs.length % 4 = 0 ∧ 4 ≤ rs.length ∧ rs.length ≤ 64 := by
  unfold sizeOk
  rw [Bool.and_eq_true, Bool.and_eq_true, decide_eq_true_iff, decide_eq_true_iff, decide_eq_true_iff]
theorem head_get {rs : List (List C3)} (h : 0 < rs.length) : rs.headD [] = rs[0] := by
  cases rs with
  | nil => simp at h
  | cons r rs => rfl


end Go.Proofs.Ytgecclccmmcdoaa
