/-
  What is proved: two answers of DecodeCells, of Brightness, of Colouring to one list are the same but for the NaNs' bits.
  Conditions: none.
-/
import Derived.Test.YtgecclccmmcdoaaSpecBright
import Derived.Test.YtgecclccmmcdoaaDecTwo
namespace Go.Proofs.Ytgecclccmmcdoaa
set_option linter.unusedVariables false
open Go.RowKit

theorem spread_same {cs ds : List C3} (h : CSameL cs ds) : SmL (spread cs) (spread ds) := by
  refine ⟨by rw [spread_len, spread_len, h.1], fun i hi hi' => ?_⟩
  have h1 : i / 4 < cs.length := by rw [spread_len] at hi; omega
  have h2 : i / 4 < ds.length := by rw [← h.1]; exact h1
  rw [spread_get cs i hi h1, spread_get ds i hi' h2]
  exact (h.2 _ h1 h2).1
theorem brightR_same {xs ys zs : List Nat} {a b : Bool} (h : BrightR xs ys a) (h' : BrightR xs zs b) : a = b ∧ SmL ys zs := by
  obtain ⟨cs, h1, h2, rfl, rfl⟩ := h
  obtain ⟨ds, h3, h4, rfl, rfl⟩ := h'
  have hs := dec_same h1 h2 h3 h4
  refine ⟨hs.rok, ?_⟩
  rw [hs.rok]
  split
  · exact spread_same hs
  · exact SmL.refl _
theorem brightR_len {xs ys : List Nat} {a : Bool} (h : BrightR xs ys a) : ys.length ≤ xs.length := by
  cases a with
  | true => exact Nat.le_of_eq h.len
  | false =>
    obtain ⟨cs, h1, h2, h3, h4⟩ := h
    rw [← h3] at h4
    rw [h4]
    exact Nat.zero_le _
theorem colourR_same {xs ys zs : List Nat} {a b : Bool} (h : ColourR xs ys a) (h' : ColourR xs zs b) : a = b ∧ SmL ys zs := by
  obtain ⟨bs, h1, h2⟩ := h
  obtain ⟨bs', h3, h4⟩ := h'
  obtain ⟨rfl, hs⟩ := brightR_same h1 h3
  refine ⟨rfl, ?_⟩
  cases a with
  | false => simp at h2 h4; rw [h2, h4]; exact SmL.refl _
  | true =>
    simp only [if_true] at h2 h4
    exact ResL.same h2.2 h4.2 (SmL.refl _) hs (by rw [h2.1, h4.1])
theorem colourR_len {xs ys : List Nat} {a : Bool} (h : ColourR xs ys a) : ys.length ≤ xs.length := by
  obtain ⟨bs, h1, h2⟩ := h
  cases a with
  | false => simp at h2; rw [h2]; exact Nat.zero_le _
  | true => exact Nat.le_of_eq h2.1
end Go.Proofs.Ytgecclccmmcdoaa
