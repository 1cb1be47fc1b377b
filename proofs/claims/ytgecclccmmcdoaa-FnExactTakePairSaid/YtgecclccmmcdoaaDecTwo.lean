/-
  What is proved: two answers of DecodeCells to one list are the same but for the NaNs' bits.
  Conditions: none.
-/
import Derived.Test.YtgecclccmmcdoaaSpecDec
namespace Go.Proofs.Ytgecclccmmcdoaa
set_option linter.unusedVariables false
open Go.RowKit

theorem fin_nan {x : Nat} (h : isN x = true) : Flt.fin x = false := by
  unfold isN at h
  unfold Flt.fin Flt.lo Flt.hi Ieee.Format.order
  cases hx : Ieee.single.read x with
  | number s m e => rw [hx] at h; simp [Ieee.Datum.isNaN] at h
  | infinity s => rw [hx] at h; simp [Ieee.Datum.isNaN] at h
  | nan => simp [Ieee.Datum.order]
theorem Sm.fin {x y : Nat} (h : Sm x y) : Flt.fin x = Flt.fin y := by
  rcases h with rfl | ⟨h1, h2⟩
  · rfl
  · rw [fin_nan h1, fin_nan h2]
def CSameL (cs ds : List C3) : Prop := cs.length = ds.length ∧ ∀ i (h : i < cs.length) (h' : i < ds.length), CSame cs[i] ds[i]
theorem CSame.symm {c d : C3} (h : CSame c d) : CSame d c := ⟨h.1.symm, h.2.1.symm, h.2.2.symm⟩
theorem CSameL.symm {cs ds : List C3} (h : CSameL cs ds) : CSameL ds cs := ⟨h.1.symm, fun i hi hi' => (h.2 i hi' hi).symm⟩
theorem DecL.same {xs : List Nat} {cs ds : List C3} (h : DecL xs cs) (h' : DecL xs ds) : CSameL cs ds :=
  ⟨by have h1 := h.1; have h2 := h'.1; omega, fun i hi hi' => DecR.same (h.2 i hi) (h'.2 i hi')⟩
theorem CSameL.rok1 {cs ds : List C3} (h : CSameL cs ds) (hr : rok cs = true) : rok ds = true := by
  obtain ⟨h1, h2⟩ := rok_iff.1 hr
  refine rok_iff.2 ⟨by rw [← h.1]; exact h1, fun d hd => ?_⟩
  obtain ⟨i, hi, rfl⟩ := List.getElem_of_mem hd
  have hi' : i < cs.length := by rw [h.1]; exact hi
  obtain ⟨a, b, c⟩ := h.2 i hi' hi
  obtain ⟨e, f, g⟩ := h2 cs[i] (List.getElem_mem hi')
  exact ⟨a.fin ▸ e, b.fin ▸ f, c.fin ▸ g⟩
theorem CSameL.rok {cs ds : List C3} (h : CSameL cs ds) : rok cs = Proofs.Ytgecclccmmcdoaa.rok ds := by
  cases h1 : Proofs.Ytgecclccmmcdoaa.rok cs with
  | true => exact (h.rok1 h1).symm
  | false =>
    cases h2 : Proofs.Ytgecclccmmcdoaa.rok ds with
    | false => rfl
    | true => rw [h.symm.rok1 h2] at h1; cases h1
theorem dec_same {xs : List Nat} {cs ds : List C3} (h1 : xs.length % 4 = 0 → DecL xs cs) (h2 : xs.length % 4 ≠ 0 → cs = []) (h3 : xs.length % 4 = 0 → DecL xs ds) (h4 : xs.length % 4 ≠ 0 → ds = []) : CSameL cs ds := by
  by_cases h : xs.length % 4 = 0
  · exact (h1 h).same (h3 h)
  · rw [h2 h, h4 h]
    exact ⟨rfl, fun i hi => absurd hi (by simp)⟩
end Go.Proofs.Ytgecclccmmcdoaa
