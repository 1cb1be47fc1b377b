/-
  What is proved: what a decoding of samples may answer is one list and one bool.
  Conditions: those that each fact names.
-/
import Derived.Test.YtgecclccmmcdoaaPkEq
import Derived.Test.YtgecclccmmcdoaaPkDec
namespace Go.Proofs.Ytgecclccmmcdoaa
set_option linter.unusedVariables false
open Go.RowKit

/-- What DecodeCells may answer. -/
def DecRR (xs : List Nat) (odd : Bool) (l : List C3) (ok : Bool) : Prop := ∃ cs, (xs.length % 4 = 0 → DecL xs cs) ∧ (xs.length % 4 ≠ 0 → cs = []) ∧ Fit cs ∧ ok = rok cs ∧ l = if rok cs = true then (if odd = true then cs.map cj else cs) else []
def DecAns (xs : List Nat) (odd : Bool) (w : World) (e : Ending) (w' : World) : Prop := ∃ v l ok, e = .returned (.tuple #[v, .bool ok]) ∧ DecRR xs odd l ok ∧ RNew w' w.heap.size v l ∧ Below w.heap.size w w'
theorem DecPost.ans {xs : List Nat} {odd : Bool} {w w' : World} {e : Ending} (h : DecPost xs odd w e w') : DecAns xs odd w e w' := by
  obtain ⟨v, cs, h1, h2, h3, h4, h5, h6⟩ := h
  exact ⟨v, _, _, h4, ⟨cs, h1, h2, h3, rfl, rfl⟩, h5, h6⟩
theorem sm_fin {x y : Nat} (h : Sm x y) (hf : Flt.fin x = true) : x = y := by
  rcases h with h | h
  · exact h
  · rw [fin_nan h.1] at hf; cases hf
theorem same_eq {cs ds : List C3} (h : CSameL cs ds) (hr : rok cs = true) : cs = ds := by
  obtain ⟨_, hf⟩ := rok_iff.1 hr
  refine List.ext_getElem h.1 fun i hi hi' => ?_
  obtain ⟨a, b, c⟩ := h.2 i hi hi'
  obtain ⟨e, f, g⟩ := hf cs[i] (List.getElem_mem hi)
  exact Prod.ext (sm_fin a e) (Prod.ext (sm_fin b f) (sm_fin c g))
theorem decRR_same {xs : List Nat} {odd : Bool} {l l' : List C3} {a b : Bool} (h : DecRR xs odd l a) (h' : DecRR xs odd l' b) : a = b ∧ l = l' := by
  obtain ⟨cs, h1, h2, _, rfl, rfl⟩ := h
  obtain ⟨ds, h3, h4, _, rfl, rfl⟩ := h'
  have hs := dec_same h1 h2 h3 h4
  refine ⟨hs.rok, ?_⟩
  cases hr : rok cs with
  | true =>
    have e := same_eq hs hr
    subst e
    rw [hr]
  | false =>
    rw [hs.rok] at hr
    rw [hr]; rfl
theorem decRR_ok {xs : List Nat} {odd : Bool} {l : List C3} {a : Bool} (h : DecRR xs odd l a) : l.length ≤ 64 ∧ FinL l := by
  obtain ⟨cs, h1, h2, hf, rfl, rfl⟩ := h
  cases hr : rok cs with
  | false => exact ⟨Nat.zero_le _, fun c hc => by cases hc⟩
  | true =>
    have key : ∀ l : List C3, rok l = true → l.length ≤ 64 ∧ FinL l := fun l hl => ⟨(rok_iff.1 hl).1.2, (rok_iff.1 hl).2⟩
    cases odd with
    | false => exact key _ hr
    | true => exact key _ (rok_cj hf hr)
end Go.Proofs.Ytgecclccmmcdoaa
