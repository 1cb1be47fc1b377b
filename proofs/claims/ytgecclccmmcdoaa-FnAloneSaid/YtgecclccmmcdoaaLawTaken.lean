/-
  What is proved: the walk of the law FnTakenApart.
  Conditions: none beyond the argument's own.
-/
import Derived.Test.YtgecclccmmcdoaaPlain
import Derived.Test.YtgecclccmmcdoaaEncCells
import Derived.Test.YtgecclccmmcdoaaEqRow
namespace Go.Proofs.Ytgecclccmmcdoaa
set_option linter.unusedVariables false
open Go.RowKit
attribute [local go_sem] run_store_float run_store_complex unary_negf neg256

theorem encode_any (v : Value) (cs : List C3) (odd : Bool) (w : World) (h : RowV w v cs) (hf : Fit cs) (hl : cs.length ≤ 1000000) :
    Calls Try.prog 99 #[v, .bool odd] w fun e w' => EncPost (if rok cs = true then enc (if odd = true then cs.map cj else cs) else []) w e w' := by
  cases odd with
  | false => exact encode_even v cs w h hf hl
  | true => exact encode_odd v cs w h hf hl
theorem alike_of {cs ds : List C3} (hl : ds.length = cs.length) (h : ∀ i (h1 : i < ds.length) (h2 : i < cs.length), ∃ a b d, PC cs[i] a b d ∧ PC ds[i] a b d) : Alike ds cs := by
  refine ⟨hl, fun i h1 h2 => ?_⟩
  obtain ⟨a, b, d, k1, k2⟩ := h i h1 h2
  have e : ∀ {x y : Nat} {k : Int}, Flt.Sx x k → Flt.Sx y k → feq x y = true := by
    intro x y k hx hy
    unfold feq
    rw [show FloatKind.f32.format.order x y = some .eq from hx.eq hy]; rfl
  rw [e k2.1 k1.1, e k2.2.1 k1.2.1, e k2.2.2.1 k1.2.2.1]
  rfl
theorem plain_of {cs ds : List C3} (hl : ds.length = cs.length) (h : ∀ i (h1 : i < ds.length) (h2 : i < cs.length), ∃ a b d, PC cs[i] a b d ∧ PC ds[i] a b d) : PlainR ds := by
  intro c hc
  obtain ⟨i, hi, rfl⟩ := List.getElem_of_mem hc
  obtain ⟨a, b, d, _, k2⟩ := h i hi (by omega)
  exact ⟨a, b, d, k2⟩
/-- What is decoded of an encoded row of sixteenths: it is valid, and the row. -/
theorem taken {cs ds : List C3} (odd : Bool) (hp : PlainR cs) (h1 : 1 ≤ cs.length) (h6 : cs.length ≤ 6) (h : DecL (enc (if odd = true then cs.map cj else cs)) ds) :
    rok ds = true ∧ ds.length = cs.length ∧ Alike (if odd = true then ds.map cj else ds) cs := by
  cases odd with
  | false =>
    obtain ⟨hl, hi⟩ := decL_enc hp h
    exact ⟨(plain_of hl hi).rok (by omega) (by omega), hl, alike_of hl hi⟩
  | true =>
    obtain ⟨hl, hi⟩ := decL_enc hp.cj h
    rw [List.length_map] at hl
    refine ⟨(plain_of (cs := cs.map cj) (by rw [List.length_map]; exact hl) hi).rok (by omega) (by omega), hl, ?_⟩
    refine alike_of (by simpa using hl) fun i k1 k2 => ?_
    have k1' : i < ds.length := by simpa using k1
    obtain ⟨a, b, d, q1, q2⟩ := hi i k1' (by simpa using k2)
    obtain ⟨a', b', d', q3⟩ := hp cs[i] (List.getElem_mem k2)
    simp only [if_true, List.getElem_map] at q1 q2 ⊢
    have e1 := q1.cj
    rw [show cj (cj cs[i]) = cs[i] by simp [cj, Flt.neg_neg32]] at e1
    exact ⟨a, b, -d, e1, q2.cj⟩
end Go.Proofs.Ytgecclccmmcdoaa
