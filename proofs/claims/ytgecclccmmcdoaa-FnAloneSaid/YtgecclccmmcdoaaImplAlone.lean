/-
  What is proved: what the program answers of one line that is decoded by itself.
  Conditions: the line can be read.
-/
import Derived.Test.YtgecclccmmcdoaaSpecAlone
import Derived.Test.YtgecclccmmcdoaaPlain
namespace Go.Proofs.Ytgecclccmmcdoaa
set_option linter.unusedVariables false
open Go.RowKit
attribute [local go_sem] run_store_float run_store_complex unary_negf neg256

theorem rok_empty : rok [] = false := by
  cases h : rok [] with
  | false => rfl
  | true => exact absurd (rok_iff.1 h).1 (by simp)
theorem decRR_empty {odd : Bool} {l : List C3} {ok : Bool} (h : DecRR [] odd l ok) : l = [] ∧ ok = false := by
  obtain ⟨cs, h1, _, _, rfl, rfl⟩ := h
  have hc : cs = [] := List.eq_nil_of_length_eq_zero (by have h := (h1 rfl).1; have h2 : 4 * cs.length = 0 := h; omega)
  subst hc
  rw [rok_empty]
  exact ⟨rfl, rfl⟩
theorem alone_of {xs : List Nat} {odd : Bool} {l : List C3} {ok : Bool} (h : DecRR (lpart xs 24 (xs.length - 24)) odd l ok) : AloneRR xs odd l ok := by
  cases ho : lineOk xs with
  | true => exact .inl ⟨ho, h⟩
  | false =>
    rw [lpart_no ho] at h
    exact .inr ⟨ho, decRR_empty h⟩
set_option maxHeartbeats 1000000 in
theorem alone_any (v : Value) (xs : List Nat) (odd : Bool) (w : World) (h : FRow w v xs) (hl : xs.length ≤ 4000000) :
    Calls Try.prog 20 #[v, .bool odd] w fun e w' => AloneAns xs odd w e w' := by
  have HC := Lib.hid (cellsOf_any v xs w h hl)
  have hll : (lpart xs 24 (xs.length - 24)).length ≤ 4000000 := Nat.le_trans (lpart_le _ _ _) hl
  clear h
  go_enter Try.func20, Try.ntmps20
  go_wp2_with fail
  refine HC.out.mono ?_
  rintro e w2 ⟨v2, rfl, hn2, hb2⟩
  have HD := Lib.hid (decode_any v2 _ odd w2 hn2.row hll)
  clear hn2 HC hll
  go_wp2_with fail
  refine HD.out.mono ?_
  intro e w3 hd
  obtain ⟨v3, l, ok, rfl, hr3, hn3, hb3⟩ := hd.ans
  have HR := Lib.hid (alone_of hr3)
  have HN3 := Lib.hid (hn3.mono hb2.size)
  have hb := below_trans hb2 hb3 hb2.size
  clear hd hr3 hn3
  go_wp2
  go_ret2
  exact ⟨v3, l, ok, rfl, HR.out, HN3.out, hb⟩
end Go.Proofs.Ytgecclccmmcdoaa
