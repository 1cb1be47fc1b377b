/-
  What is proved: what the model answers of one line that is decoded by itself.
  Conditions: the line can be read.
-/
import Derived.Test.YtgecclccmmcdoaaDecAns
import Derived.Test.YtgecclccmmcdoaaSpecDec
import Derived.Test.YtgecclccmmcdoaaPkLine
namespace Go.Proofs.Ytgecclccmmcdoaa
set_option linter.unusedVariables false
open Go.RowKit
attribute [local go_sem] run_store_float run_store_complex unary_negf neg256

/-- What is answered of one line: what its cells tell, or nothing. -/
def AloneRR (xs : List Nat) (odd : Bool) (l : List C3) (ok : Bool) : Prop := (lineOk xs = true ∧ DecRR (lpart xs 24 (xs.length - 24)) odd l ok) ∨ (lineOk xs = false ∧ l = [] ∧ ok = false)
def AloneAns (xs : List Nat) (odd : Bool) (w : World) (e : Ending) (w' : World) : Prop := ∃ v l ok, e = .returned (.tuple #[v, .bool ok]) ∧ AloneRR xs odd l ok ∧ RNew w' w.heap.size v l ∧ Below w.heap.size w w'
theorem aloneRR_same {xs : List Nat} {odd : Bool} {l l' : List C3} {a b : Bool} (h : AloneRR xs odd l a) (h' : AloneRR xs odd l' b) : a = b ∧ l = l' := by
  rcases h with ⟨h1, h2⟩ | ⟨h1, h2, h3⟩ <;> rcases h' with ⟨k1, k2⟩ | ⟨k1, k2, k3⟩
  · exact decRR_same h2 k2
  · rw [h1] at k1; cases k1
  · rw [h1] at k1; cases k1
  · exact ⟨h3.trans k3.symm, h2.trans k2.symm⟩
theorem aloneRR_ok {xs : List Nat} {odd : Bool} {l : List C3} {a : Bool} (h : AloneRR xs odd l a) : l.length ≤ 64 ∧ FinL l := by
  rcases h with ⟨_, h2⟩ | ⟨_, rfl, _⟩
  · exact decRR_ok h2
  · exact ⟨Nat.zero_le _, fun c hc => by cases hc⟩
set_option maxHeartbeats 1000000 in
theorem specAlone_any (v : Value) (xs : List Nat) (odd : Bool) (w : World) (h : FRow w v xs) (hl : xs.length ≤ 4000000) :
    Calls Try.prog 37 #[v, .bool odd] w fun e w' => AloneAns xs odd w e w' := by
  have HO := Lib.hid (specLineOk_any v xs w h hl)
  have HC := Lib.hid (specCells_any v xs w h hl)
  have hll : (lpart xs 24 (xs.length - 24)).length ≤ 4000000 := by unfold lpart; split <;> simp [part] <;> omega
  cases ho : lineOk xs with
  | false =>
    rw [ho] at HO
    clear h HC hll
    have HNO := Lib.hid ho
    clear ho
    go_enter Try.func37, Try.ntmps37
    go_wp2_with fail
    refine HO.out.mono ?_
    rintro e w1 ⟨rfl, rfl⟩
    go_wp2
    go_ret2
    exact ⟨_, [], false, rfl, .inr ⟨HNO.out, rfl, rfl⟩, (OwnC.made0 w).rnew, (Below.refl _ _).alloc (Nat.le_refl _) _⟩
  | true =>
    rw [ho] at HO
    clear h
    have HNO := Lib.hid ho
    clear ho
    go_enter Try.func37, Try.ntmps37
    go_wp2_with fail
    refine HO.out.mono ?_
    rintro e w1 ⟨rfl, rfl⟩
    go_wp2_with fail
    refine HC.out.mono ?_
    rintro e w2 ⟨v2, rfl, hn2, hb2⟩
    have HD := Lib.hid (specDecode_any v2 _ odd w2 hn2.row hll)
    clear hn2 HC hll
    go_wp2_with fail
    refine HD.out.mono ?_
    intro e w3 hd
    obtain ⟨v3, l, ok, rfl, hr3, hn3, hb3⟩ := hd.ans
    have HR := Lib.hid hr3
    have HN3 := Lib.hid (hn3.mono hb2.size)
    have hb := below_trans hb2 hb3 hb2.size
    clear hd hr3 hn3
    go_wp2
    go_ret2
    exact ⟨v3, l, ok, rfl, .inl ⟨HNO.out, HR.out⟩, HN3.out, hb⟩
end Go.Proofs.Ytgecclccmmcdoaa
