/-
  What is proved: the walk of Weave over two empty fields.
  Conditions: none.
-/
import Derived.Test.YtfoggbcfkniimaaWeaveYes
namespace Go.Proofs.Ytfoggbcfkniimaa
set_option linter.unusedVariables false
open Go.RowKit Go.Shelf
attribute [local go_sem] run_store_float run_store_complex unary_negf neg256 Oper.semAt_some

set_option maxHeartbeats 2000000 in
theorem weave_none (v v' : Value) (w : World) (h : PicV w v []) (h' : PicV w v' []) :
    Calls Try.prog 19 #[v, v'] w fun e w' => ∃ v', e = .returned (.tuple #[v', .bool false]) ∧ Below w.heap.size w w' := by
  have hmk := make_rows 0 (by omega) w
  simp only [Nat.mul_zero, List.replicate_zero, Int.ofNat_zero, Int.mul_zero] at hmk
  have HP := Lib.hid (pictureOk_any (.slice (some ⟨w.heap.size, 0, none⟩) 0 0) [] (w.alloc (.cells #[] 46)) (.inr ⟨w.heap.size, 0, 0, rfl, Nat.le_refl _, fun i hi => by simp at hi⟩) (fun r hr => by cases hr) (by simp))
  have hpk : pok [] = false := by decide
  rw [hpk] at HP
  obtain ⟨a, c, rfl⟩ : ∃ a c, v = .slice a 0 c := h.lenv
  obtain ⟨a', c', rfl⟩ : ∃ a c, v' = .slice a 0 c := h'.lenv
  clear h h' hpk
  go_enter Try.func19, Try.ntmps19
  go_wp2
  go_loopw [19] (fun i wr => i = .int .i64 0 ∧ wr = w.alloc (.cells #[] 46)) (fun _ _ => 0)
  case atStart => exact ⟨rfl, rfl⟩
  case round =>
    obtain ⟨rfl, rfl⟩ := hrel
    go_wp2_with fail
    refine HP.out.mono ?_
    rintro e w1 ⟨rfl, hb⟩
    go_wp2
    go_ret2
    exact ⟨_, rfl, ((Below.refl _ _).alloc (Nat.le_refl _) _).trans (hb.mono (by simp))⟩
end Go.Proofs.Ytfoggbcfkniimaa
