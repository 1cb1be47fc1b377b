/-
  What is proved: the walk of Weave over two empty fields.
  Conditions: none.
-/
import Derived.Test.YtlbepmiomcmcnaaWeave
namespace Go.Proofs.Ytlbepmiomcmcnaa
set_option linter.unusedVariables false
open Go.RowKit Go.Shelf
attribute [local go_sem] run_store_float run_store_complex unary_negf neg256 Oper.semAt_some

set_option maxHeartbeats 2000000 in
theorem weave_none (v v' : Value) (w : World) (h : PicV w v []) (h' : PicV w v' []) :
    Calls Try.prog 10 #[v, v'] w fun e w' => ∃ v', e = .returned (.tuple #[v', .bool false]) ∧ Below w.heap.size w w' := by
  have HP := fun W => Lib.hid (pictureOk_any (.slice none 0 0) [] W (PicV.nil W) (fun r hr => by cases hr) (by simp))
  have hpk : pok [] = false := by decide
  rw [hpk] at HP
  obtain ⟨a, c, rfl⟩ : ∃ a c, v = .slice a 0 c := h.lenv
  obtain ⟨a', c', rfl⟩ : ∃ a c, v' = .slice a 0 c := h'.lenv
  clear h h' hpk
  go_enter Try.func10, Try.ntmps10
  go_wp2
  go_loop [6, 15] (fun u i => u = .slice none 0 0 ∧ i = .int .i64 0) (fun _ _ => 0)
  case atStart => exact ⟨rfl, rfl⟩
  case round =>
    obtain ⟨rfl, rfl⟩ := hrel
    go_wp2_with fail
    refine (HP _).out.mono ?_
    rintro e w1 ⟨rfl, hb⟩
    go_wp2
    go_ret2
    exact ⟨_, rfl, hb⟩
end Go.Proofs.Ytlbepmiomcmcnaa
