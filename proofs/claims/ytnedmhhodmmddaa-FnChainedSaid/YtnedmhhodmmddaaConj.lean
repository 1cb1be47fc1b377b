/-
  What is proved: the walks of the functions that make a cell of a cell (conjugated, scaled by 1), and of the generic function that makes a row of a row.
  Conditions: those that each fact names.
-/
import Derived.Test.YtnedmhhodmmddaaRowOk
import Derived.Deep.RegionWith
import Derived.Laws.MakeOwn
import Derived.Laws.Rows
namespace Go.Proofs.Ytnedmhhodmmddaa
set_option linter.unusedVariables false
open Go.RowKit
attribute [local go_sem] run_store_float run_store_complex unary_negf neg256
theorem heap_put {w : World} {b i : Nat} {c : Array Value} {t : TypeId} {v : Value} (h : w.heap[b]? = some (.cells c t (0, 0))) : (w.setCell ⟨b, i, none⟩ v).heap[b]? = some (.cells (c.setIfInBounds i v) t (0, 0)) := by
  simp [World.setCell, Array.getElem?_modify, h]

theorem conjugate_any (u v : Nat) (w : World) :
    Calls Try.prog 48 #[.complex .f32 u v] w fun e w' => e = .returned (.complex .f32 u (Op.negFloat .f32 v)) ∧ w = w' := by
  go_enter Try.func48, Try.ntmps48
  go_wp2
  go_ret
  exact ⟨rfl, rfl⟩

theorem conjugated_any (y u v : Nat) (w : World) :
    Calls Try.prog 56 #[.agg #[.float .f32 y, .complex .f32 u v]] w fun e w' => e = .returned (.agg #[.float .f32 y, .complex .f32 u (Op.negFloat .f32 v)]) ∧ Below w.heap.size w w' := by
  go_enter Try.func56, Try.ntmps56
  go_wp2
  go_region_with (go_at_call 48; refine (conjugate_any _ _ _).mono ?_; rintro e w2 ⟨rfl, rfl⟩)
  all_goals go_wp2
  all_goals refine bodyPost_ret (v := .agg #[.float .f32 y, .complex .f32 u (Op.negFloat .f32 v)]) ?_ rfl ⟨rfl, ?_⟩
  all_goals first | (simp [results, Try.results56, go_sem]; done) | exact (((Below.refl _ _).alloc (Nat.le_refl _) _).alloc (by simp) _).drew

end Go.Proofs.Ytnedmhhodmmddaa
