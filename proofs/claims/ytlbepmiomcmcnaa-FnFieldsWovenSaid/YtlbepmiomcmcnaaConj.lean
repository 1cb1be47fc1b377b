/-
  What is proved: the walks of the functions that make a cell of a cell (conjugated, scaled by 1), and of the generic function that makes a row of a row.
  Conditions: those that each fact names.
-/
import Derived.Test.YtlbepmiomcmcnaaRowOk
import Derived.Deep.RegionWith
import Derived.Laws.MakeOwn
import Derived.Laws.Rows
namespace Go.Proofs.Ytlbepmiomcmcnaa
set_option linter.unusedVariables false
open Go.RowKit
attribute [local go_sem] run_store_float run_store_complex unary_negf neg256
theorem heap_put {w : World} {b i : Nat} {c : Array Value} {t : TypeId} {v : Value} (h : w.heap[b]? = some (.cells c t (0, 0))) : (w.setCell ⟨b, i, none⟩ v).heap[b]? = some (.cells (c.setIfInBounds i v) t (0, 0)) := by
  simp [World.setCell, Array.getElem?_modify, h]

theorem conjugate_any (u v : Nat) (w : World) :
    Calls Try.prog 62 #[.complex .f32 u v] w fun e w' => e = .returned (.complex .f32 u (Op.negFloat .f32 v)) ∧ w = w' := by
  go_enter Try.func62, Try.ntmps62
  go_wp2
  go_ret
  exact ⟨rfl, rfl⟩

theorem conjugated_any (y u v : Nat) (w : World) :
    Calls Try.prog 42 #[.agg #[.float .f32 y, .complex .f32 u v]] w fun e w' => e = .returned (.agg #[.float .f32 y, .complex .f32 u (Op.negFloat .f32 v)]) ∧ Below w.heap.size w w' := by
  go_enter Try.func42, Try.ntmps42
  go_wp2
  go_region_with (go_at_call 62; refine (conjugate_any _ _ _).mono ?_; rintro e w2 ⟨rfl, rfl⟩)
  all_goals go_wp2
  all_goals refine bodyPost_ret (v := .agg #[.float .f32 y, .complex .f32 u (Op.negFloat .f32 v)]) ?_ rfl ⟨rfl, ?_⟩
  all_goals first | (simp [results, Try.results42, go_sem]; done) | exact (((Below.refl _ _).alloc (Nat.le_refl _) _).alloc (by simp) _).drew

theorem scaledColour_one (u v : Nat) (w : World) (hu : u < 2 ^ 32) (hv : v < 2 ^ 32) (fu : Flt.fin u = true) (fv : Flt.fin v = true) :
    Calls Try.prog 63 #[.complex .f32 u v, .float .f32 1065353216] w fun e w' => e = .returned (.complex .f32 u v) ∧ w = w' := by
  have h1 := fun W => run_float_arith (P := Try.prog) W .mul 41 .f32 _ _ u (Flt.mul_one32 hu fu)
  have h2 := fun W => run_float_arith (P := Try.prog) W .mul 41 .f32 _ _ v (Flt.mul_one32 hv fv)
  go_enter Try.func63, Try.ntmps63
  go_wp2
  go_ret
  exact ⟨rfl, rfl⟩
theorem scaled_one (y u v : Nat) (w : World) (hu : u < 2 ^ 32) (hv : v < 2 ^ 32) (fu : Flt.fin u = true) (fv : Flt.fin v = true) :
    Calls Try.prog 44 #[.agg #[.float .f32 y, .complex .f32 u v], .float .f32 1065353216] w fun e w' => e = .returned (.agg #[.float .f32 y, .complex .f32 u v]) ∧ Below w.heap.size w w' := by
  have HS := fun W => Lib.hid (scaledColour_one u v W hu hv fu fv)
  clear hu hv fu fv
  go_enter Try.func44, Try.ntmps44
  go_wp2
  go_region_with (go_at_call 63; refine (HS _).out.mono ?_; rintro e w2 ⟨rfl, rfl⟩)
  all_goals go_wp2
  all_goals refine bodyPost_ret (v := .agg #[.float .f32 y, .complex .f32 u v]) ?_ rfl ⟨rfl, ?_⟩
  all_goals first | (simp [results, Try.results44, go_sem]; done) | exact (((Below.refl _ _).alloc (Nat.le_refl _) _).alloc (by simp) _).drew
theorem scaleLit_one (y u v b : Nat) (w : World) (hu : u < 2 ^ 32) (hv : v < 2 ^ 32) (fu : Flt.fin u = true) (fv : Flt.fin v = true) (hb : w.cell? ⟨b, 0, none⟩ = some (.float .f32 1065353216)) :
    Calls Try.prog 43 #[.agg #[.float .f32 y, .complex .f32 u v], .pointer (some ⟨b, 0, none⟩)] w fun e w' => e = .returned (.agg #[.float .f32 y, .complex .f32 u v]) ∧ Below w.heap.size w w' := by
  have HS := fun W => Lib.hid (scaled_one y u v W hu hv fu fv)
  have hlt : b < w.heap.size := World.block_lt_of_cell? w _ hb
  clear hu hv fu fv
  go_enter Try.func43, Try.ntmps43
  go_wp2_with fail
  refine (HS _).out.mono ?_
  rintro e w1 ⟨rfl, hb1⟩
  have hz : ((w.alloc (.cells #[.float .f32 y, .complex .f32 u v] 45)).alloc (.cells #[.float .f32 0, .complex .f32 0 0] 45)).heap[w.heap.size + 1]? = some (.cells #[.float .f32 0, .complex .f32 0 0] 45 (0, 0)) := by
    have := heap_alloc_new (w.alloc (.cells #[.float .f32 y, .complex .f32 u v] 45)) (.cells #[.float .f32 0, .complex .f32 0 0] 45)
    simpa using this
  have hB : w1.heap[w.heap.size + 1]? = some (.cells #[.float .f32 0, .complex .f32 0 0] 45 (0, 0)) := (hb1.block _ (by simp)).trans hz
  have c0 : w1.cell? ⟨w.heap.size + 1, 0, none⟩ = some (.float .f32 0) := by simp [World.cell?, hB]
  have c1 : w1.cell? ⟨w.heap.size + 1, 1, none⟩ = some (.complex .f32 0 0) := by simp [World.cell?, hB]
  have f0 : w1.frozen? ⟨w.heap.size + 1, 0, none⟩ = false := by simp [World.frozen?, hB]
  have f1 : w1.frozen? ⟨w.heap.size + 1, 1, none⟩ = false := by simp [World.frozen?, hB]
  have hB2 := heap_put (i := 1) (v := .complex .f32 u v) (heap_put (i := 0) (v := .float .f32 y) hB)
  have d0 : ((w1.setCell ⟨w.heap.size + 1, 0, none⟩ (.float .f32 y)).setCell ⟨w.heap.size + 1, 1, none⟩ (.complex .f32 u v)).cell? ⟨w.heap.size + 1, 0, none⟩ = some (.float .f32 y) := by simp [World.cell?, hB2]
  have d1 : ((w1.setCell ⟨w.heap.size + 1, 0, none⟩ (.float .f32 y)).setCell ⟨w.heap.size + 1, 1, none⟩ (.complex .f32 u v)).cell? ⟨w.heap.size + 1, 1, none⟩ = some (.complex .f32 u v) := by simp [World.cell?, hB2]
  clear hz hB hB2
  have hbel : Below w.heap.size w w1 := ((Below.refl w.heap.size w).alloc (Nat.le_refl _) _ |>.alloc (by simp) _).trans (hb1.mono (by simp; omega))
  clear hb1
  have hbel2 := (hbel.setCell (p := ⟨w.heap.size + 1, 0, none⟩) (by simp) (.float .f32 y)).setCell (p := ⟨w.heap.size + 1, 1, none⟩) (by simp) (.complex .f32 u v)
  go_wp2
  generalize ((w1.setCell ⟨w.heap.size + 1, 0, none⟩ (.float .f32 y)).setCell ⟨w.heap.size + 1, 1, none⟩ (.complex .f32 u v)) = w2 at *
  refine bodyPost_ret (v := .agg #[.float .f32 y, .complex .f32 u v]) ?_ rfl ⟨rfl, ?_⟩
  · simp [results, Try.results43, go_sem, d0, d1]
  · exact hbel2
end Go.Proofs.Ytlbepmiomcmcnaa
