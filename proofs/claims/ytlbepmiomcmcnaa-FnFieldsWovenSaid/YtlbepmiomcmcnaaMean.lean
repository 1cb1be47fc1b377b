/-
  What is proved: the walk of MeanRow.
  Conditions: both rows can be read.
-/
import Derived.Test.YtlbepmiomcmcnaaConjRow
import Derived.StillTailTactics
import Derived.Deep.AppendLies
namespace Go.Proofs.Ytlbepmiomcmcnaa
set_option linter.unusedVariables false
open Go.RowKit
attribute [local go_sem] run_store_float run_store_complex unary_negf neg256

theorem halfSum_any (x y : Nat) (w : World) (hx : Flt.fin x = true) (hy : Flt.fin y = true) :
    Calls Try.prog 56 #[.float .f32 x, .float .f32 y] w fun e w' => e = .returned (.float .f32 (Flt.half x y)) ∧ w = w' := by
  obtain ⟨r, hr, hq, _⟩ := Flt.half_fin hx hy
  have h1 := fun W => run_float_arith (P := Try.prog) W .add 41 .f32 _ _ _ hr
  have h2 := fun W => run_float_arith (P := Try.prog) W .quo 41 .f32 _ _ _ hq
  clear hr hq hx hy
  go_enter Try.func56, Try.ntmps56
  go_wp2
  go_ret
  exact ⟨rfl, rfl⟩
theorem l02Half_any (x y : Nat) (w : World) (hx : Flt.fin x = true) (hy : Flt.fin y = true) :
    Calls Try.prog 38 #[.float .f32 x, .float .f32 y] w fun e w' => e = .returned (.float .f32 (Flt.half x y)) ∧ w = w' := by
  obtain ⟨r, hr, hq, _⟩ := Flt.half_fin hx hy
  have h1 := fun W => run_float_arith (P := Try.prog) W .add 41 .f32 _ _ _ hr
  have h2 := fun W => run_float_arith (P := Try.prog) W .quo 41 .f32 _ _ _ hq
  clear hr hq hx hy
  go_enter Try.func38, Try.ntmps38
  go_wp2
  go_ret
  exact ⟨rfl, rfl⟩
theorem halfColour_any (u v u' v' : Nat) (w : World) (hu : Flt.fin u = true) (hv : Flt.fin v = true) (hu' : Flt.fin u' = true) (hv' : Flt.fin v' = true) :
    Calls Try.prog 57 #[.complex .f32 u v, .complex .f32 u' v'] w fun e w' => e = .returned (.complex .f32 (Flt.half u u') (Flt.half v v')) ∧ w = w' := by
  have HU := fun W => Lib.hid (halfSum_any u u' W hu hu')
  have HV := fun W => Lib.hid (halfSum_any v v' W hv hv')
  clear hu hv hu' hv'
  go_enter Try.func57, Try.ntmps57
  go_wp2_with fail
  refine (HU _).out.mono ?_
  rintro e w1 ⟨rfl, rfl⟩
  go_wp2_with fail
  refine (HV _).out.mono ?_
  rintro e w1 ⟨rfl, rfl⟩
  go_wp2
  go_ret
  exact ⟨rfl, rfl⟩
/-- The cell halfway between two. -/
def mid (c d : C3) : C3 := (Flt.half c.1 d.1, Flt.half c.2.1 d.2.1, Flt.half c.2.2 d.2.2)
def Finc (c : C3) : Prop := Flt.fin c.1 = true ∧ Flt.fin c.2.1 = true ∧ Flt.fin c.2.2 = true
set_option maxHeartbeats 4000000 in
theorem meanWith_any (c d : C3) (w : World) (hc : Finc c) (hd : Finc d) :
    Calls Try.prog 37 #[.agg #[.float .f32 c.1, .complex .f32 c.2.1 c.2.2], .agg #[.float .f32 d.1, .complex .f32 d.2.1 d.2.2]] w fun e w' => e = .returned (.agg #[.float .f32 (mid c d).1, .complex .f32 (mid c d).2.1 (mid c d).2.2]) ∧ Below w.heap.size w w' := by
  have HY := fun W => Lib.hid (halfSum_any c.1 d.1 W hc.1 hd.1)
  have HC := fun W => Lib.hid (halfColour_any c.2.1 c.2.2 d.2.1 d.2.2 W hc.2.1 hc.2.2 hd.2.1 hd.2.2)
  obtain ⟨y, u, v⟩ := c
  obtain ⟨y', u', v'⟩ := d
  unfold mid
  simp only at *
  clear hc hd
  generalize Flt.half y y' = hy at *
  generalize Flt.half u u' = hu at *
  generalize Flt.half v v' = hv at *
  obtain ⟨wA, hwA⟩ : ∃ wA, ((w.alloc (.cells #[.float .f32 y, .complex .f32 u v] 45)).alloc (.cells #[.float .f32 y', .complex .f32 u' v'] 45)).alloc (.cells #[.float .f32 0, .complex .f32 0 0] 45) = wA := ⟨_, rfl⟩
  have hb : Below w.heap.size w wA.drew := by
    rw [← hwA]
    exact ((((Below.refl _ _).alloc (Nat.le_refl _) _).alloc (by simp) _).alloc (by simp; omega) _).drew
  have h0 : wA.drew.heap[w.heap.size]? = some (.cells #[.float .f32 y, .complex .f32 u v] 45 (0, 0)) := by
    rw [← hwA]
    exact (Below.heap_alloc _ _ _ (by simp; omega)).trans ((Below.heap_alloc _ _ _ (by simp)).trans (heap_alloc_new w _))
  have h1 : wA.drew.heap[w.heap.size + 1]? = some (.cells #[.float .f32 y', .complex .f32 u' v'] 45 (0, 0)) := by
    rw [← hwA]
    have := heap_alloc_new (w.alloc (.cells #[.float .f32 y, .complex .f32 u v] 45)) (.cells #[.float .f32 y', .complex .f32 u' v'] 45)
    rw [World.size_alloc] at this
    exact (Below.heap_alloc _ _ _ (by simp)).trans this
  have h2 : wA.drew.heap[w.heap.size + 2]? = some (.cells #[.float .f32 0, .complex .f32 0 0] 45 (0, 0)) := by
    rw [← hwA]
    have := heap_alloc_new ((w.alloc (.cells #[.float .f32 y, .complex .f32 u v] 45)).alloc (.cells #[.float .f32 y', .complex .f32 u' v'] 45)) (.cells #[.float .f32 0, .complex .f32 0 0] 45)
    rw [World.size_alloc, World.size_alloc] at this
    exact this
  obtain ⟨wB, hwB⟩ : ∃ wB, wA.drew = wB := ⟨_, rfl⟩
  rw [hwB] at hb h0 h1 h2
  have a0 : wB.cell? ⟨w.heap.size, 0, none⟩ = some (.float .f32 y) := (cell_of_row _ _ 0 _ _ _ h0).trans rfl
  have a1 : wB.cell? ⟨w.heap.size, 1, none⟩ = some (.complex .f32 u v) := (cell_of_row _ _ 1 _ _ _ h0).trans rfl
  have b0 : wB.cell? ⟨w.heap.size + 1, 0, none⟩ = some (.float .f32 y') := (cell_of_row _ _ 0 _ _ _ h1).trans rfl
  have b1 : wB.cell? ⟨w.heap.size + 1, 1, none⟩ = some (.complex .f32 u' v') := (cell_of_row _ _ 1 _ _ _ h1).trans rfl
  have c0 : wB.cell? ⟨w.heap.size + 2, 0, none⟩ = some (.float .f32 0) := (cell_of_row _ _ 0 _ _ _ h2).trans rfl
  have c1 : wB.cell? ⟨w.heap.size + 2, 1, none⟩ = some (.complex .f32 0 0) := (cell_of_row _ _ 1 _ _ _ h2).trans rfl
  have f0 : wB.frozen? ⟨w.heap.size + 2, 0, none⟩ = false := by simp [World.frozen?, h2]
  have f1 : wB.frozen? ⟨w.heap.size + 2, 1, none⟩ = false := by simp [World.frozen?, h2]
  have hbel2 := (hb.setCell (p := ⟨w.heap.size + 2, 0, none⟩) (by simp) (.float .f32 hy)).setCell (p := ⟨w.heap.size + 2, 1, none⟩) (by simp) (.complex .f32 hu hv)
  have HB2 := Lib.hid (heap_put (i := 1) (v := .complex .f32 hu hv) (heap_put (i := 0) (v := .float .f32 hy) h2))
  clear h0 h1 h2 hb
  go_enter Try.func37, Try.ntmps37
  go_wp2
  try rw [hwA]
  refine wp_region_still_tail 11 (by kernel_rfl) (by kernel_rfl) ?_
  change wpStill _ _ wA.drew (fun a' => wpList _ _ _ _ a' wA.drew) _ _
  rw [hwB]
  simp only [List.take_succ_cons, List.take_zero, List.drop_succ_cons, List.drop_zero]
  clear hwA hwB
  repeat still_step
  still_call ((HY _).out.mono fun _ _ h => ⟨h.1, h.2.symm⟩)
  repeat still_step
  still_call ((HC _).out.mono fun _ _ h => ⟨h.1, h.2.symm⟩)
  repeat still_step
  refine wpStill_nil ?_
  go_wp2
  generalize ((wB.setCell ⟨w.heap.size + 2, 0, none⟩ (.float .f32 hy)).setCell ⟨w.heap.size + 2, 1, none⟩ (.complex .f32 hu hv)) = wC at *
  have d0 : wC.cell? ⟨w.heap.size + 2, 0, none⟩ = some (.float .f32 hy) := (cell_of_row _ _ 0 _ _ _ HB2.out).trans rfl
  have d1 : wC.cell? ⟨w.heap.size + 2, 1, none⟩ = some (.complex .f32 hu hv) := (cell_of_row _ _ 1 _ _ _ HB2.out).trans rfl
  refine bodyPost_ret (v := .agg #[.float .f32 hy, .complex .f32 hu hv]) ?_ rfl ⟨rfl, hbel2⟩
  simp [results, Try.results37, go_sem, d0, d1]
end Go.Proofs.Ytlbepmiomcmcnaa
