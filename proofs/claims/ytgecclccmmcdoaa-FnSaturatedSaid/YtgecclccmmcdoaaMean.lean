/-
  What is proved: the walk of MeanRow.
  Conditions: both rows can be read.
-/
import Derived.Test.YtgecclccmmcdoaaPkConj
import Derived.StillTailTactics
import Derived.Deep.AppendLies
namespace Go.Proofs.Ytgecclccmmcdoaa
set_option linter.unusedVariables false
open Go.RowKit
attribute [local go_sem] run_store_float run_store_complex unary_negf neg256

theorem halfSum_any (x y : Nat) (w : World) (hx : Flt.fin x = true) (hy : Flt.fin y = true) :
    Calls Try.prog 133 #[.float .f32 x, .float .f32 y] w fun e w' => e = .returned (.float .f32 (Flt.half x y)) ∧ w = w' := by
  obtain ⟨r, hr, hq, _⟩ := Flt.half_fin hx hy
  have h1 := fun W => run_float_arith (P := Try.prog) W .add 26 .f32 _ _ _ hr
  have h2 := fun W => run_float_arith (P := Try.prog) W .quo 26 .f32 _ _ _ hq
  clear hr hq hx hy
  go_enter Try.func133, Try.ntmps133
  go_wp2
  go_ret
  exact ⟨rfl, rfl⟩
theorem l02Half_any (x y : Nat) (w : World) (hx : Flt.fin x = true) (hy : Flt.fin y = true) :
    Calls Try.prog 89 #[.float .f32 x, .float .f32 y] w fun e w' => e = .returned (.float .f32 (Flt.half x y)) ∧ w = w' := by
  obtain ⟨r, hr, hq, _⟩ := Flt.half_fin hx hy
  have h1 := fun W => run_float_arith (P := Try.prog) W .add 26 .f32 _ _ _ hr
  have h2 := fun W => run_float_arith (P := Try.prog) W .quo 26 .f32 _ _ _ hq
  clear hr hq hx hy
  go_enter Try.func89, Try.ntmps89
  go_wp2
  go_ret
  exact ⟨rfl, rfl⟩
theorem halfColour_any (u v u' v' : Nat) (w : World) (hu : Flt.fin u = true) (hv : Flt.fin v = true) (hu' : Flt.fin u' = true) (hv' : Flt.fin v' = true) :
    Calls Try.prog 103 #[.complex .f32 u v, .complex .f32 u' v'] w fun e w' => e = .returned (.complex .f32 (Flt.half u u') (Flt.half v v')) ∧ w = w' := by
  have HU := fun W => Lib.hid (halfSum_any u u' W hu hu')
  have HV := fun W => Lib.hid (halfSum_any v v' W hv hv')
  clear hu hv hu' hv'
  go_enter Try.func103, Try.ntmps103
  go_wp2_with fail
  refine (HU _).out.mono ?_
  rintro e w1 ⟨rfl, rfl⟩
  go_wp2_with fail
  refine (HV _).out.mono ?_
  rintro e w1 ⟨rfl, rfl⟩
  go_wp2
  go_ret
  exact ⟨rfl, rfl⟩
/-- The cell halfway between two. -/
def mid (c d : C3) : C3 := (Flt.half c.1 d.1, Flt.half c.2.1 d.2.1, Flt.half c.2.2 d.2.2)
def Finc (c : C3) : Prop := Flt.fin c.1 = true ∧ Flt.fin c.2.1 = true ∧ Flt.fin c.2.2 = true
end Go.Proofs.Ytgecclccmmcdoaa
