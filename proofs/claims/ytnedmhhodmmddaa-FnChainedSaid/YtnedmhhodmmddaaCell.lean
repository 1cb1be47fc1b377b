/-
  What is proved: the walks of the functions that tell whether a cell is valid (the program's and the model's), and of those that compare floats and colours for the laws.
  Conditions: those that each fact names.
-/
import Derived.Test.YtnedmhhodmmddaaRows
import Derived.Test.YtnedmhhodmmddaaF32
import Derived.WalkKit
import Derived.WalkSpells
import Derived.WalkLawsBesides
import Derived.Below
import Derived.Lib.Hide
import Derived.Laws.AppendOwn
import Derived.Lib.BufferWrite
import Derived.Lib.BufferOwn
import Derived.RegionTactic
import Derived.Deep.QuietTactic
import Derived.BigQuiet
namespace Go.Proofs.Ytnedmhhodmmddaa
set_option linter.unusedVariables false
open Go.RowKit

theorem run_store_float (P : Program) (w : World) (a : Addr) (m : Mode) (k : FloatKind) (b : Nat) : (store a (.float k b) m).run P w = stored P w a (.float k b) m := run_store P w a _ m rfl
theorem run_store_complex (P : Program) (w : World) (a : Addr) (m : Mode) (k : FloatKind) (x y : Nat) : (store a (.complex k x y) m).run P w = stored P w a (.complex k x y) m := run_store P w a _ m rfl
theorem unary_negf (k : FloatKind) (b : Nat) : Op.unary .neg (.float k b) = pure (.float k (Op.negFloat k b)) := rfl
theorem neg256 : Op.negFloat .f32 1132462080 = 3279945728 := by decide
attribute [local go_sem] run_store_float run_store_complex unary_negf neg256

theorem dorder_swap (x y : Ieee.Datum) : (x.order y == some .gt) = (y.order x == some .lt) ∧ (x.order y == some .eq) = (y.order x == some .eq) := by
  cases x with
  | number s m i => cases y with
    | number t n j =>
      simp only [Ieee.Datum.order]
      rw [Int.min_comm j i]
      generalize Ieee.signed s m (i - min i j).toNat = a
      generalize Ieee.signed t n (j - min i j).toNat = b
      rcases Int.lt_trichotomy a b with h | h | h
      · rw [Int.compare_eq_lt.2 h, Int.compare_eq_gt.2 h]; exact ⟨rfl, rfl⟩
      · subst h; rw [Int.compare_eq_eq.2 rfl]; exact ⟨rfl, rfl⟩
      · rw [Int.compare_eq_lt.2 h, Int.compare_eq_gt.2 h]; exact ⟨rfl, rfl⟩
    | infinity t => cases t <;> exact ⟨rfl, rfl⟩
    | nan t q => exact ⟨rfl, rfl⟩
  | infinity s => cases y with
    | number t n j => cases s <;> exact ⟨rfl, rfl⟩
    | infinity t => cases s <;> cases t <;> exact ⟨rfl, rfl⟩
    | nan t q => exact ⟨rfl, rfl⟩
  | nan s q => cases y <;> exact ⟨rfl, rfl⟩
theorem geq_lo (x : Nat) : (FloatKind.f32.format.order x 3279945728 == some .gt || FloatKind.f32.format.order x 3279945728 == some .eq) = Flt.lo x := by
  obtain ⟨h1, h2⟩ := dorder_swap (Ieee.single.read x) (Ieee.single.read 3279945728)
  show (Ieee.single.order x 3279945728 == some .gt || Ieee.single.order x 3279945728 == some .eq) = _
  unfold Flt.lo Ieee.Format.order
  rw [h1, h2]
theorem leq_lo (x : Nat) : (FloatKind.f32.format.order 3279945728 x == some .lt || FloatKind.f32.format.order 3279945728 x == some .eq) = Flt.lo x := rfl
theorem leq_hi (x : Nat) : (FloatKind.f32.format.order x 1132462080 == some .lt || FloatKind.f32.format.order x 1132462080 == some .eq) = Flt.hi x := rfl
attribute [local go_sem] geq_lo leq_lo leq_hi

theorem within_any (x : Nat) (w : World) :
    Calls Try.prog 64 #[.float .f32 x, .float .f32 1132462080] w fun e w' => e = .returned (.bool (Flt.fin x)) ∧ w = w' := by
  unfold Flt.fin
  cases h : Flt.lo x
  · go_enter Try.func64, Try.ntmps64
    go_wp2
    go_ret
    exact ⟨rfl, rfl⟩
  · go_enter Try.func64, Try.ntmps64
    go_wp2
    go_ret
    exact ⟨rfl, rfl⟩
theorem l02Fine_any (x : Nat) (w : World) :
    Calls Try.prog 43 #[.float .f32 x] w fun e w' => e = .returned (.bool (Flt.fin x)) ∧ w = w' := by
  unfold Flt.fin
  cases h : Flt.lo x
  · go_enter Try.func43, Try.ntmps43
    go_wp2
    go_ret
    exact ⟨rfl, rfl⟩
  · go_enter Try.func43, Try.ntmps43
    go_wp2
    go_ret
    exact ⟨rfl, rfl⟩

/-- A cell: the bits of its brightness and of both parts of its colour. -/
abbrev C3 := Nat × Nat × Nat
def cv (y u v : Nat) : Value := .agg #[.float .f32 y, .complex .f32 u v]
def okc (y u v : Nat) : Bool := Flt.fin y && (Flt.fin u && Flt.fin v)
theorem l02Colour_any (u v : Nat) (w : World) :
    Calls Try.prog 44 #[.complex .f32 u v] w fun e w' => e = .returned (.bool (Flt.fin u && Flt.fin v)) ∧ w = w' := by
  have hu := l02Fine_any u w
  have hv := l02Fine_any v w
  cases h : Flt.fin u
  · rw [h] at hu
    have HU := Lib.hid hu
    clear hu hv
    go_enter Try.func44, Try.ntmps44
    go_wp2_with (go_at_call 43; refine HU.out.mono ?_; rintro e w1 ⟨rfl, rfl⟩)
    go_ret
    exact ⟨rfl, rfl⟩
  · rw [h] at hu
    have HU := Lib.hid hu
    have HV := Lib.hid hv
    clear hu hv
    go_enter Try.func44, Try.ntmps44
    go_wp2_with (go_at_call 43; first | (refine HU.out.mono ?_; clear HU; rintro e w1 ⟨rfl, rfl⟩) | (refine HV.out.mono ?_; rintro e w1 ⟨rfl, rfl⟩))
    go_ret
    exact ⟨rfl, rfl⟩

theorem cellOk_any (y u v : Nat) (w : World) :
    Calls Try.prog 57 #[.agg #[.float .f32 y, .complex .f32 u v]] w fun e w' => e = .returned (.bool (okc y u v)) ∧ Below w.heap.size w w' := by
  have HW := fun x W => Lib.hid (within_any x W)
  unfold okc
  cases h : Flt.fin y
  · go_enter Try.func57, Try.ntmps57
    go_wp2_with fail
    refine (HW y _).out.mono ?_
    rintro e w1 ⟨rfl, rfl⟩
    rw [h]
    go_wp2
    go_ret
    exact ⟨rfl, (Below.refl _ _).alloc (Nat.le_refl _) _⟩
  · cases h1 : Flt.fin u
    · go_enter Try.func57, Try.ntmps57
      go_wp2_with fail
      refine (HW y _).out.mono ?_
      rintro e w1 ⟨rfl, rfl⟩
      rw [h]
      go_wp2_with fail
      refine (HW u _).out.mono ?_
      rintro e w1 ⟨rfl, rfl⟩
      rw [h1]
      go_wp2
      go_ret
      exact ⟨rfl, (Below.refl _ _).alloc (Nat.le_refl _) _⟩
    · go_enter Try.func57, Try.ntmps57
      go_wp2_with fail
      refine (HW y _).out.mono ?_
      rintro e w1 ⟨rfl, rfl⟩
      rw [h]
      go_wp2_with fail
      refine (HW u _).out.mono ?_
      rintro e w1 ⟨rfl, rfl⟩
      rw [h1]
      go_wp2_with fail
      refine (HW v _).out.mono ?_
      rintro e w1 ⟨rfl, rfl⟩
      go_wp2
      go_ret
      exact ⟨rfl, (Below.refl _ _).alloc (Nat.le_refl _) _⟩
theorem specCellOk_any (y u v : Nat) (w : World) :
    Calls Try.prog 19 #[.agg #[.float .f32 y, .complex .f32 u v]] w fun e w' => e = .returned (.bool (okc y u v)) ∧ Below w.heap.size w w' := by
  have HW := fun x W => Lib.hid (l02Fine_any x W)
  have HC := fun x y W => Lib.hid (l02Colour_any x y W)
  unfold okc
  cases h : Flt.fin y
  · go_enter Try.func19, Try.ntmps19
    go_wp2_with fail
    refine (HW y _).out.mono ?_
    rintro e w1 ⟨rfl, rfl⟩
    rw [h]
    go_wp2
    go_ret
    exact ⟨rfl, (Below.refl _ _).alloc (Nat.le_refl _) _⟩
  · go_enter Try.func19, Try.ntmps19
    go_wp2_with fail
    refine (HW y _).out.mono ?_
    rintro e w1 ⟨rfl, rfl⟩
    rw [h]
    go_wp2_with fail
    refine (HC u v _).out.mono ?_
    rintro e w1 ⟨rfl, rfl⟩
    go_wp2
    go_ret
    exact ⟨rfl, (Below.refl _ _).alloc (Nat.le_refl _) _⟩
end Go.Proofs.Ytnedmhhodmmddaa
