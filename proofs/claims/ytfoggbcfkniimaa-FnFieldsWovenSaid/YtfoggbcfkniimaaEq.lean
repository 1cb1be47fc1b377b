/-
  What is proved: the walks of the comparing of rows cell by cell (slices.Equal at cells, SameRows at one row each).
  Conditions: both rows can be read.
-/
import Derived.Test.YtfoggbcfkniimaaMeanRow
import Derived.Test.YtfoggbcfkniimaaPkCell
import Derived.Laws.StructEq
namespace Go.Proofs.Ytfoggbcfkniimaa
set_option linter.unusedVariables false
open Go.RowKit
attribute [local go_sem] run_store_float run_store_complex unary_negf neg256

/-- Are two numbers equal? -/
def feq (a b : Nat) : Bool := FloatKind.f32.format.order a b == some .eq
def ceq (c d : C3) : Bool := feq c.1 d.1 && (feq c.2.1 d.2.1 && feq c.2.2 d.2.2)
theorem eqf_float (d : Nat) (t : TypeId) (a b : Nat) (W : World) (h : Try.prog.underlying t = some (.float .f32)) : (Op.equalIn (d + 1) t (.float .f32 a) (.float .f32 b)).run Try.prog W = .ok (feq a b) W := by
  simp [Op.equalIn, run_underlying h, feq, Op.floatEq]
theorem eqf_complex (d : Nat) (t : TypeId) (a b a' b' : Nat) (W : World) (h : Try.prog.underlying t = some (.complex .f32)) : (Op.equalIn (d + 1) t (.complex .f32 a b) (.complex .f32 a' b')).run Try.prog W = .ok (feq a a' && feq b b') W := by
  simp [Op.equalIn, run_underlying h, feq, Op.floatEq]
theorem neq_cell (y u v y' u' v' : Nat) (W : World) : (binOp .neq 50 (.agg #[.float .f32 y, .complex .f32 u v]) (.agg #[.float .f32 y', .complex .f32 u' v'])).run Try.prog W = .ok (.bool (!(feq y y' && (feq u u' && feq v v')))) W := by
  have hS : Try.prog.underlying 50 = some (.struct (Try.prog.fieldsOf 50)) := by kernel_rfl
  have hp : Try.prog.stoodInHeld 50 = false := by kernel_rfl
  have u1 := Try.underlying22
  have u2 := Try.underlying48
  have a1 := Try.isAgg22
  have a2 := Try.isAgg48
  have z1 := Try.sizeOf22
  have z2 := Try.sizeOf48
  have e1 := eqf_float 9998 22 y y' W u1
  have e2 := eqf_complex 9998 48 u v u' v' W u2
  rw [run_neq_struct, show (10000 : Nat) = 9999 + 1 from rfl, run_equalIn_agg W 9999 50 _ _ hS hp]
  simp only [Program.fieldsOf, Try.underlying50]
  simp only [show (9998 + 1 : Nat) = 9999 from rfl] at e1 e2
  clear hS hp u1 u2
  go_simp
  cases feq y y' <;> cases feq u u' <;> cases feq v v' <;> simp
theorem guard_cell (op : BinOp) (x y : Operand) (xs ys : Array Value) (W : World) : (eqGuard op 50 x y (.agg xs) (.agg ys)).run Try.prog W = .ok () W := run_eqGuard_agg W op _ x y xs ys (by kernel_rfl)
attribute [local go_sem high] neq_cell guard_cell
/-- Two rows whose cells are equal. -/
def Alike (a b : List C3) : Prop := a.length = b.length ∧ ∀ i (h : i < a.length) (h' : i < b.length), (feq a[i].1 b[i].1 && (feq a[i].2.1 b[i].2.1 && feq a[i].2.2 b[i].2.2)) = true


/-- What equals itself. -/
theorem feq_self {x : Nat} (h : (Ieee.single.read x).isNaN = false) : feq x x = true := by
  unfold feq
  rw [show FloatKind.f32.format.order x x = some .eq from Flt.order_self h]; rfl
theorem feq_half {x : Nat} (h : Flt.fin x = true) : feq (Flt.half x x) x = true := by
  unfold feq
  rw [show FloatKind.f32.format.order (Flt.half x x) x = some .eq from Flt.half_self h]; rfl
theorem mid_self {a : List C3} (h : rok a = true) : Alike (List.zipWith mid a a) a := by
  refine ⟨by simp, fun i hi hi' => ?_⟩
  obtain ⟨h1, h2, h3⟩ := fin_at h hi'
  rw [List.getElem_zipWith]
  unfold mid
  simp only [feq_half h1, feq_half h2, feq_half h3, Bool.and_self]
theorem mid_swap {a b : List C3} (h : meanOk a b = true) : Alike (List.zipWith mid a b) (List.zipWith mid b a) := by
  unfold meanOk at h
  rw [Bool.and_eq_true, Bool.and_eq_true, decide_eq_true_iff] at h
  obtain ⟨ha, hb, hl⟩ := h
  refine ⟨by simp [hl], fun i hi hi' => ?_⟩
  have hia : i < a.length := by simp at hi; omega
  have hib : i < b.length := by omega
  obtain ⟨h1, h2, h3⟩ := fin_at ha hia
  obtain ⟨g1, g2, g3⟩ := fin_at hb hib
  rw [List.getElem_zipWith, List.getElem_zipWith]
  unfold mid
  simp only [Flt.half_comm b[i].1, Flt.half_comm b[i].2.1, Flt.half_comm b[i].2.2]
  obtain ⟨_, _, _, k1⟩ := Flt.half_fin h1 g1
  obtain ⟨_, _, _, k2⟩ := Flt.half_fin h2 g2
  obtain ⟨_, _, _, k3⟩ := Flt.half_fin h3 g3
  simp only [feq_self k1, feq_self k2, feq_self k3, Bool.and_self]
end Go.Proofs.Ytfoggbcfkniimaa
