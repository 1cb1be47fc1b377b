/-
  What is proved: the walk of the law FnExactNewSet.
  Conditions: none beyond the arguments' own.
-/
import Derived.Test.YtfoggbcfkniimaaNewSet
namespace Go.Proofs.Ytfoggbcfkniimaa
set_option linter.unusedVariables false
open Go.RowKit
attribute [local go_sem] run_store_float run_store_complex unary_negf neg256

set_option maxRecDepth 100000 in
set_option maxHeartbeats 4000000 in
theorem walk_FnExactNewSet (c r : Int) (w : World) (wc : (Lit.int .i64 c).wf = true) (wr : (Lit.int .i64 r).wf = true) :
    Calls Try.prog 4 #[.int .i64 c, .int .i64 r] w fun e w' => e = .returned (.bool true) ∧ Below w.heap.size w w' := by
  have hc : I64 c := by simpa [I64, Lit.wf, IntKind.min, IntKind.max, IntKind.signed, IntKind.bits] using wc
  have hr : I64 r := by simpa [I64, Lit.wf, IntKind.min, IntKind.max, IntKind.signed, IntKind.bits] using wr
  have HN := fun W => Lib.hid (newSet_any c r W hc hr)
  have HS := fun W => Lib.hid (specNewSet_any c r W hc hr)
  clear wc wr hc hr
  generalize newB c r = b at *
  generalize newR c r = x at *
  have HE := fun W => Lib.hid (eqSet_any x x (.slice none 0 0) (.slice none 0 0) [] 0 0 W (SetC.Same.refl x) (OwnS.nil _ _) (OwnS.nil _ _) (by simp))
  have HM := fun W => Lib.hid (markSet_any x 1 0 (.slice none 0 0) [] W (OwnS.nil _ _) (by decide) (by decide) (by simp))
  have HH := fun W => Lib.hid (heldSet_any x 1 0 0 (.slice none 0 0) W (OwnS.nil _ _) (by decide) (by decide) (by simp))
  have HB := fun W t => Lib.hid (SetAt.new W x (.slice none 0 0) t)
  obtain ⟨xc, xr, xs, xl, xt⟩ := x
  simp only [SetC.val, SetC.cells] at *
  go_enter Try.func4, Try.ntmps4
  go_wp2_with fail
  refine (HS _).out.mono ?_
  rintro e w1 ⟨rfl, hb1⟩
  have a1 := (HB w1 28).out
  have g1 := hb1.alloc hb1.size (.cells #[.int .i64 xc, .int .i64 xr, .float .f32 xs, .float .f32 xl, .float .f32 xt, .slice none 0 0] 28)
  have z1 : w1.heap.size < (w1.alloc (.cells #[.int .i64 xc, .int .i64 xr, .float .f32 xs, .float .f32 xl, .float .f32 xt, .slice none 0 0] 28)).heap.size := by simp
  clear HS hb1
  go_wp2_with fail
  generalize World.alloc w1 _ = W1 at *
  refine (HN _).out.mono ?_
  rintro e w2 ⟨rfl, hb2⟩
  have a2 := (HB w2 28).out
  have a1' := a1.keep (hb2.alloc hb2.size (.cells #[.int .i64 xc, .int .i64 xr, .float .f32 xs, .float .f32 xl, .float .f32 xt, .slice none 0 0] 28)) z1
  have g2 := below_trans g1 (hb2.alloc hb2.size (.cells #[.int .i64 xc, .int .i64 xr, .float .f32 xs, .float .f32 xl, .float .f32 xt, .slice none 0 0] 28)) g1.size
  have z2 : w2.heap.size < (w2.alloc (.cells #[.int .i64 xc, .int .i64 xr, .float .f32 xs, .float .f32 xl, .float .f32 xt, .slice none 0 0] 28)).heap.size := by simp
  have z1' : w1.heap.size < (w2.alloc (.cells #[.int .i64 xc, .int .i64 xr, .float .f32 xs, .float .f32 xl, .float .f32 xt, .slice none 0 0] 28)).heap.size := by have := hb2.size; omega
  obtain ⟨p0, p1, p2, p3, p4, p5⟩ := id a1'
  obtain ⟨q0, q1, q2, q3, q4, q5⟩ := id a2
  clear a1 hb2 g1 z1
  go_wp2_with fail
  generalize World.alloc w2 _ = W2 at *
  refine (HE _).out.mono ?_
  rintro e w3 ⟨rfl, hb3⟩
  clear p0 p1 p2 p3 p4 p5 q0 q1 q2 q3 q4 q5
  have g3 := below_trans g2 hb3 g2.size
  have A1 := a1'.keep hb3 z1'
  have A2 := a2.keep hb3 z2
  replace z1' := Nat.lt_of_lt_of_le z1' hb3.size
  replace z2 := Nat.lt_of_lt_of_le z2 hb3.size
  obtain ⟨q0, q1, q2, q3, q4, q5⟩ := id A2
  clear a1' a2 hb3 g2
  go_wp2_with fail
  refine (HM _).out.mono ?_
  rintro e w4 ⟨rfl, _, hg⟩
  have hb4 : Below w3.heap.size w3 w4 := (Below.refl _ _).grown hg (Nat.le_refl _) (fun r e => by cases e)
  clear q0 q1 q2 q3 q4 q5
  have g4 := below_trans g3 hb4 g3.size
  have B1 := A1.keep hb4 z1'
  have B2 := A2.keep hb4 z2
  replace z1' := Nat.lt_of_lt_of_le z1' hb4.size
  replace z2 := Nat.lt_of_lt_of_le z2 hb4.size
  obtain ⟨q0, q1, q2, q3, q4, q5⟩ := id B2
  clear A1 A2 hb4 g3 hg
  go_wp2_with fail
  refine (HH _).out.mono ?_
  rintro e w5 ⟨rfl, hb5⟩
  clear q0 q1 q2 q3 q4 q5
  have g5 := below_trans g4 hb5 g4.size
  have C1 := B1.keep hb5 z1'
  have C2 := B2.keep hb5 z2
  replace z1' := Nat.lt_of_lt_of_le z1' hb5.size
  replace z2 := Nat.lt_of_lt_of_le z2 hb5.size
  clear B1 B2 hb5 g4
  go_wp2_with fail
  refine (HN _).out.mono ?_
  rintro e w6 ⟨rfl, hb6⟩
  have a3 := (HB w6 28).out
  have D1 := C1.keep (hb6.alloc hb6.size (.cells #[.int .i64 xc, .int .i64 xr, .float .f32 xs, .float .f32 xl, .float .f32 xt, .slice none 0 0] 28)) z1'
  have D2 := C2.keep (hb6.alloc hb6.size (.cells #[.int .i64 xc, .int .i64 xr, .float .f32 xs, .float .f32 xl, .float .f32 xt, .slice none 0 0] 28)) z2
  have g6 := below_trans g5 (hb6.alloc hb6.size (.cells #[.int .i64 xc, .int .i64 xr, .float .f32 xs, .float .f32 xl, .float .f32 xt, .slice none 0 0] 28)) g5.size
  have z3 : w2.heap.size < (w6.alloc (.cells #[.int .i64 xc, .int .i64 xr, .float .f32 xs, .float .f32 xl, .float .f32 xt, .slice none 0 0] 28)).heap.size := by have := hb6.size; simp; omega
  obtain ⟨p0, p1, p2, p3, p4, p5⟩ := id D1
  obtain ⟨q0, q1, q2, q3, q4, q5⟩ := id a3
  clear C1 C2 hb6 g5 a3 D1
  go_wp2_with fail
  generalize World.alloc w6 _ = W6 at *
  refine (HE _).out.mono ?_
  rintro e w7 ⟨rfl, hb7⟩
  clear p0 p1 p2 p3 p4 p5 q0 q1 q2 q3 q4 q5
  have g7 := below_trans g6 hb7 g6.size
  have E2 := D2.keep hb7 z3
  obtain ⟨q0, q1, q2, q3, q4, q5⟩ := id E2
  clear D2 hb7 g6 E2
  go_wp2_with fail
  refine (HH _).out.mono ?_
  rintro e w8 ⟨rfl, hb8⟩
  have g8 := below_trans g7 hb8 g7.size
  clear q0 q1 q2 q3 q4 q5 hb8 g7
  go_wp2
  go_ret
  exact ⟨rfl, g8⟩
end Go.Proofs.Ytfoggbcfkniimaa
