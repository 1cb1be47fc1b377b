/-
  What is proved: what the functions that draw numbers, cells and rows of chapter 2 answer: numbers whose bits fit.
  Conditions: the cursor's block holds a cursor.
-/
import Derived.Test.YtobpnoiienpipaaDoorCur
import Derived.Test.YtobpnoiienpipaaDoorPkConj
namespace Go.Proofs.YtobpnoiienpipaaDoor
set_option linter.unusedVariables false
open Go.RowKit
attribute [local go_sem] run_store_float run_store_complex unary_negf neg256

theorem lt32 {x : Nat} (h : (Lit.float .f32 x).wf = true) : x < 2 ^ 32 := by simpa [Lit.wf] using h
theorem lt64 {x : Nat} (h : (Lit.float .f64 x).wf = true) : x < 2 ^ 64 := by simpa [Lit.wf] using h

theorem conv32 (x : Nat) (W : World) : ∃ r n, (convert 76 24 (.float .f64 x)).run Tryd.prog W = .ok (.float .f32 r) (W.drewN n) ∧ r < 2 ^ 32 := by
  have hs := Tryd.underlying76
  have hd := Tryd.underlying24
  cases he : FloatKind.f64.decode x with
  | nan s q =>
    refine ⟨_, 1, by simp [convert, run_underlying hs, run_underlying hd, Conv.floatToFloat, he, Question.forced, World.drewN]; rfl, ?_⟩
    simp only [Question.cut]; omega
  | infinity s =>
    exact ⟨_, 0, by simp [convert, run_underlying hs, run_underlying hd, Conv.floatToFloat, he, World.drewN]; rfl, lt32 (encode_wf _ _)⟩
  | number s m e =>
    by_cases hi : (FloatKind.f32.decode (FloatKind.f32.encode (.number s m e))).isInfinity = true
    · refine ⟨_, 1, by simp [convert, run_underlying hs, run_underlying hd, Conv.floatToFloat, he, hi, Question.forced, World.drewN]; rfl, ?_⟩
      simp only [Question.cut]; omega
    · exact ⟨_, 0, by simp [convert, run_underlying hs, run_underlying hd, Conv.floatToFloat, he, hi, World.drewN]; rfl, lt32 (encode_wf _ _)⟩
theorem nan64 (W : World) : ∃ r n, (binOp .quo 76 (.float .f64 0) (.float .f64 0)).run Tryd.prog W = .ok (.float .f64 r) (W.drewN n) := by
  have h : FloatKind.f64.format.div 0 0 = none := by decide +kernel
  exact ⟨_, 1, by simp [binOp, Op.floatArith, h, Question.forced, World.drewN]; rfl⟩
theorem inf64p : floatBits .quo .f64 4607182418800017408 0 = some 9218868437227405312 := by decide +kernel
theorem inf64n : floatBits .quo .f64 13830554455654793216 0 = some 18442240474082181120 := by decide +kernel
theorem foi0 : floatOfInt .f64 0 = 0 := by decide +kernel
theorem foi16 (n : Int) : ∃ r, floatBits .quo .f32 (floatOfInt .f32 n) 1098907648 = some r ∧ r < 2 ^ 32 := by
  obtain ⟨r, hr, _⟩ := Flt.div_some (f := Ieee.single) (Flt.nearest_ok Ieee.single (n < 0) n.natAbs 0) (show Ieee.single.read 1098907648 = .number false 8388608 (-19) by decide +kernel) (by decide)
  exact ⟨r, hr, lt32 (floatBits_wf (op := .quo) (k := .f32) hr)⟩

def F64Post (b : Nat) (w : World) (e : Ending) (w' : World) : Prop := ∃ x, e = .returned (.float .f64 x) ∧ Cur w' b ∧ w.grownBy w' (some b)
theorem F64Post.mk {b x : Nat} {w w' : World} (hc : Cur w' b) (hg : w.grownBy w' (some b)) : F64Post b w (.returned (.float .f64 x)) w' := ⟨x, rfl, hc, hg⟩
set_option maxHeartbeats 2000000 in
theorem l01Odd_any (b : Nat) (w : World) (hc : Cur w b) :
    Calls Tryd.prog 78 #[.pointer (some ⟨b, 0, none⟩)] w fun e w' => F64Post b w e w' := by
  have h1 := fun W => run_float_arith (P := Tryd.prog) W .quo 76 .f64 _ _ _ inf64p
  have h2 := fun W => run_float_arith (P := Tryd.prog) W .quo 76 .f64 _ _ _ inf64n
  have h3 := foi0
  go_enter Tryd.func78, Tryd.ntmps78
  go_wp2_with fail
  refine (l01Below_any _ _ _ hc (by decide) (by decide)).mono ?_
  rintro e w1 ⟨x, hx, _, rfl, hc1, hg1⟩
  clear hx
  go_wp2_with fail
  refine (l01Below_any _ _ _ hc1 (by decide) (by decide)).mono ?_
  rintro e w2 ⟨y, hy, _, rfl, hc2, hg2⟩
  have hy := hy (by decide)
  obtain ⟨r, n, hn⟩ := nan64 w2
  have hg := hg1.trans hg2
  have hgn := grownN hg n
  have hcn := hc2.drewN n
  clear hg1 hg2 hc1 hc
  rcases (by omega : y = 0 ∨ y = 1 ∨ y = 2 ∨ y = 3 ∨ y = 4 ∨ y = 5 ∨ y = 6 ∨ y = 7) with rfl | rfl | rfl | rfl | rfl | rfl | rfl | rfl
  all_goals
    go_wp2
    go_ret
    first | exact F64Post.mk hcn hgn | exact F64Post.mk hc2 hg

def LvPost (b : Nat) (w : World) (e : Ending) (w' : World) : Prop := ∃ x, x < 2 ^ 32 ∧ e = .returned (.float .f32 x) ∧ Cur w' b ∧ w.grownBy w' (some b)
theorem LvPost.mk {b x : Nat} {w w' : World} (hx : x < 2 ^ 32) (hc : Cur w' b) (hg : w.grownBy w' (some b)) : LvPost b w (.returned (.float .f32 x)) w' := ⟨x, hx, rfl, hc, hg⟩
end Go.Proofs.YtobpnoiienpipaaDoor
