/-
  What is proved: what an operation on single floats may answer, NaN among them; that answers of equal operands are the same for the laws' comparing of floats.
  Conditions: those that each fact names.
-/
import Derived.Test.YtobpnoiienpipaaDoorPkCell
namespace Go.Proofs.YtobpnoiienpipaaDoor
set_option linter.unusedVariables false
open Go.RowKit
attribute [local go_sem] run_store_float run_store_complex unary_negf neg256

def isN (x : Nat) : Bool := (Ieee.single.read x).isNaN
/-- The same number, or both NaN. -/
def Sm (x y : Nat) : Prop := x = y ∨ (isN x = true ∧ isN y = true)
theorem Sm.refl (x : Nat) : Sm x x := .inl rfl
theorem Sm.symm {x y : Nat} (h : Sm x y) : Sm y x := h.elim (fun e => .inl e.symm) fun h => .inr ⟨h.2, h.1⟩
/-- What an operation may answer. -/
def Res (op : BinOp) (x y r : Nat) : Prop := floatBits op .f32 x y = some r ∨ (floatBits op .f32 x y = none ∧ isN r = true)
theorem rung_lt (x : Nat) : x % Ieee.single.signWeight < 2 ^ 31 := Nat.mod_lt _ (by decide)
theorem nan_read {x : Nat} (h : Ieee.single.infRung < x % Ieee.single.signWeight) : isN x = true := by
  have hb : Ieee.single.binade ≤ Ieee.single.infRung := by decide +kernel
  unfold isN Ieee.Format.read
  simp only
  rw [if_neg (by omega), if_neg (by omega), if_neg (by omega)]
  rfl
theorem nan_cut (x y t : Nat) : isN ((Question.nanBits .f32 x y).cut t) = true ∧ (Question.nanBits .f32 x y).cut t < 2 ^ 32 := by
  have h1 : Ieee.single.infRung = 2139095040 := by decide +kernel
  have h2 : Ieee.single.signWeight = 2147483648 := rfl
  constructor
  · refine nan_read ?_
    rw [h1, h2]
    simp only [Question.cut]
    have ha : t % 2 = 0 ∨ t % 2 = 1 := by omega
    have hb : t / 2 % (2 ^ 23 - 1) < 2 ^ 23 - 1 := Nat.mod_lt _ (by decide)
    generalize t / 2 % (2 ^ 23 - 1) = b at *
    rcases ha with h | h <;> rw [h] <;> omega
  · simp only [Question.cut]
    omega
def arith (op : BinOp) : Prop := op = .add ∨ op = .sub ∨ op = .mul ∨ op = .quo
theorem run_res (op : BinOp) (ho : arith op) (x y : Nat) (W : World) :
    ∃ r n, (binOp op 24 (.float .f32 x) (.float .f32 y)).run Tryd.prog W = .ok (.float .f32 r) (W.drewN n) ∧ Res op x y r ∧ r < 2 ^ 32 := by
  cases h : floatBits op .f32 x y with
  | some r => exact ⟨r, 0, run_float_arith (P := Tryd.prog) W op 24 .f32 x y r h, .inl h, by simpa [Lit.wf] using floatBits_wf h⟩
  | none =>
    have key : ∀ r : Option Nat, r = none → floatBits op .f32 x y = r → ∃ r' n, (binOp op 24 (.float .f32 x) (.float .f32 y)).run Tryd.prog W = .ok (.float .f32 r') (W.drewN n) ∧ (isN r' = true ∧ r' < 2 ^ 32) := by
      rintro _ rfl h
      rcases ho with rfl | rfl | rfl | rfl
      all_goals
        unfold floatBits at h
        simp only at h
        exact ⟨_, 1, by simp [binOp, Op.floatArith, h, Question.forced, World.drewN]; rfl, nan_cut x y _⟩
    obtain ⟨r, n, h1, h2, h3⟩ := key _ rfl h
    exact ⟨r, n, h1, .inr ⟨h, h2⟩, h3⟩
theorem res_any (op : BinOp) (ho : arith op) (x y : Nat) :
    (∃ r, Res op x y r ∧ ∀ W, (binOp op 24 (.float .f32 x) (.float .f32 y)).run Tryd.prog W = .ok (.float .f32 r) W) ∨
    (∀ W, ∃ r, Res op x y r ∧ (binOp op 24 (.float .f32 x) (.float .f32 y)).run Tryd.prog W = .ok (.float .f32 r) W.drew) := by
  cases h : floatBits op .f32 x y with
  | some r => exact .inl ⟨r, .inl h, fun W => run_float_arith (P := Tryd.prog) W op 24 .f32 x y r h⟩
  | none =>
    refine .inr fun W => ?_
    have key : ∀ r : Option Nat, r = none → floatBits op .f32 x y = r → ∃ r', (binOp op 24 (.float .f32 x) (.float .f32 y)).run Tryd.prog W = .ok (.float .f32 r') (W.drewN 1) ∧ isN r' = true := by
      rintro _ rfl h
      rcases ho with rfl | rfl | rfl | rfl
      all_goals
        unfold floatBits at h
        simp only at h
        exact ⟨_, by simp [binOp, Op.floatArith, h, Question.forced, World.drewN]; rfl, (nan_cut x y _).1⟩
    obtain ⟨r, h1, h2⟩ := key _ rfl h
    exact ⟨r, .inr ⟨h, h2⟩, h1⟩
theorem op_nan {op : BinOp} {x y : Nat} (h : isN x = true ∨ isN y = true) : floatBits op .f32 x y = none := by
  have hx : ∀ x, isN x = true → ∃ s p, Ieee.single.read x = .nan s p := by
    intro x h
    unfold isN at h
    cases hr : Ieee.single.read x <;> rw [hr] at h <;> simp [Ieee.Datum.isNaN] at h
    exact ⟨_, _, rfl⟩
  unfold floatBits
  rcases h with h | h
  · obtain ⟨s, p, e⟩ := hx _ h
    split <;> first | rfl | skip
    all_goals simp only [show FloatKind.f32.format = Ieee.single from rfl, Ieee.Format.add, Ieee.Format.sub, Ieee.Format.mul, Ieee.Format.div, e]
    all_goals cases Ieee.single.read y <;> simp [Ieee.Datum.sum, Ieee.Datum.product, Ieee.Datum.quotient, Ieee.Datum.opposite]
  · obtain ⟨s, p, e⟩ := hx _ h
    split <;> first | rfl | skip
    all_goals simp only [show FloatKind.f32.format = Ieee.single from rfl, Ieee.Format.add, Ieee.Format.sub, Ieee.Format.mul, Ieee.Format.div, e]
    all_goals cases Ieee.single.read x <;> simp [Ieee.Datum.sum, Ieee.Datum.product, Ieee.Datum.quotient, Ieee.Datum.opposite]
theorem Res.same {op : BinOp} {x x' y y' r r' : Nat} (hx : Sm x x') (hy : Sm y y') (h : Res op x y r) (h' : Res op x' y' r') : Sm r r' := by
  by_cases hn : isN x = true ∨ isN y = true
  · have hn' : isN x' = true ∨ isN y' = true := by
      rcases hn with h1 | h1
      · rcases hx with rfl | ⟨_, h2⟩
        · exact .inl h1
        · exact .inl h2
      · rcases hy with rfl | ⟨_, h2⟩
        · exact .inr h1
        · exact .inr h2
    have e := op_nan (op := op) hn
    have e' := op_nan (op := op) hn'
    rcases h with h | ⟨_, h⟩
    · rw [e] at h; cases h
    · rcases h' with h' | ⟨_, h'⟩
      · rw [e'] at h'; cases h'
      · exact .inr ⟨h, h'⟩
  · have ex : x = x' := hx.elim id fun h => absurd (.inl h.1) hn
    have ey : y = y' := hy.elim id fun h => absurd (.inr h.1) hn
    subst ex ey
    rcases h with h | ⟨h, h1⟩
    · rcases h' with h' | ⟨h', _⟩
      · rw [h] at h'; cases h'; exact .inl rfl
      · rw [h] at h'; cases h'
    · rcases h' with h' | ⟨_, h'⟩
      · rw [h] at h'; cases h'
      · exact .inr ⟨h1, h'⟩

theorem exp_le {x : Nat} {s : Bool} {m : Nat} {i : Int} (h : Ieee.single.read x = .number s m i) : i ≤ 104 := by
  have h1 : Ieee.single.infRung = 2139095040 := by decide +kernel
  have h2 : Ieee.single.binade = 8388608 := rfl
  have h3 : Ieee.single.leastPlace = -149 := Flt.place32
  unfold Ieee.Format.read at h
  simp only at h
  split at h
  · cases h; rw [h3]; decide
  · split at h
    · rename_i _ hr
      cases h
      rw [h3]
      rw [h1] at hr
      rw [h2]
      generalize x % Ieee.single.signWeight = r at *
      omega
    · split at h <;> cases h
theorem conv_num {x : Nat} (hx : isN x = false) : ∃ r, floatToFloatBits .f32 x .f64 = some r ∧ (Ieee.double.read r).isNaN = false := by
  unfold isN at hx
  cases hr : Ieee.single.read x with
  | nan s p => rw [hr] at hx; cases hx
  | infinity s =>
    have hdec : FloatKind.f32.decode x = .infinity s := hr
    refine ⟨FloatKind.f64.encode (.infinity s), ?_, by cases s <;> decide +kernel⟩
    unfold floatToFloatBits
    rw [if_neg (by decide)]
    simp only [hdec]
  | number s m i =>
    have hm := Flt.read_bound hr
    rw [Flt.frac32] at hm
    have hi := exp_le hr
    have h2 : -149 ≤ i := by obtain ⟨m', e', h, hle, _⟩ := Flt.read_num hr; rw [hr] at h; cases h; rw [Flt.place32] at hle; exact hle
    have hn : Flt.Num Ieee.double (Ieee.double.nearest s m i) s (m * 2 ^ (i + 1074).toNat) := by
      refine Flt.num_of Flt.fine64 s m _ i ?_ (Flt.rep_mul (Flt.rep_small (by rw [Flt.frc64]; omega)) _) ?_
      · rw [Flt.plc64, show (-1074 - i).toNat = 0 by omega, Nat.pow_zero, Nat.mul_one]; rfl
      · obtain ⟨C, hC, hC2⟩ : ∃ C, Flt.cap Ieee.double = C ∧ C = 2098 := ⟨_, rfl, Flt.cap64⟩
        rw [hC]
        obtain ⟨j, hj, hj2⟩ : ∃ j, (i + 1074).toNat = j ∧ 24 + j ≤ 2098 := ⟨_, rfl, by omega⟩
        rw [hj]
        have h5 : m * 2 ^ j < 2 ^ 24 * 2 ^ j := Nat.mul_lt_mul_of_pos_right hm (Flt.two_pos j)
        rw [← Nat.pow_add] at h5
        exact Nat.lt_of_lt_of_le h5 (Nat.pow_le_pow_right (by decide) (by omega))
    refine ⟨Ieee.double.nearest s m i, ?_, Flt.num_read hn⟩
    obtain ⟨m', e', hr', _, _⟩ := hn
    unfold floatToFloatBits
    rw [if_neg (by decide)]
    have hdec : FloatKind.f32.decode x = .number s m i := hr
    have henc : FloatKind.f64.encode (.number s m i) = Ieee.double.nearest s m i := rfl
    have hdec2 : FloatKind.f64.decode (Ieee.double.nearest s m i) = .number s m' e' := hr'
    simp only [hdec, henc, hdec2, Ieee.Datum.isInfinity]
    rfl
theorem nan64_cut (x t : Nat) : (Ieee.double.read ((Question.nanConv .f64 x).cut t)).isNaN = true := by
  have h1 : Ieee.double.infRung = 9218868437227405312 := by decide +kernel
  have h2 : Ieee.double.signWeight = 9223372036854775808 := rfl
  have hb : Ieee.double.binade ≤ Ieee.double.infRung := by decide +kernel
  have hlt : Ieee.double.infRung < (Question.nanConv .f64 x).cut t % Ieee.double.signWeight := by
    rw [h1, h2]
    simp only [Question.cut]
    have ha : t % 2 = 0 ∨ t % 2 = 1 := by omega
    have hb : t / 2 % (2 ^ 52 - 1) < 2 ^ 52 - 1 := Nat.mod_lt _ (by decide)
    generalize t / 2 % (2 ^ 52 - 1) = b at *
    rcases ha with h | h <;> rw [h] <;> omega
  unfold Ieee.Format.read
  simp only
  rw [if_neg (by omega), if_neg (by omega), if_neg (by omega)]
  rfl
/-- float64(x). -/
theorem conv_any (x : Nat) : (∃ r, (Ieee.double.read r).isNaN = false ∧ isN x = false ∧ ∀ W, (convert 24 76 (.float .f32 x)).run Tryd.prog W = .ok (.float .f64 r) (W.drewN 0)) ∨
    (isN x = true ∧ ∀ W, ∃ r, (Ieee.double.read r).isNaN = true ∧ (convert 24 76 (.float .f32 x)).run Tryd.prog W = .ok (.float .f64 r) (W.drewN 1)) := by
  cases h : isN x with
  | false =>
    obtain ⟨r, hr, hn⟩ := conv_num h
    exact .inl ⟨r, hn, rfl, fun W => run_convert_float_float (P := Tryd.prog) W 24 76 .f32 .f64 x r (by kernel_rfl) Tryd.underlying76 hr⟩
  | true =>
    refine .inr ⟨rfl, fun W => ?_⟩
    have hs := Tryd.underlying24
    have hd := Tryd.underlying76
    unfold isN at h
    cases hr : Ieee.single.read x with
    | number s m i => rw [hr] at h; cases h
    | infinity s => rw [hr] at h; cases h
    | nan s p =>
      have he : FloatKind.f32.decode x = .nan s p := hr
      exact ⟨_, nan64_cut x _, by simp [convert, run_underlying hs, run_underlying hd, Conv.floatToFloat, he, Question.forced, World.drewN]; rfl⟩
end Go.Proofs.YtobpnoiienpipaaDoor
