/-
  What is proved: what an operation on single floats may answer, NaN among them; that answers of equal operands are the same for the laws' comparing of floats.
  Conditions: those that each fact names.
-/
import Derived.Test.YtobpnoiienpipaaGreatPz01
import Derived.Test.YtobpnoiienpipaaGreatRows
import Derived.WalkKit
import Derived.WalkSpells
import Derived.Below
import Derived.Lib.Hide
import Derived.Laws.AppendOwn
import Derived.Lib.BufferWrite
import Derived.Lib.BufferOwn
import Derived.RegionTactic
import Derived.Deep.QuietTactic
import Derived.BigQuiet
import Derived.Deep.RegionWith
import Derived.Laws.MakeOwn
import Derived.Laws.Rows
namespace Go.Proofs.YtobpnoiienpipaaGreat
set_option linter.unusedVariables false
open Go.RowKit
attribute [local go_sem] run_store_float run_store_complex unary_negf neg256

def isN (x : Nat) : Bool := (Ieee.single.read x).isNaN
/-- The same number, or both NaN. -/
def Sm (x y : Nat) : Prop := x = y ∨ (isN x = true ∧ isN y = true)
theorem Sm.refl (x : Nat) : Sm x x := .inl rfl
theorem Sm.symm {x y : Nat} (h : Sm x y) : Sm y x := h.elim (fun e => .inl e.symm) fun h => .inr ⟨h.2, h.1⟩
/-- What an operation may answer. -/
def Res (op : BinOp) (x y r : Nat) : Prop := floatBits op .f32 x y = some r ∨ (floatBits op .f32 x y = none ∧ isN r = true)
theorem nan_read {x : Nat} (h : Ieee.single.infRung < x % Ieee.single.signWeight) : isN x = true := by
  have hb : Ieee.single.binade ≤ Ieee.single.infRung := by decide +kernel
  unfold isN Ieee.Format.read
  simp only
  rw [if_neg (by omega), if_neg (by omega), if_neg (by omega)]
  rfl
theorem nan_cut (x y t : Nat) : isN ((Question.nanBits .f32 x y).cut t) = true ∧ (Question.nanBits .f32 x y).cut t < 2 ^ 32 := by
  have h1 : Ieee.single.infRung = 2139095040 := by decide +kernel
  have h2 : Ieee.single.signWeight = 2147483648 := rfl
  constructor
  · refine nan_read ?_
    rw [h1, h2]
    simp only [Question.cut]
    have ha : t % 2 = 0 ∨ t % 2 = 1 := by omega
    have hb : t / 2 % (2 ^ 23 - 1) < 2 ^ 23 - 1 := Nat.mod_lt _ (by decide)
    generalize t / 2 % (2 ^ 23 - 1) = b at *
    rcases ha with h | h <;> rw [h] <;> omega
  · simp only [Question.cut]
    omega
def arith (op : BinOp) : Prop := op = .add ∨ op = .sub ∨ op = .mul ∨ op = .quo
theorem run_res (op : BinOp) (ho : arith op) (x y : Nat) (W : World) :
    ∃ r n, (binOp op 25 (.float .f32 x) (.float .f32 y)).run Tryz.prog W = .ok (.float .f32 r) (W.drewN n) ∧ Res op x y r ∧ r < 2 ^ 32 := by
  cases h : floatBits op .f32 x y with
  | some r => exact ⟨r, 0, run_float_arith (P := Tryz.prog) W op 25 .f32 x y r h, .inl h, by simpa [Lit.wf] using floatBits_wf h⟩
  | none =>
    have key : ∀ r : Option Nat, r = none → floatBits op .f32 x y = r → ∃ r' n, (binOp op 25 (.float .f32 x) (.float .f32 y)).run Tryz.prog W = .ok (.float .f32 r') (W.drewN n) ∧ (isN r' = true ∧ r' < 2 ^ 32) := by
      rintro _ rfl h
      rcases ho with rfl | rfl | rfl | rfl
      all_goals
        unfold floatBits at h
        simp only at h
        exact ⟨_, 1, by simp [binOp, Op.floatArith, h, Question.forced, World.drewN]; rfl, nan_cut x y _⟩
    obtain ⟨r, n, h1, h2, h3⟩ := key _ rfl h
    exact ⟨r, n, h1, .inr ⟨h, h2⟩, h3⟩
theorem res_any (op : BinOp) (ho : arith op) (x y : Nat) :
    (∃ r, Res op x y r ∧ ∀ W, (binOp op 25 (.float .f32 x) (.float .f32 y)).run Tryz.prog W = .ok (.float .f32 r) W) ∨
    (∀ W, ∃ r, Res op x y r ∧ (binOp op 25 (.float .f32 x) (.float .f32 y)).run Tryz.prog W = .ok (.float .f32 r) W.drew) := by
  cases h : floatBits op .f32 x y with
  | some r => exact .inl ⟨r, .inl h, fun W => run_float_arith (P := Tryz.prog) W op 25 .f32 x y r h⟩
  | none =>
    refine .inr fun W => ?_
    have key : ∀ r : Option Nat, r = none → floatBits op .f32 x y = r → ∃ r', (binOp op 25 (.float .f32 x) (.float .f32 y)).run Tryz.prog W = .ok (.float .f32 r') (W.drewN 1) ∧ isN r' = true := by
      rintro _ rfl h
      rcases ho with rfl | rfl | rfl | rfl
      all_goals
        unfold floatBits at h
        simp only at h
        exact ⟨_, by simp [binOp, Op.floatArith, h, Question.forced, World.drewN]; rfl, (nan_cut x y _).1⟩
    obtain ⟨r, h1, h2⟩ := key _ rfl h
    exact ⟨r, .inr ⟨h, h2⟩, h1⟩
theorem op_nan {op : BinOp} {x y : Nat} (h : isN x = true ∨ isN y = true) : floatBits op .f32 x y = none := by
  have hx : ∀ x, isN x = true → ∃ s p, Ieee.single.read x = .nan s p := by
    intro x h
    unfold isN at h
    cases hr : Ieee.single.read x <;> rw [hr] at h <;> simp [Ieee.Datum.isNaN] at h
    exact ⟨_, _, rfl⟩
  unfold floatBits
  rcases h with h | h
  · obtain ⟨s, p, e⟩ := hx _ h
    split <;> first | rfl | skip
    all_goals simp only [show FloatKind.f32.format = Ieee.single from rfl, Ieee.Format.add, Ieee.Format.sub, Ieee.Format.mul, Ieee.Format.div, e]
    all_goals cases Ieee.single.read y <;> simp [Ieee.Datum.sum, Ieee.Datum.product, Ieee.Datum.quotient, Ieee.Datum.opposite]
  · obtain ⟨s, p, e⟩ := hx _ h
    split <;> first | rfl | skip
    all_goals simp only [show FloatKind.f32.format = Ieee.single from rfl, Ieee.Format.add, Ieee.Format.sub, Ieee.Format.mul, Ieee.Format.div, e]
    all_goals cases Ieee.single.read x <;> simp [Ieee.Datum.sum, Ieee.Datum.product, Ieee.Datum.quotient, Ieee.Datum.opposite]
theorem Res.same {op : BinOp} {x x' y y' r r' : Nat} (hx : Sm x x') (hy : Sm y y') (h : Res op x y r) (h' : Res op x' y' r') : Sm r r' := by
  by_cases hn : isN x = true ∨ isN y = true
  · have hn' : isN x' = true ∨ isN y' = true := by
      rcases hn with h1 | h1
      · rcases hx with rfl | ⟨_, h2⟩
        · exact .inl h1
        · exact .inl h2
      · rcases hy with rfl | ⟨_, h2⟩
        · exact .inr h1
        · exact .inr h2
    have e := op_nan (op := op) hn
    have e' := op_nan (op := op) hn'
    rcases h with h | ⟨_, h⟩
    · rw [e] at h; cases h
    · rcases h' with h' | ⟨_, h'⟩
      · rw [e'] at h'; cases h'
      · exact .inr ⟨h, h'⟩
  · have ex : x = x' := hx.elim id fun h => absurd (.inl h.1) hn
    have ey : y = y' := hy.elim id fun h => absurd (.inr h.1) hn
    subst ex ey
    rcases h with h | ⟨h, h1⟩
    · rcases h' with h' | ⟨h', _⟩
      · rw [h] at h'; cases h'; exact .inl rfl
      · rw [h] at h'; cases h'
    · rcases h' with h' | ⟨_, h'⟩
      · rw [h] at h'; cases h'
      · exact .inr ⟨h1, h'⟩

theorem exp_le {x : Nat} {s : Bool} {m : Nat} {i : Int} (h : Ieee.single.read x = .number s m i) : i ≤ 104 := by
  have h1 : Ieee.single.infRung = 2139095040 := by decide +kernel
  have h2 : Ieee.single.binade = 8388608 := rfl
  have h3 : Ieee.single.leastPlace = -149 := Flt.place32
  unfold Ieee.Format.read at h
  simp only at h
  split at h
  · cases h; rw [h3]; decide
  · split at h
    · rename_i _ hr
      cases h
      rw [h3]
      rw [h1] at hr
      rw [h2]
      generalize x % Ieee.single.signWeight = r at *
      omega
    · split at h <;> cases h
theorem conv_num {x : Nat} (hx : isN x = false) : ∃ r, floatToFloatBits .f32 x .f64 = some r ∧ (Ieee.double.read r).isNaN = false := by
  unfold isN at hx
  cases hr : Ieee.single.read x with
  | nan s p => rw [hr] at hx; cases hx
  | infinity s =>
    have hdec : FloatKind.f32.decode x = .infinity s := hr
    refine ⟨FloatKind.f64.encode (.infinity s), ?_, by cases s <;> decide +kernel⟩
    unfold floatToFloatBits
    rw [if_neg (by decide)]
    simp only [hdec]
  | number s m i =>
    have hm := Flt.read_bound hr
    rw [Flt.frac32] at hm
    have hi := exp_le hr
    have h2 : -149 ≤ i := by obtain ⟨m', e', h, hle, _⟩ := Flt.read_num hr; rw [hr] at h; cases h; rw [Flt.place32] at hle; exact hle
    have hn : Flt.Num Ieee.double (Ieee.double.nearest s m i) s (m * 2 ^ (i + 1074).toNat) := by
      refine Flt.num_of Flt.fine64 s m _ i ?_ (Flt.rep_mul (Flt.rep_small (by rw [Flt.frc64]; omega)) _) ?_
      · rw [Flt.plc64, show (-1074 - i).toNat = 0 by omega, Nat.pow_zero, Nat.mul_one]; rfl
      · obtain ⟨C, hC, hC2⟩ : ∃ C, Flt.cap Ieee.double = C ∧ C = 2098 := ⟨_, rfl, Flt.cap64⟩
        rw [hC]
        obtain ⟨j, hj, hj2⟩ : ∃ j, (i + 1074).toNat = j ∧ 24 + j ≤ 2098 := ⟨_, rfl, by omega⟩
        rw [hj]
        have h5 : m * 2 ^ j < 2 ^ 24 * 2 ^ j := Nat.mul_lt_mul_of_pos_right hm (Flt.two_pos j)
        rw [← Nat.pow_add] at h5
        exact Nat.lt_of_lt_of_le h5 (Nat.pow_le_pow_right (by decide) (by omega))
    refine ⟨Ieee.double.nearest s m i, ?_, Flt.num_read hn⟩
    obtain ⟨m', e', hr', _, _⟩ := hn
    unfold floatToFloatBits
    rw [if_neg (by decide)]
    have hdec : FloatKind.f32.decode x = .number s m i := hr
    have henc : FloatKind.f64.encode (.number s m i) = Ieee.double.nearest s m i := rfl
    have hdec2 : FloatKind.f64.decode (Ieee.double.nearest s m i) = .number s m' e' := hr'
    simp only [hdec, henc, hdec2, Ieee.Datum.isInfinity]
    rfl
theorem nan64_cut (x t : Nat) : (Ieee.double.read ((Question.nanConv .f64 x).cut t)).isNaN = true := by
  have h1 : Ieee.double.infRung = 9218868437227405312 := by decide +kernel
  have h2 : Ieee.double.signWeight = 9223372036854775808 := rfl
  have hb : Ieee.double.binade ≤ Ieee.double.infRung := by decide +kernel
  have hlt : Ieee.double.infRung < (Question.nanConv .f64 x).cut t % Ieee.double.signWeight := by
    rw [h1, h2]
    simp only [Question.cut]
    have ha : t % 2 = 0 ∨ t % 2 = 1 := by omega
    have hb : t / 2 % (2 ^ 52 - 1) < 2 ^ 52 - 1 := Nat.mod_lt _ (by decide)
    generalize t / 2 % (2 ^ 52 - 1) = b at *
    rcases ha with h | h <;> rw [h] <;> omega
  unfold Ieee.Format.read
  simp only
  rw [if_neg (by omega), if_neg (by omega), if_neg (by omega)]
  rfl
/-- float64(x). -/
theorem conv_any (x : Nat) : (∃ r, (Ieee.double.read r).isNaN = false ∧ isN x = false ∧ ∀ W, (convert 25 80 (.float .f32 x)).run Tryz.prog W = .ok (.float .f64 r) (W.drewN 0)) ∨
    (isN x = true ∧ ∀ W, ∃ r, (Ieee.double.read r).isNaN = true ∧ (convert 25 80 (.float .f32 x)).run Tryz.prog W = .ok (.float .f64 r) (W.drewN 1)) := by
  cases h : isN x with
  | false =>
    obtain ⟨r, hr, hn⟩ := conv_num h
    exact .inl ⟨r, hn, rfl, fun W => run_convert_float_float (P := Tryz.prog) W 25 80 .f32 .f64 x r (by kernel_rfl) Tryz.underlying80 hr⟩
  | true =>
    refine .inr ⟨rfl, fun W => ?_⟩
    have hs := Tryz.underlying25
    have hd := Tryz.underlying80
    unfold isN at h
    cases hr : Ieee.single.read x with
    | number s m i => rw [hr] at h; cases h
    | infinity s => rw [hr] at h; cases h
    | nan s p =>
      have he : FloatKind.f32.decode x = .nan s p := hr
      exact ⟨_, nan64_cut x _, by simp [convert, run_underlying hs, run_underlying hd, Conv.floatToFloat, he, Question.forced, World.drewN]; rfl⟩
end Go.Proofs.YtobpnoiienpipaaGreat

/-
  What is proved: the cursor that the laws draw their arguments with: what its functions answer, and that they write into its own block alone.
  Conditions: the cursor's block holds a cursor.
-/
namespace Go.Proofs.YtobpnoiienpipaaGreat
set_option linter.unusedVariables false
open Go.RowKit

/-- The bytes that a cursor reads can be read. -/
def Src (w : World) (b : Nat) (a : Option Addr) (len cap : Nat) : Prop :=
  len ≤ 1099511627776 ∧ ∀ i, i < len → ∃ g off z : Nat, a = some ⟨g, off, none⟩ ∧ g < b ∧ z ≤ 255 ∧ w.cell? ⟨g, off + i, none⟩ = some (.int .u8 (z : Int))
/-- Block b holds a cursor. -/
def Cur (w : World) (b : Nat) : Prop :=
  ∃ (a : Option Addr) (len cap i : Nat) (h : Int), Src w b a len cap ∧ i ≤ len ∧ -9223372036854775808 ≤ h ∧ h ≤ 9223372036854775807 ∧
    w.heap[b]? = some (.cells #[.slice a len cap, .int .i64 (i : Int), .int .i64 h] 84 (0, 0))


theorem heap_set {w : World} {b i : Nat} {c : Array Value} {t : TypeId} {v : Value} (h : w.heap[b]? = some (.cells c t (0, 0))) : (w.setCell ⟨b, i, none⟩ v).heap[b]? = some (.cells (c.setIfInBounds i v) t (0, 0)) := by
  simp [World.setCell, Array.getElem?_modify, h]
theorem Src.grown {w w' : World} {b : Nat} {a : Option Addr} {len cap : Nat} (h : Src w b a len cap) (hg : w.grownBy w' (some b)) : Src w' b a len cap := by
  refine ⟨h.1, fun i hi => ?_⟩
  obtain ⟨g, off, z, h1, h2, h4, h5⟩ := h.2 i hi
  exact ⟨g, off, z, h1, h2, h4, hg.cell h5 (by simp; omega)⟩
theorem grownN {w w' : World} {row : Option Nat} (h : w.grownBy w' row) (n : Nat) : w.grownBy (w'.drewN n) row := ⟨h.os, h.tape, h.output, h.size, h.block⟩

def BytePost (b : Nat) (w : World) (e : Ending) (w' : World) : Prop :=
  ∃ x : Nat, x ≤ 255 ∧ e = .returned (.int .i64 (x : Int)) ∧ Cur w' b ∧ w.grownBy w' (some b)
theorem BytePost.mk {b : Nat} {w w' : World} {x : Nat} (hx : x ≤ 255) (hc : Cur w' b) (hg : w.grownBy w' (some b)) : BytePost b w (.returned (.int .i64 (x : Int))) w' := ⟨x, hx, rfl, hc, hg⟩
theorem Cur.next {w1 : World} {b : Nat} {a : Option Addr} {len cap i : Nat} {v h : Int} (hs : Src w1 b a len cap) (hil : i < len) (h0 : -9223372036854775808 ≤ v) (h1 : v ≤ 9223372036854775807)
    (hb : w1.heap[b]? = some (.cells (#[Value.slice a len cap, .int .i64 (i : Int), .int .i64 h].setIfInBounds 2 (.int .i64 v)) 84 (0, 0))) (n : Nat) :
    Cur ((w1.drewN n).setCell ⟨b, 1, none⟩ (.int .i64 ((i : Int) + 1))) b := by
  have hg : w1.grownBy ((w1.drewN n).setCell ⟨b, 1, none⟩ (.int .i64 ((i : Int) + 1))) (some b) := (grownN (World.grownBy.refl w1 (some b)) n).trans (Lib.grownBy_setCell _ _ _ _)
  exact ⟨a, len, cap, i + 1, v, hs.grown hg, hil, h0, h1, heap_set (w := w1.drewN n) hb⟩
theorem Cur.drewN {w : World} {b : Nat} (h : Cur w b) (n : Nat) : Cur (w.drewN n) b := h

def BelowPost (b : Nat) (n : Int) (w : World) (e : Ending) (w' : World) : Prop :=
  ∃ x : Nat, (0 < n → (x : Int) < n) ∧ (n ≤ 0 → x = 0) ∧ e = .returned (.int .i64 (x : Int)) ∧ Cur w' b ∧ w.grownBy w' (some b)
theorem BelowPost.mk {b : Nat} {n v : Int} {w w' : World} (x : Nat) (hv : v = (x : Int)) (h1 : 0 < n → (x : Int) < n) (h2 : n ≤ 0 → x = 0) (hc : Cur w' b) (hg : w.grownBy w' (some b)) : BelowPost b n w (.returned (.int .i64 v)) w' := ⟨x, h1, h2, by rw [hv], hc, hg⟩

def OncePost (b : Nat) (w : World) (e : Ending) (w' : World) : Prop :=
  ∃ t : Bool, e = .returned (.bool t) ∧ Cur w' b ∧ w.grownBy w' (some b)
theorem OncePost.mk {b : Nat} {w w' : World} {t : Bool} (hc : Cur w' b) (hg : w.grownBy w' (some b)) : OncePost b w (.returned (.bool t)) w' := ⟨t, rfl, hc, hg⟩
/-- A number of 64 bits with the property P. -/
def NumPost (P : Int → Prop) (b : Nat) (w : World) (e : Ending) (w' : World) : Prop :=
  ∃ x : Int, P x ∧ e = .returned (.int .i64 x) ∧ Cur w' b ∧ w.grownBy w' (some b)
theorem NumPost.mk {P : Int → Prop} {b : Nat} {w w' : World} {x : Int} (h : P x) (hc : Cur w' b) (hg : w.grownBy w' (some b)) : NumPost P b w (.returned (.int .i64 x)) w' := ⟨x, h, rfl, hc, hg⟩
theorem Cur.lt {w : World} {b : Nat} (h : Cur w b) : b < w.heap.size := by
  obtain ⟨_, _, _, _, _, _, _, _, _, hb⟩ := h
  exact (Array.getElem?_eq_some_iff.1 hb).1
theorem Cur.grown {w w' : World} {b : Nat} {row : Option Nat} (h : Cur w b) (hg : w.grownBy w' row) (hr : ∀ r, row = some r → b < r) : Cur w' b := by
  have hlt := h.lt
  obtain ⟨a, len, cap, i, v, hs, hi, h0, h1, hb⟩ := h
  have key : ∀ k, k ≤ b → w'.heap[k]? = w.heap[k]? := fun k hk => hg.block k (by omega) (fun e => by have := hr k e.symm; omega)
  refine ⟨a, len, cap, i, v, ⟨hs.1, fun j hj => ?_⟩, hi, h0, h1, by rw [key b (Nat.le_refl _)]; exact hb⟩
  obtain ⟨g, off, z, h1, h2, h4, h5⟩ := hs.2 j hj
  exact ⟨g, off, z, h1, h2, h4, by rw [World.cell?_of_block (key g (by show g ≤ b; omega))]; exact h5⟩
theorem Cur.alloc {w : World} {b : Nat} (h : Cur w b) (o : Obj) : Cur (w.alloc o) b := h.grown (World.grownBy_alloc w o none) (fun _ h => by cases h)

def I64 (x : Int) : Prop := -9223372036854775808 ≤ x ∧ x ≤ 9223372036854775807

def NewPost (w : World) (e : Ending) (w' : World) : Prop := e = .returned (.pointer (some ⟨w.heap.size, 0, none⟩)) ∧ Cur w' w.heap.size ∧ w.grownBy w' none
theorem NewPost.mk {w : World} {a : Option Addr} {len cap : Nat} {v : Int} (hs : Src w w.heap.size a len cap) (h0 : -9223372036854775808 ≤ v) (h1 : v ≤ 9223372036854775807) :
    NewPost w (.returned (.pointer (some ⟨w.heap.size, 0, none⟩))) (w.alloc (.cells #[.slice a len cap, .int .i64 0, .int .i64 v] 84)) := by
  refine ⟨rfl, ⟨a, len, cap, 0, v, hs.grown (World.grownBy_alloc _ _ _), Nat.zero_le _, h0, h1, heap_alloc_new w _⟩, World.grownBy_alloc _ _ _⟩
end Go.Proofs.YtobpnoiienpipaaGreat

/-
  What is proved: the walks of the functions that make a cell of a cell (conjugated, scaled by 1), and of the generic function that makes a row of a row.
  Conditions: those that each fact names.
-/
namespace Go.Proofs.YtobpnoiienpipaaGreat
set_option linter.unusedVariables false
open Go.RowKit
attribute [local go_sem] run_store_float run_store_complex unary_negf neg256
theorem heap_put {w : World} {b i : Nat} {c : Array Value} {t : TypeId} {v : Value} (h : w.heap[b]? = some (.cells c t (0, 0))) : (w.setCell ⟨b, i, none⟩ v).heap[b]? = some (.cells (c.setIfInBounds i v) t (0, 0)) := by
  simp [World.setCell, Array.getElem?_modify, h]

theorem conjugate_any (u v : Nat) (w : World) :
    Calls Tryz.prog 166 #[.complex .f32 u v] w fun e w' => e = .returned (.complex .f32 u (Op.negFloat .f32 v)) ∧ w = w' := by
  go_enter Tryz.func166, Tryz.ntmps166
  go_wp2
  go_ret
  exact ⟨rfl, rfl⟩

theorem conjugated_any (y u v : Nat) (w : World) :
    Calls Tryz.prog 161 #[.agg #[.float .f32 y, .complex .f32 u v]] w fun e w' => e = .returned (.agg #[.float .f32 y, .complex .f32 u (Op.negFloat .f32 v)]) ∧ Below w.heap.size w w' := by
  go_enter Tryz.func161, Tryz.ntmps161
  go_wp2
  go_region_with (go_at_call 166; refine (conjugate_any _ _ _).mono ?_; rintro e w2 ⟨rfl, rfl⟩)
  all_goals go_wp2
  all_goals refine bodyPost_ret (v := .agg #[.float .f32 y, .complex .f32 u (Op.negFloat .f32 v)]) ?_ rfl ⟨rfl, ?_⟩
  all_goals first | (simp [results, Tryz.results161, go_sem]; done) | exact (((Below.refl _ _).alloc (Nat.le_refl _) _).alloc (by simp) _).drew

end Go.Proofs.YtobpnoiienpipaaGreat

/-
  What is proved: the walk of the generic function that makes a row of a row, over whatever function value makes a cell of a cell.
  Conditions: the row is not empty and has at most 64 cells; the function value answers a cell and writes into new memory alone.
-/
namespace Go.Proofs.YtobpnoiienpipaaGreat
set_option linter.unusedVariables false
open Go.RowKit
attribute [local go_sem] run_store_float run_store_complex unary_negf neg256

theorem info_cell : (Tryz.prog.info? 61).map (fun i => (i.zero, i.size, i.bytes)) = some (some (.agg #[.float .f32 0, .complex .f32 0 0]), 2, 12) := by kernel_rfl
theorem make_cells (n : Nat) (hn : n ≤ 1000000) (W : World) : (Instr.makeSlice 40 (.int .i64 (n : Int)) (.int .i64 (n : Int))).run Tryz.prog W = .ok (.slice (some ⟨W.heap.size, 0, none⟩) n n) (W.alloc (.cells (madeCells #[.float .f32 0, .complex .f32 0 0] (n * 2)) 61)) := by
  obtain ⟨i0, hi, hz0, hz1, hz2⟩ := info_parts info_cell
  have h := run_make (P := Tryz.prog) W 40 61 i0 _ Tryz.underlying40 hi hz0 .i64 .i64 n n (by omega) (by omega) (by rw [hz2]; omega) (by omega)
  rw [hz1] at h
  simpa [Value.cells] using h

/-- The block holds n cells; the first k are those of cs. -/
def Made (w : World) (b n k : Nat) (cs : List C3) : Prop :=
  ∃ cur : Array Value, w.heap[b]? = some (.cells cur 61 (0, 0)) ∧ cur.size = n * 2 ∧ ∀ i (h : i < cs.length), i < k → cur[i * 2]? = some (.float .f32 cs[i].1) ∧ cur[i * 2 + 1]? = some (.complex .f32 cs[i].2.1 cs[i].2.2)
theorem Made.start (w : World) (n : Nat) (cs : List C3) : Made (w.alloc (.cells (madeCells #[.float .f32 0, .complex .f32 0 0] (n * 2)) 61)) w.heap.size n 0 cs :=
  ⟨_, heap_alloc_new w _, size_madeCells _ _, fun i h hi => by omega⟩
theorem Made.kept {w w' : World} {b n k : Nat} {cs : List C3} (h : Made w b n k cs) (hb : w'.heap[b]? = w.heap[b]?) : Made w' b n k cs := by
  obtain ⟨cur, h1, h2⟩ := h
  exact ⟨cur, hb.trans h1, h2⟩
theorem Made.step {w : World} {b n k : Nat} {cs : List C3} (h : Made w b n k cs) (hn : k < cs.length) (hk : cs.length ≤ n) :
    Made ((w.setCell ⟨b, k * 2, none⟩ (.float .f32 cs[k].1)).setCell ⟨b, k * 2 + 1, none⟩ (.complex .f32 cs[k].2.1 cs[k].2.2)) b n (k + 1) cs := by
  obtain ⟨cur, h1, h2, h3⟩ := h
  refine ⟨(cur.setIfInBounds (k * 2) (.float .f32 cs[k].1)).setIfInBounds (k * 2 + 1) (.complex .f32 cs[k].2.1 cs[k].2.2), heap_put (heap_put h1), by simp [h2], fun i hi hik => ?_⟩
  by_cases e : i = k
  · subst e
    constructor
    · rw [Array.getElem?_setIfInBounds, if_neg (by omega), Array.getElem?_setIfInBounds, if_pos rfl, if_pos (by omega)]
    · rw [Array.getElem?_setIfInBounds, if_pos rfl, if_pos (by simp; omega)]
  · obtain ⟨g1, g2⟩ := h3 i hi (by omega)
    constructor
    · rw [Array.getElem?_setIfInBounds, if_neg (by omega), Array.getElem?_setIfInBounds, if_neg (by omega)]; exact g1
    · rw [Array.getElem?_setIfInBounds, if_neg (by omega), Array.getElem?_setIfInBounds, if_neg (by omega)]; exact g2
theorem Made.row {w : World} {b n : Nat} {cs : List C3} (h : Made w b n n cs) (hn : cs.length = n) : RowV w (.slice (some ⟨b, 0, none⟩) n n) cs := by
  obtain ⟨cur, h1, h2, h3⟩ := h
  subst hn
  refine .inr ⟨b, 0, cs.length, rfl, Nat.le_refl _, fun i hi => ?_⟩
  obtain ⟨g1, g2⟩ := h3 i hi hi
  exact ⟨by simp [World.cell?, h1, g1], by simp [World.cell?, h1, g2]⟩
theorem Made.at {w : World} {b n k : Nat} {cs : List C3} (h : Made w b n k cs) (i : Nat) (hi : i < n) : (∃ x, w.cell? ⟨b, i * 2, none⟩ = some x) ∧ (∃ x, w.cell? ⟨b, i * 2 + 1, none⟩ = some x) ∧ w.frozen? ⟨b, i * 2, none⟩ = false ∧ w.frozen? ⟨b, i * 2 + 1, none⟩ = false := by
  obtain ⟨cur, h1, h2, _⟩ := h
  refine ⟨⟨cur[i * 2]'(by omega), ?_⟩, ⟨cur[i * 2 + 1]'(by omega), ?_⟩, ?_, ?_⟩
  · simp [World.cell?, h1, Array.getElem?_eq_getElem (show i * 2 < cur.size by omega)]
  · simp [World.cell?, h1, Array.getElem?_eq_getElem (show i * 2 + 1 < cur.size by omega)]
  · simp [World.frozen?, h1]
  · simp [World.frozen?, h1]

def RowPost (cs : List C3) (w : World) (e : Ending) (w' : World) : Prop := ∃ v', e = .returned v' ∧ RowV w' v' cs ∧ Below w.heap.size w w'
theorem RowPost.mk {cs : List C3} {w w' : World} {v' : Value} (h : RowV w' v' cs) (hb : Below w.heap.size w w') : RowPost cs w (.returned v') w' := ⟨v', rfl, h, hb⟩
end Go.Proofs.YtobpnoiienpipaaGreat

/-
  What is proved: what the functions that draw numbers, cells and rows of chapter 2 answer: numbers whose bits fit.
  Conditions: the cursor's block holds a cursor.
-/
namespace Go.Proofs.YtobpnoiienpipaaGreat
set_option linter.unusedVariables false
open Go.RowKit
attribute [local go_sem] run_store_float run_store_complex unary_negf neg256

theorem lt32 {x : Nat} (h : (Lit.float .f32 x).wf = true) : x < 2 ^ 32 := by simpa [Lit.wf] using h
def F64Post (b : Nat) (w : World) (e : Ending) (w' : World) : Prop := ∃ x, e = .returned (.float .f64 x) ∧ Cur w' b ∧ w.grownBy w' (some b)
theorem F64Post.mk {b x : Nat} {w w' : World} (hc : Cur w' b) (hg : w.grownBy w' (some b)) : F64Post b w (.returned (.float .f64 x)) w' := ⟨x, rfl, hc, hg⟩
def LvPost (b : Nat) (w : World) (e : Ending) (w' : World) : Prop := ∃ x, x < 2 ^ 32 ∧ e = .returned (.float .f32 x) ∧ Cur w' b ∧ w.grownBy w' (some b)
theorem LvPost.mk {b x : Nat} {w w' : World} (hx : x < 2 ^ 32) (hc : Cur w' b) (hg : w.grownBy w' (some b)) : LvPost b w (.returned (.float .f32 x)) w' := ⟨x, hx, rfl, hc, hg⟩
end Go.Proofs.YtobpnoiienpipaaGreat

/-
  What is proved: the walks of Conjugate, and of ScaleRow by 1.
  Conditions: the row's numbers fit their kind; at most 1000000 cells.
-/
namespace Go.Proofs.YtobpnoiienpipaaGreat
set_option linter.unusedVariables false
open Go.RowKit
attribute [local go_sem] run_store_float run_store_complex unary_negf neg256

def cj (c : C3) : C3 := (c.1, c.2.1, Op.negFloat .f32 c.2.2)
/-- The bits fit. -/
def Fit (cs : List C3) : Prop := ∀ c ∈ cs, c.1 < 2 ^ 32 ∧ c.2.1 < 2 ^ 32 ∧ c.2.2 < 2 ^ 32
theorem cj_cj (cs : List C3) : (cs.map cj).map cj = cs := by
  rw [List.map_map]
  have : cj ∘ cj = id := by funext c; simp [cj, Flt.neg_neg32]
  rw [this, List.map_id]
theorem rok_iff {cs : List C3} : rok cs = true ↔ (1 ≤ cs.length ∧ cs.length ≤ 64) ∧ ∀ c ∈ cs, Flt.fin c.1 = true ∧ Flt.fin c.2.1 = true ∧ Flt.fin c.2.2 = true := by
  unfold rok
  rw [Bool.and_eq_true, Bool.and_eq_true, decide_eq_true_iff, decide_eq_true_iff, List.all_eq_true]
  refine and_congr Iff.rfl (forall_congr' fun c => ?_)
  unfold okc
  rw [Bool.and_eq_true, Bool.and_eq_true]
theorem rok_cj {cs : List C3} (hf : Fit cs) (h : rok cs = true) : rok (cs.map cj) = true := by
  obtain ⟨h1, h2⟩ := rok_iff.1 h
  refine rok_iff.2 ⟨by simpa using h1, fun c hc => ?_⟩
  obtain ⟨d, hd, rfl⟩ := List.mem_map.1 hc
  obtain ⟨g1, g2, g3⟩ := h2 d hd
  exact ⟨g1, g2, Flt.fin_neg (hf d hd).2.2 g3⟩
theorem rok_ne {cs : List C3} (h : rok cs = true) : cs ≠ [] := by
  rintro rfl
  exact absurd h (by decide)
theorem RowV.nil (w : World) : RowV w (.slice none 0 0) [] := .inl ⟨rfl, rfl⟩

def ScalePost (cs : List C3) (w : World) (e : Ending) (w' : World) : Prop := ∃ v', e = .returned (.tuple #[v', .bool (rok cs)]) ∧ RowV w' v' (if rok cs = true then cs else []) ∧ Below w.heap.size w w'
theorem ScalePost.no {cs : List C3} {w w' : World} {v' : Value} (hr : rok cs = false) (h : RowV w' v' []) (hb : Below w.heap.size w w') : ScalePost cs w (.returned (.tuple #[v', .bool false])) w' := ⟨v', by rw [hr], by simpa [hr] using h, hb⟩
theorem ScalePost.yes {cs : List C3} {w w' : World} {v' : Value} (hr : rok cs = true) (h : RowV w' v' cs) (hb : Below w.heap.size w w') : ScalePost cs w (.returned (.tuple #[v', .bool true])) w' := ⟨v', by rw [hr], by simpa [hr] using h, hb⟩
end Go.Proofs.YtobpnoiienpipaaGreat
