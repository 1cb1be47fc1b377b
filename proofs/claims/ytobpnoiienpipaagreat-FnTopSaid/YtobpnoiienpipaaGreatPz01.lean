/-
  What is proved: facts about singles: a number of at most 256; its product with 1, its negative, its sum with another, half of it, its double.
  Conditions: those that each fact names.
-/
import Derived.Test.YtobpnoiienpipaaGreatPz00
import Derived.WalkLawsBesides
import Derived.Test.YtobpnoiienpipaaGreatRows
import Derived.WalkKit
import Derived.WalkSpells
import Derived.Below
import Derived.Lib.Hide
import Derived.Laws.AppendOwn
import Derived.Lib.BufferWrite
import Derived.Lib.BufferOwn
import Derived.RegionTactic
import Derived.Deep.QuietTactic
import Derived.BigQuiet

namespace Go.Proofs.YtobpnoiienpipaaGreat.Flt
set_option linter.unusedVariables false
open Ieee

theorem unit32 : unit single = 149 := by decide
theorem bin32 : single.binade = 2 ^ 23 := rfl
theorem inf32 : single.infRung = 255 * 2 ^ 23 := by decide +kernel
theorem sw32 : single.signWeight = 2 ^ 31 := rfl
theorem cap32 : cap single = 277 := by decide
theorem place32 : single.leastPlace = -149 := by decide
theorem frac32 : single.fractionBits = 23 := rfl

theorem word_parts32 (p : Nat) (h : p < 2 ^ 32) : ∃ s r, p = single.word s r ∧ r < 2 ^ 31 := by
  refine ⟨decide (2 ^ 31 ≤ p), p % 2 ^ 31, ?_, Nat.mod_lt _ (by decide)⟩
  unfold Format.word
  rw [sw32]
  by_cases h1 : 2 ^ 31 ≤ p
  · rw [decide_eq_true h1, if_pos rfl]; omega
  · rw [decide_eq_false h1, if_neg (by simp)]; omega
theorem word_lt32 (s : Bool) (r : Nat) (h : r < 2 ^ 31) : single.word s r < 2 ^ 32 := by
  unfold Format.word; rw [sw32]; cases s <;> simp <;> omega

theorem xor_hi (r : Nat) (h : r < 2 ^ 31) : r ^^^ 2 ^ 31 = 2 ^ 31 + r := by
  have e := Nat.two_pow_add_eq_or_of_lt h 1
  rw [Nat.mul_one] at e
  rw [e]
  apply Nat.eq_of_testBit_eq
  intro i
  rw [Nat.testBit_xor, Nat.testBit_or, Nat.testBit_two_pow]
  by_cases hi : 31 = i
  · subst hi
    rw [Nat.testBit_lt_two_pow h]; simp
  · rw [decide_eq_false hi]; simp
theorem neg_word32 (s : Bool) (r : Nat) (h : r < 2 ^ 31) : Op.negFloat .f32 (single.word s r) = single.word (!s) r := by
  show (single.word s r) ^^^ 2 ^ 31 = _
  unfold Format.word
  rw [sw32]
  cases s
  · simp only [Bool.false_eq_true, if_false, Bool.not_false, if_true]; exact xor_hi r h
  · simp only [Bool.not_true, if_true, Bool.false_eq_true, if_false]
    rw [← xor_hi r h, Nat.xor_assoc, Nat.xor_self, Nat.xor_zero]
theorem neg_neg32 (x : Nat) : Op.negFloat .f32 (Op.negFloat .f32 x) = x := by
  show x ^^^ 2 ^ 31 ^^^ 2 ^ 31 = x
  rw [Nat.xor_assoc, Nat.xor_self, Nat.xor_zero]
theorem neg_lt32 {x : Nat} (h : x < 2 ^ 32) : Op.negFloat .f32 x < 2 ^ 32 := by
  obtain ⟨s, r, rfl, hr⟩ := word_parts32 x h
  rw [neg_word32 s r hr]; exact word_lt32 _ _ hr

/-- The parts of a number. -/
theorem read_num {f : Format} {b : Nat} {s : Bool} {m : Nat} {e : Int} (h : f.read b = .number s m e) : Num f b s (m * 2 ^ (e - f.leastPlace).toNat) := by
  refine ⟨m, e, h, ?_, rfl⟩
  unfold Format.read at h
  dsimp only at h
  split at h
  · injection h with h1 h2 h3; omega
  · split at h
    · injection h with h1 h2 h3; omega
    · split at h <;> cases h
theorem num_neg32 {x : Nat} {s : Bool} {u : Nat} (hx : x < 2 ^ 32) (h : Num single x s u) : Num single (Op.negFloat .f32 x) (!s) u := by
  obtain ⟨t, r, rfl, hr⟩ := word_parts32 x hx
  rw [neg_word32 t r hr]
  obtain ⟨m, e, h1, h2, h3⟩ := h
  have hr1 : r < single.signWeight := hr
  rw [read_word _ _ _ hr1] at h1
  refine ⟨m, e, ?_, h2, h3⟩
  rw [read_word _ _ _ hr1]
  split at h1
  · rw [if_pos (by assumption)]; injection h1 with e1 e2 e3; rw [e1, e2, e3]
  · split at h1
    · rw [if_neg (by assumption), if_pos (by assumption)]; injection h1 with e1 e2 e3; rw [e1, e2, e3]
    · split at h1 <;> cases h1

/-- The units of 256. -/
def LIM : Nat := 2 ^ 157
/-- Is the number at most 256, whatever its sign? -/
def lo (x : Nat) : Bool := single.order 3279945728 x == some .lt || single.order 3279945728 x == some .eq
def hi (x : Nat) : Bool := single.order x 1132462080 == some .lt || single.order x 1132462080 == some .eq
def fin (x : Nat) : Bool := lo x && hi x
theorem num_lim : Num single 1132462080 false LIM := by
  refine ⟨8388608, -15, by decide +kernel, by decide, ?_⟩
  unfold LIM; rw [place32]; decide +kernel
theorem num_nlim : Num single 3279945728 true LIM := by
  refine ⟨8388608, -15, by decide +kernel, by decide, ?_⟩
  unfold LIM; rw [place32]; decide +kernel
theorem read_two : single.read 1073741824 = .number false 8388608 (-22) := by decide +kernel
theorem read_zero : single.read 0 = .number false 0 (-149) := by decide +kernel
theorem le_iff {f : Format} {x y : Nat} {s t : Bool} {u v : Nat} (hx : Num f x s u) (hy : Num f y t v) : (f.order x y == some .lt || f.order x y == some .eq) = decide (sg s u ≤ sg t v) := by
  rw [order_num hx hy]
  rcases Int.lt_trichotomy (sg s u) (sg t v) with h | h | h
  · rw [cmp_lt h]; simp; omega
  · rw [cmp_eq h]; simp; omega
  · rw [cmp_gt h]; simp; omega
theorem fin_num {x : Nat} {s : Bool} {u : Nat} (h : Num single x s u) : fin x = decide (u ≤ LIM) := by
  unfold fin lo hi
  rw [le_iff num_nlim h, le_iff h num_lim]
  unfold sg
  by_cases hu : u ≤ LIM <;> cases s <;> simp [hu] <;> omega
theorem fin_of {x : Nat} (h : fin x = true) : ∃ s u, Num single x s u ∧ u ≤ LIM := by
  cases hr : single.read x with
  | number s m e =>
    have hn := read_num hr
    refine ⟨s, _, hn, ?_⟩
    rw [fin_num hn] at h
    exact of_decide_eq_true h
  | infinity s =>
    exfalso
    unfold fin lo hi Format.order at h
    obtain ⟨_, _, h1, _⟩ := num_lim
    obtain ⟨_, _, h2, _⟩ := num_nlim
    rw [hr, h1, h2] at h
    cases s <;> simp [Datum.order] at h
  | nan s t =>
    exfalso
    unfold fin lo hi Format.order at h
    rw [hr] at h
    cases single.read 1132462080 <;> simp [Datum.order] at h
theorem fin_neg {x : Nat} (hx : x < 2 ^ 32) (h : fin x = true) : fin (Op.negFloat .f32 x) = true := by
  obtain ⟨s, u, hn, hu⟩ := fin_of h
  rw [fin_num (num_neg32 hx hn)]
  exact decide_eq_true hu
theorem fin_ok {x : Nat} (h : fin x = true) : (single.read x).isNaN = false := by
  obtain ⟨s, u, hn, hu⟩ := fin_of h
  exact num_read hn
/-- A word is told by its sign and its units. -/
theorem num_inj {x y : Nat} {s : Bool} {u : Nat} (hx : x < 2 ^ 32) (hy : y < 2 ^ 32) (h : Num single x s u) (g : Num single y s u) : x = y := by
  obtain ⟨s1, r1, rfl, h1⟩ := word_parts32 x hx
  obtain ⟨s2, r2, rfl, h2⟩ := word_parts32 y hy
  have key : ∀ (s' : Bool) (r : Nat), r < 2 ^ 31 → Num single (single.word s' r) s u → s' = s ∧ ∃ q M, r = q * 2 ^ 23 + M ∧ u = M * 2 ^ q ∧ M < 2 * 2 ^ 23 ∧ (q = 0 ∨ 2 ^ 23 ≤ M) := by
    intro s' r hr hn
    obtain ⟨m, e, e1, e2, e3⟩ := hn
    have hr1 : r < single.signWeight := hr
    rw [read_word _ _ _ hr1, bin32] at e1
    split at e1
    · injection e1 with f1 f2 f3
      subst f1 f2 f3
      refine ⟨rfl, 0, r, by omega, ?_, by omega, .inl rfl⟩
      rw [e3]; simp
    · split at e1
      · injection e1 with f1 f2 f3
        subst f1 f2 f3
        refine ⟨rfl, r / 2 ^ 23 - 1, 2 ^ 23 + r % 2 ^ 23, by omega, ?_, by omega, .inr (by omega)⟩
        rw [e3]; congr 2; omega
      · split at e1 <;> cases e1
  obtain ⟨rfl, q1, M1, rfl, hu1, hm1, hq1⟩ := key s1 r1 h1 h
  obtain ⟨rfl, q2, M2, rfl, hu2, hm2, hq2⟩ := key s2 r2 h2 g
  have hlt : ∀ q q' M M' : Nat, M * 2 ^ q = M' * 2 ^ q' → M < 2 * 2 ^ 23 → (q' = 0 ∨ 2 ^ 23 ≤ M') → ¬ q < q' := by
    intro q q' M M' e hM hq' hlt
    have h2 : 2 ^ 23 ≤ M' := by
      rcases hq' with h | h
      · omega
      · exact h
    obtain ⟨d, rfl⟩ : ∃ d, q' = q + 1 + d := ⟨q' - q - 1, by omega⟩
    have h3 : 2 ^ (q + 1 + d) = 2 * (2 ^ d * 2 ^ q) := by rw [Nat.pow_add, Nat.pow_succ', Nat.mul_assoc, Nat.mul_comm (2 ^ q) (2 ^ d)]
    rw [h3] at e
    have hp : 0 < 2 ^ q := two_pos q
    have hd : 0 < 2 ^ d := two_pos d
    have e4 : M * 2 ^ q = (M' * 2 * 2 ^ d) * 2 ^ q := by rw [e]; simp only [Nat.mul_assoc]
    have e5 := Nat.eq_of_mul_eq_mul_right hp e4
    have e6 : M' * 2 * 1 ≤ M' * 2 * 2 ^ d := Nat.mul_le_mul_left _ hd
    omega
  have hqq : q1 = q2 := by
    have a1 := hlt q1 q2 M1 M2 (hu1.symm.trans hu2) hm1 hq2
    have a2 := hlt q2 q1 M2 M1 (hu2.symm.trans hu1) hm2 hq1
    omega
  subst hqq
  have hmm : M1 = M2 := Nat.eq_of_mul_eq_mul_right (two_pos q1) (hu1.symm.trans hu2)
  rw [hmm]

theorem add_comm32 (x y : Nat) : floatBits .add .f32 x y = floatBits .add .f32 y x := by
  show single.add x y = single.add y x
  unfold Format.add
  cases single.read x <;> cases single.read y <;> simp only [Datum.sum]
  · rename_i s m i t n j
    rw [Int.min_comm, Int.add_comm, Bool.and_comm]
  · rename_i s t
    by_cases h : s = t
    · subst h; rfl
    · rw [if_neg h, if_neg (fun e => h e.symm)]

/-- Half of a sum. -/
def half (x y : Nat) : Nat := ((floatBits .add .f32 x y).bind fun r => floatBits .quo .f32 r 1073741824).getD 0
theorem add_fin {x y : Nat} (hx : fin x = true) (hy : fin y = true) : ∃ r, floatBits .add .f32 x y = some r ∧ (single.read r).isNaN = false := by
  obtain ⟨s, u, ⟨m, i, h1, _, _⟩, hu⟩ := fin_of hx
  obtain ⟨t, v, ⟨n, j, h2, _, _⟩, hv⟩ := fin_of hy
  show ∃ r, single.add x y = some r ∧ _
  unfold Format.add
  rw [h1, h2]
  exact ⟨_, rfl, nearest_ok _ _ _ _⟩
theorem half_fin {x y : Nat} (hx : fin x = true) (hy : fin y = true) : ∃ r, floatBits .add .f32 x y = some r ∧ floatBits .quo .f32 r 1073741824 = some (half x y) ∧ (single.read (half x y)).isNaN = false := by
  obtain ⟨r, hr, hk⟩ := add_fin hx hy
  obtain ⟨q, hq, hk2⟩ := div_some hk read_two (by decide)
  have hq' : floatBits .quo .f32 r 1073741824 = some q := hq
  have e : half x y = q := by unfold half; rw [hr]; simp [hq']
  rw [e]
  exact ⟨r, hr, hq', hk2⟩

end Go.Proofs.YtobpnoiienpipaaGreat.Flt

/-
  What is proved: the walks of the functions that tell whether a cell is valid (the program's and the model's), and of those that compare floats and colours for the laws.
  Conditions: those that each fact names.
-/
namespace Go.Proofs.YtobpnoiienpipaaGreat
set_option linter.unusedVariables false
open Go.RowKit

theorem run_store_float (P : Program) (w : World) (a : Addr) (m : Mode) (k : FloatKind) (b : Nat) : (store a (.float k b) m).run P w = stored P w a (.float k b) m := run_store P w a _ m rfl
theorem run_store_complex (P : Program) (w : World) (a : Addr) (m : Mode) (k : FloatKind) (x y : Nat) : (store a (.complex k x y) m).run P w = stored P w a (.complex k x y) m := run_store P w a _ m rfl
theorem unary_negf (k : FloatKind) (b : Nat) : Op.unary .neg (.float k b) = pure (.float k (Op.negFloat k b)) := rfl
theorem neg256 : Op.negFloat .f32 1132462080 = 3279945728 := by decide
attribute [local go_sem] run_store_float run_store_complex unary_negf neg256

theorem dorder_swap (x y : Ieee.Datum) : (x.order y == some .gt) = (y.order x == some .lt) ∧ (x.order y == some .eq) = (y.order x == some .eq) := by
  cases x with
  | number s m i => cases y with
    | number t n j =>
      simp only [Ieee.Datum.order]
      rw [Int.min_comm j i]
      generalize Ieee.signed s m (i - min i j).toNat = a
      generalize Ieee.signed t n (j - min i j).toNat = b
      rcases Int.lt_trichotomy a b with h | h | h
      · rw [Int.compare_eq_lt.2 h, Int.compare_eq_gt.2 h]; exact ⟨rfl, rfl⟩
      · subst h; rw [Int.compare_eq_eq.2 rfl]; exact ⟨rfl, rfl⟩
      · rw [Int.compare_eq_lt.2 h, Int.compare_eq_gt.2 h]; exact ⟨rfl, rfl⟩
    | infinity t => cases t <;> exact ⟨rfl, rfl⟩
    | nan t q => exact ⟨rfl, rfl⟩
  | infinity s => cases y with
    | number t n j => cases s <;> exact ⟨rfl, rfl⟩
    | infinity t => cases s <;> cases t <;> exact ⟨rfl, rfl⟩
    | nan t q => exact ⟨rfl, rfl⟩
  | nan s q => cases y <;> exact ⟨rfl, rfl⟩
theorem geq_lo (x : Nat) : (FloatKind.f32.format.order x 3279945728 == some .gt || FloatKind.f32.format.order x 3279945728 == some .eq) = Flt.lo x := by
  obtain ⟨h1, h2⟩ := dorder_swap (Ieee.single.read x) (Ieee.single.read 3279945728)
  show (Ieee.single.order x 3279945728 == some .gt || Ieee.single.order x 3279945728 == some .eq) = _
  unfold Flt.lo Ieee.Format.order
  rw [h1, h2]
theorem leq_lo (x : Nat) : (FloatKind.f32.format.order 3279945728 x == some .lt || FloatKind.f32.format.order 3279945728 x == some .eq) = Flt.lo x := rfl
theorem leq_hi (x : Nat) : (FloatKind.f32.format.order x 1132462080 == some .lt || FloatKind.f32.format.order x 1132462080 == some .eq) = Flt.hi x := rfl
attribute [local go_sem] geq_lo leq_lo leq_hi

theorem within_any (x : Nat) (w : World) :
    Calls Tryz.prog 61 #[.float .f32 x, .float .f32 1132462080] w fun e w' => e = .returned (.bool (Flt.fin x)) ∧ w = w' := by
  unfold Flt.fin
  cases h : Flt.lo x
  · go_enter Tryz.func61, Tryz.ntmps61
    go_wp2
    go_ret
    exact ⟨rfl, rfl⟩
  · go_enter Tryz.func61, Tryz.ntmps61
    go_wp2
    go_ret
    exact ⟨rfl, rfl⟩
/-- A cell: the bits of its brightness and of both parts of its colour. -/
abbrev C3 := Nat × Nat × Nat
def cv (y u v : Nat) : Value := .agg #[.float .f32 y, .complex .f32 u v]
def okc (y u v : Nat) : Bool := Flt.fin y && (Flt.fin u && Flt.fin v)
theorem cellOk_any (y u v : Nat) (w : World) :
    Calls Tryz.prog 85 #[.agg #[.float .f32 y, .complex .f32 u v]] w fun e w' => e = .returned (.bool (okc y u v)) ∧ Below w.heap.size w w' := by
  have HW := fun x W => Lib.hid (within_any x W)
  unfold okc
  cases h : Flt.fin y
  · go_enter Tryz.func85, Tryz.ntmps85
    go_wp2_with fail
    refine (HW y _).out.mono ?_
    rintro e w1 ⟨rfl, rfl⟩
    rw [h]
    go_wp2
    go_ret
    exact ⟨rfl, (Below.refl _ _).alloc (Nat.le_refl _) _⟩
  · cases h1 : Flt.fin u
    · go_enter Tryz.func85, Tryz.ntmps85
      go_wp2_with fail
      refine (HW y _).out.mono ?_
      rintro e w1 ⟨rfl, rfl⟩
      rw [h]
      go_wp2_with fail
      refine (HW u _).out.mono ?_
      rintro e w1 ⟨rfl, rfl⟩
      rw [h1]
      go_wp2
      go_ret
      exact ⟨rfl, (Below.refl _ _).alloc (Nat.le_refl _) _⟩
    · go_enter Tryz.func85, Tryz.ntmps85
      go_wp2_with fail
      refine (HW y _).out.mono ?_
      rintro e w1 ⟨rfl, rfl⟩
      rw [h]
      go_wp2_with fail
      refine (HW u _).out.mono ?_
      rintro e w1 ⟨rfl, rfl⟩
      rw [h1]
      go_wp2_with fail
      refine (HW v _).out.mono ?_
      rintro e w1 ⟨rfl, rfl⟩
      go_wp2
      go_ret
      exact ⟨rfl, (Below.refl _ _).alloc (Nat.le_refl _) _⟩
end Go.Proofs.YtobpnoiienpipaaGreat

/-
  What is proved: rows of cells as they lie in memory; the walks of RowOk (the program's and the model's), and of the law's comparing of two rows that are alike.
  Conditions: those that each fact names.
-/
namespace Go.Proofs.YtobpnoiienpipaaGreat
set_option linter.unusedVariables false
open Go.RowKit
attribute [local go_sem] run_store_float run_store_complex unary_negf neg256

/-- The slice v of cells reads as cs. -/
def RowV (w : World) (v : Value) (cs : List C3) : Prop :=
  (v = .slice none 0 0 ∧ cs = []) ∨ ∃ g o cap, v = .slice (some ⟨g, o, none⟩) cs.length cap ∧ cs.length ≤ cap ∧
    ∀ i (h : i < cs.length), w.cell? ⟨g, o + i * 2, none⟩ = some (.float .f32 cs[i].1) ∧ w.cell? ⟨g, o + i * 2 + 1, none⟩ = some (.complex .f32 cs[i].2.1 cs[i].2.2)
theorem RowV.grown {w w' : World} {v : Value} {cs : List C3} (h : RowV w v cs) (hg : w.grownBy w' none) : RowV w' v cs := by
  rcases h with h | ⟨g, o, cap, h1, h2, h3⟩
  · exact .inl h
  · exact .inr ⟨g, o, cap, h1, h2, fun i hi => ⟨hg.cell (h3 i hi).1 (by simp), hg.cell (h3 i hi).2 (by simp)⟩⟩
theorem grown_of {w w' : World} (hb : Below w.heap.size w w') : w.grownBy w' none := ⟨hb.os, hb.tape, hb.output, hb.size, fun k hk _ => hb.block k hk⟩
theorem RowV.below {w w' : World} {v : Value} {cs : List C3} (h : RowV w v cs) (hb : Below w.heap.size w w') : RowV w' v cs := h.grown (grown_of hb)
theorem below_trans {a b c : World} {n m : Nat} (h1 : Below n a b) (h2 : Below m b c) (h : n ≤ m) : Below n a c := h1.trans (h2.mono h)
/-- Is a row valid? -/
def rok (cs : List C3) : Bool := (decide (1 ≤ cs.length) && decide (cs.length ≤ 64)) && cs.all fun c => okc c.1 c.2.1 c.2.2
theorem all_take {α : Type} {p : α → Bool} {l : List α} {k : Nat} (hk : k < l.length) (h : (l.take k).all p = true) (hc : p l[k] = true) : (l.take (k + 1)).all p = true := by
  rw [List.take_succ_eq_append_getElem hk, List.all_append, h]; simp [hc]
theorem all_not {α : Type} {p : α → Bool} {l : List α} {k : Nat} (hk : k < l.length) (hc : p l[k] = false) : l.all p = false := by
  cases h : l.all p
  · rfl
  · rw [List.all_eq_true.1 h _ (List.getElem_mem hk)] at hc; cases hc

set_option maxHeartbeats 1000000 in
theorem rowOk_any (v : Value) (cs : List C3) (w : World) (h : RowV w v cs) (hl : cs.length ≤ 1000000) :
    Calls Tryz.prog 56 #[v] w fun e w' => e = .returned (.bool (rok cs)) ∧ Below w.heap.size w w' := by
  by_cases hlen : 1 ≤ cs.length ∧ cs.length ≤ 64
  · have hr : rok cs = cs.all fun c => okc c.1 c.2.1 c.2.2 := by unfold rok; rw [decide_eq_true hlen.1, decide_eq_true hlen.2]; rfl
    rw [hr]
    clear hr
    rcases h with ⟨_, h0⟩ | ⟨g, o, cap, rfl, hcap, hcell⟩
    · subst h0; simp at hlen
    · have HC := Lib.hid hcell
      have HO := fun y u v W => Lib.hid (cellOk_any y u v W)
      obtain ⟨hl1, hl2⟩ := hlen
      generalize hp : (fun c : C3 => okc c.1 c.2.1 c.2.2) = p
      have HP := fun c => Lib.hid (congrFun hp c)
      clear hcell hp
      go_enter Tryz.func56, Tryz.ntmps56
      go_wp2
      go_loopw [15] (fun i wr => ∃ k : Nat, k ≤ cs.length ∧ i = .int .i64 (k : Int) ∧ Below w.heap.size w wr ∧ (cs.take k).all p = true) (fun i _ => cs.length - (intOf i).toNat)
      case atStart => exact ⟨0, Nat.zero_le _, rfl, Below.refl _ _, by simp⟩
      case round =>
        obtain ⟨k, hk, rfl, hb, hall⟩ := hrel
        have HALL := Lib.hid hall
        clear hall
        by_cases hlt : k < cs.length
        · obtain ⟨hc0, hc1⟩ := HC.out k hlt
          have hd0 := (grown_of hb).cell hc0 (by simp)
          have hd1 := (grown_of hb).cell hc1 (by simp)
          have hpk := (HP cs[k]).out
          clear hc0 hc1
          generalize hck : cs[k] = c at *
          obtain ⟨y, u, v⟩ := c
          have HPK := Lib.hid hpk
          have HCK := Lib.hid hck
          clear hpk hck
          go_wp2_with fail
          refine (HO y u v _).out.mono ?_
          rintro e w1 ⟨rfl, hb1⟩
          cases hk2 : okc y u v with
          | true =>
            rw [hk2] at HPK
            have hst := all_take hlt HALL.out (by rw [HCK.out]; exact HPK.out.symm)
            have HST := Lib.hid hst
            clear hst hk2
            go_wp2
            go_roundw
            case rel => exact ⟨k + 1, by omega, by go_num, below_trans hb (below_trans ((Below.refl _ _).alloc (Nat.le_refl _) _) hb1 (by simp)) hb.size, HST.out⟩
            case measure => simp [intOf]; omega
          | false =>
            rw [hk2] at HPK
            have hst := all_not hlt (by rw [HCK.out]; exact HPK.out.symm)
            have HST := Lib.hid hst
            clear hst hk2
            go_wp2
            go_ret
            exact ⟨by rw [HST.out]; rfl, below_trans hb (below_trans ((Below.refl _ _).alloc (Nat.le_refl _) _) hb1 (by simp)) hb.size⟩
        · have hkk : cs.take k = cs := List.take_of_length_le (by omega)
          have HK := Lib.hid hkk
          clear hkk
          go_wp2
          go_ret
          exact ⟨by have := HALL.out; rw [HK.out] at this; rw [this]; rfl, hb⟩
  · have hr : rok cs = false := by
      unfold rok
      cases h1 : decide (1 ≤ cs.length) && decide (cs.length ≤ 64)
      · rfl
      · simp at h1; exact absurd h1 (by omega)
    rw [hr]
    clear hr
    by_cases h0 : cs.length = 0
    · have he : cs = [] := List.eq_nil_of_length_eq_zero h0
      subst he
      rcases h with ⟨rfl, _⟩ | ⟨g, o, cap, rfl, hcap, hcell⟩
      all_goals
        go_enter Tryz.func56, Tryz.ntmps56
        go_wp2
        go_ret
        exact ⟨rfl, Below.refl _ _⟩
    · rcases h with ⟨_, h0⟩ | ⟨g, o, cap, rfl, hcap, hcell⟩
      · subst h0; simp at h0
      · clear hcell
        have hl2 : 64 < cs.length := by omega
        clear hlen
        go_enter Tryz.func56, Tryz.ntmps56
        go_wp2
        go_ret
        exact ⟨rfl, Below.refl _ _⟩

end Go.Proofs.YtobpnoiienpipaaGreat

/-
  What is proved: the law's comparing of floats, colours and rows that are alike answers true.
  Conditions: no number is NaN or above 256.
-/
namespace Go.Proofs.YtobpnoiienpipaaGreat
set_option linter.unusedVariables false
open Go.RowKit

theorem qt_one {P : Program} {f : FuncId} {args : Array Value} {w : World} {n : Nat} {v : Value} (h : Calls P f args (w.drewN n) fun e w' => e = .returned v ∧ w.drewN n = w') :
    Calls P f args (w.drewN n) fun e w'' => e = .returned v ∧ ∃ m, w'' = w.drewN m := h.mono fun _ _ hh => ⟨hh.1, n, hh.2.symm⟩
theorem belowDN {B : Nat} {a w : World} (h : Below B a w) (n : Nat) : Below B a (w.drewN n) := ⟨h.os, h.tape, h.output, h.size, h.block⟩
end Go.Proofs.YtobpnoiienpipaaGreat

/-
  What is proved: what an operation on single floats may answer, NaN among them; that answers of equal operands are the same for the laws' comparing of floats.
  Conditions: those that each fact names.
-/
namespace Go.Proofs.YtobpnoiienpipaaGreat
set_option linter.unusedVariables false
open Go.RowKit
attribute [local go_sem] run_store_float run_store_complex unary_negf neg256

def isN (x : Nat) : Bool := (Ieee.single.read x).isNaN
/-- The same number, or both NaN. -/
def Sm (x y : Nat) : Prop := x = y ∨ (isN x = true ∧ isN y = true)
theorem Sm.refl (x : Nat) : Sm x x := .inl rfl
theorem Sm.symm {x y : Nat} (h : Sm x y) : Sm y x := h.elim (fun e => .inl e.symm) fun h => .inr ⟨h.2, h.1⟩
/-- What an operation may answer. -/
def Res (op : BinOp) (x y r : Nat) : Prop := floatBits op .f32 x y = some r ∨ (floatBits op .f32 x y = none ∧ isN r = true)
theorem nan_read {x : Nat} (h : Ieee.single.infRung < x % Ieee.single.signWeight) : isN x = true := by
  have hb : Ieee.single.binade ≤ Ieee.single.infRung := by decide +kernel
  unfold isN Ieee.Format.read
  simp only
  rw [if_neg (by omega), if_neg (by omega), if_neg (by omega)]
  rfl
theorem nan_cut (x y t : Nat) : isN ((Question.nanBits .f32 x y).cut t) = true ∧ (Question.nanBits .f32 x y).cut t < 2 ^ 32 := by
  have h1 : Ieee.single.infRung = 2139095040 := by decide +kernel
  have h2 : Ieee.single.signWeight = 2147483648 := rfl
  constructor
  · refine nan_read ?_
    rw [h1, h2]
    simp only [Question.cut]
    have ha : t % 2 = 0 ∨ t % 2 = 1 := by omega
    have hb : t / 2 % (2 ^ 23 - 1) < 2 ^ 23 - 1 := Nat.mod_lt _ (by decide)
    generalize t / 2 % (2 ^ 23 - 1) = b at *
    rcases ha with h | h <;> rw [h] <;> omega
  · simp only [Question.cut]
    omega
def arith (op : BinOp) : Prop := op = .add ∨ op = .sub ∨ op = .mul ∨ op = .quo
theorem run_res (op : BinOp) (ho : arith op) (x y : Nat) (W : World) :
    ∃ r n, (binOp op 25 (.float .f32 x) (.float .f32 y)).run Tryz.prog W = .ok (.float .f32 r) (W.drewN n) ∧ Res op x y r ∧ r < 2 ^ 32 := by
  cases h : floatBits op .f32 x y with
  | some r => exact ⟨r, 0, run_float_arith (P := Tryz.prog) W op 25 .f32 x y r h, .inl h, by simpa [Lit.wf] using floatBits_wf h⟩
  | none =>
    have key : ∀ r : Option Nat, r = none → floatBits op .f32 x y = r → ∃ r' n, (binOp op 25 (.float .f32 x) (.float .f32 y)).run Tryz.prog W = .ok (.float .f32 r') (W.drewN n) ∧ (isN r' = true ∧ r' < 2 ^ 32) := by
      rintro _ rfl h
      rcases ho with rfl | rfl | rfl | rfl
      all_goals
        unfold floatBits at h
        simp only at h
        exact ⟨_, 1, by simp [binOp, Op.floatArith, h, Question.forced, World.drewN]; rfl, nan_cut x y _⟩
    obtain ⟨r, n, h1, h2, h3⟩ := key _ rfl h
    exact ⟨r, n, h1, .inr ⟨h, h2⟩, h3⟩
theorem res_any (op : BinOp) (ho : arith op) (x y : Nat) :
    (∃ r, Res op x y r ∧ ∀ W, (binOp op 25 (.float .f32 x) (.float .f32 y)).run Tryz.prog W = .ok (.float .f32 r) W) ∨
    (∀ W, ∃ r, Res op x y r ∧ (binOp op 25 (.float .f32 x) (.float .f32 y)).run Tryz.prog W = .ok (.float .f32 r) W.drew) := by
  cases h : floatBits op .f32 x y with
  | some r => exact .inl ⟨r, .inl h, fun W => run_float_arith (P := Tryz.prog) W op 25 .f32 x y r h⟩
  | none =>
    refine .inr fun W => ?_
    have key : ∀ r : Option Nat, r = none → floatBits op .f32 x y = r → ∃ r', (binOp op 25 (.float .f32 x) (.float .f32 y)).run Tryz.prog W = .ok (.float .f32 r') (W.drewN 1) ∧ isN r' = true := by
      rintro _ rfl h
      rcases ho with rfl | rfl | rfl | rfl
      all_goals
        unfold floatBits at h
        simp only at h
        exact ⟨_, by simp [binOp, Op.floatArith, h, Question.forced, World.drewN]; rfl, (nan_cut x y _).1⟩
    obtain ⟨r, h1, h2⟩ := key _ rfl h
    exact ⟨r, .inr ⟨h, h2⟩, h1⟩
theorem op_nan {op : BinOp} {x y : Nat} (h : isN x = true ∨ isN y = true) : floatBits op .f32 x y = none := by
  have hx : ∀ x, isN x = true → ∃ s p, Ieee.single.read x = .nan s p := by
    intro x h
    unfold isN at h
    cases hr : Ieee.single.read x <;> rw [hr] at h <;> simp [Ieee.Datum.isNaN] at h
    exact ⟨_, _, rfl⟩
  unfold floatBits
  rcases h with h | h
  · obtain ⟨s, p, e⟩ := hx _ h
    split <;> first | rfl | skip
    all_goals simp only [show FloatKind.f32.format = Ieee.single from rfl, Ieee.Format.add, Ieee.Format.sub, Ieee.Format.mul, Ieee.Format.div, e]
    all_goals cases Ieee.single.read y <;> simp [Ieee.Datum.sum, Ieee.Datum.product, Ieee.Datum.quotient, Ieee.Datum.opposite]
  · obtain ⟨s, p, e⟩ := hx _ h
    split <;> first | rfl | skip
    all_goals simp only [show FloatKind.f32.format = Ieee.single from rfl, Ieee.Format.add, Ieee.Format.sub, Ieee.Format.mul, Ieee.Format.div, e]
    all_goals cases Ieee.single.read x <;> simp [Ieee.Datum.sum, Ieee.Datum.product, Ieee.Datum.quotient, Ieee.Datum.opposite]
theorem Res.same {op : BinOp} {x x' y y' r r' : Nat} (hx : Sm x x') (hy : Sm y y') (h : Res op x y r) (h' : Res op x' y' r') : Sm r r' := by
  by_cases hn : isN x = true ∨ isN y = true
  · have hn' : isN x' = true ∨ isN y' = true := by
      rcases hn with h1 | h1
      · rcases hx with rfl | ⟨_, h2⟩
        · exact .inl h1
        · exact .inl h2
      · rcases hy with rfl | ⟨_, h2⟩
        · exact .inr h1
        · exact .inr h2
    have e := op_nan (op := op) hn
    have e' := op_nan (op := op) hn'
    rcases h with h | ⟨_, h⟩
    · rw [e] at h; cases h
    · rcases h' with h' | ⟨_, h'⟩
      · rw [e'] at h'; cases h'
      · exact .inr ⟨h, h'⟩
  · have ex : x = x' := hx.elim id fun h => absurd (.inl h.1) hn
    have ey : y = y' := hy.elim id fun h => absurd (.inr h.1) hn
    subst ex ey
    rcases h with h | ⟨h, h1⟩
    · rcases h' with h' | ⟨h', _⟩
      · rw [h] at h'; cases h'; exact .inl rfl
      · rw [h] at h'; cases h'
    · rcases h' with h' | ⟨_, h'⟩
      · rw [h] at h'; cases h'
      · exact .inr ⟨h1, h'⟩

end Go.Proofs.YtobpnoiienpipaaGreat
