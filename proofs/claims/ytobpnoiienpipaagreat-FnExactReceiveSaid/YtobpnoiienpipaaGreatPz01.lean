/-
  What is proved: facts about singles: a number of at most 256; its product with 1, its negative, its sum with another, half of it, its double.
  Conditions: those that each fact names.
-/
import Derived.Test.YtobpnoiienpipaaGreatPz00
import Derived.WalkLawsBesides
import Derived.Test.YtobpnoiienpipaaGreatRows
import Derived.WalkKit
import Derived.WalkSpells
import Derived.Below
import Derived.Lib.Hide
import Derived.Laws.AppendOwn
import Derived.Lib.BufferWrite
import Derived.Lib.BufferOwn
import Derived.RegionTactic
import Derived.Deep.QuietTactic
import Derived.BigQuiet

namespace Go.Proofs.YtobpnoiienpipaaGreat.Flt
set_option linter.unusedVariables false
open Ieee

theorem unit32 : unit single = 149 := by decide
theorem bin32 : single.binade = 2 ^ 23 := rfl
theorem inf32 : single.infRung = 255 * 2 ^ 23 := by decide +kernel
theorem sw32 : single.signWeight = 2 ^ 31 := rfl
theorem cap32 : cap single = 277 := by decide
theorem place32 : single.leastPlace = -149 := by decide
theorem plc64 : double.leastPlace = -1074 := by decide
theorem frc64 : double.fractionBits = 52 := rfl
theorem frac32 : single.fractionBits = 23 := rfl

theorem word_parts32 (p : Nat) (h : p < 2 ^ 32) : ∃ s r, p = single.word s r ∧ r < 2 ^ 31 := by
  refine ⟨decide (2 ^ 31 ≤ p), p % 2 ^ 31, ?_, Nat.mod_lt _ (by decide)⟩
  unfold Format.word
  rw [sw32]
  by_cases h1 : 2 ^ 31 ≤ p
  · rw [decide_eq_true h1, if_pos rfl]; omega
  · rw [decide_eq_false h1, if_neg (by simp)]; omega
theorem word_lt32 (s : Bool) (r : Nat) (h : r < 2 ^ 31) : single.word s r < 2 ^ 32 := by
  unfold Format.word; rw [sw32]; cases s <;> simp <;> omega

theorem xor_hi (r : Nat) (h : r < 2 ^ 31) : r ^^^ 2 ^ 31 = 2 ^ 31 + r := by
  have e := Nat.two_pow_add_eq_or_of_lt h 1
  rw [Nat.mul_one] at e
  rw [e]
  apply Nat.eq_of_testBit_eq
  intro i
  rw [Nat.testBit_xor, Nat.testBit_or, Nat.testBit_two_pow]
  by_cases hi : 31 = i
  · subst hi
    rw [Nat.testBit_lt_two_pow h]; simp
  · rw [decide_eq_false hi]; simp
theorem neg_word32 (s : Bool) (r : Nat) (h : r < 2 ^ 31) : Op.negFloat .f32 (single.word s r) = single.word (!s) r := by
  show (single.word s r) ^^^ 2 ^ 31 = _
  unfold Format.word
  rw [sw32]
  cases s
  · simp only [Bool.false_eq_true, if_false, Bool.not_false, if_true]; exact xor_hi r h
  · simp only [Bool.not_true, if_true, Bool.false_eq_true, if_false]
    rw [← xor_hi r h, Nat.xor_assoc, Nat.xor_self, Nat.xor_zero]
theorem neg_neg32 (x : Nat) : Op.negFloat .f32 (Op.negFloat .f32 x) = x := by
  show x ^^^ 2 ^ 31 ^^^ 2 ^ 31 = x
  rw [Nat.xor_assoc, Nat.xor_self, Nat.xor_zero]
theorem neg_lt32 {x : Nat} (h : x < 2 ^ 32) : Op.negFloat .f32 x < 2 ^ 32 := by
  obtain ⟨s, r, rfl, hr⟩ := word_parts32 x h
  rw [neg_word32 s r hr]; exact word_lt32 _ _ hr

/-- The parts of a number. -/
theorem read_num {f : Format} {b : Nat} {s : Bool} {m : Nat} {e : Int} (h : f.read b = .number s m e) : Num f b s (m * 2 ^ (e - f.leastPlace).toNat) := by
  refine ⟨m, e, h, ?_, rfl⟩
  unfold Format.read at h
  dsimp only at h
  split at h
  · injection h with h1 h2 h3; omega
  · split at h
    · injection h with h1 h2 h3; omega
    · split at h <;> cases h
theorem num_neg32 {x : Nat} {s : Bool} {u : Nat} (hx : x < 2 ^ 32) (h : Num single x s u) : Num single (Op.negFloat .f32 x) (!s) u := by
  obtain ⟨t, r, rfl, hr⟩ := word_parts32 x hx
  rw [neg_word32 t r hr]
  obtain ⟨m, e, h1, h2, h3⟩ := h
  have hr1 : r < single.signWeight := hr
  rw [read_word _ _ _ hr1] at h1
  refine ⟨m, e, ?_, h2, h3⟩
  rw [read_word _ _ _ hr1]
  split at h1
  · rw [if_pos (by assumption)]; injection h1 with e1 e2 e3; rw [e1, e2, e3]
  · split at h1
    · rw [if_neg (by assumption), if_pos (by assumption)]; injection h1 with e1 e2 e3; rw [e1, e2, e3]
    · split at h1 <;> cases h1

/-- The units of 256. -/
def LIM : Nat := 2 ^ 157
/-- Is the number at most 256, whatever its sign? -/
def lo (x : Nat) : Bool := single.order 3279945728 x == some .lt || single.order 3279945728 x == some .eq
def hi (x : Nat) : Bool := single.order x 1132462080 == some .lt || single.order x 1132462080 == some .eq
def fin (x : Nat) : Bool := lo x && hi x
theorem num_lim : Num single 1132462080 false LIM := by
  refine ⟨8388608, -15, by decide +kernel, by decide, ?_⟩
  unfold LIM; rw [place32]; decide +kernel
theorem num_nlim : Num single 3279945728 true LIM := by
  refine ⟨8388608, -15, by decide +kernel, by decide, ?_⟩
  unfold LIM; rw [place32]; decide +kernel
theorem read_two : single.read 1073741824 = .number false 8388608 (-22) := by decide +kernel
theorem read_zero : single.read 0 = .number false 0 (-149) := by decide +kernel
theorem le_iff {f : Format} {x y : Nat} {s t : Bool} {u v : Nat} (hx : Num f x s u) (hy : Num f y t v) : (f.order x y == some .lt || f.order x y == some .eq) = decide (sg s u ≤ sg t v) := by
  rw [order_num hx hy]
  rcases Int.lt_trichotomy (sg s u) (sg t v) with h | h | h
  · rw [cmp_lt h]; simp; omega
  · rw [cmp_eq h]; simp; omega
  · rw [cmp_gt h]; simp; omega
theorem fin_num {x : Nat} {s : Bool} {u : Nat} (h : Num single x s u) : fin x = decide (u ≤ LIM) := by
  unfold fin lo hi
  rw [le_iff num_nlim h, le_iff h num_lim]
  unfold sg
  by_cases hu : u ≤ LIM <;> cases s <;> simp [hu] <;> omega
theorem fin_of {x : Nat} (h : fin x = true) : ∃ s u, Num single x s u ∧ u ≤ LIM := by
  cases hr : single.read x with
  | number s m e =>
    have hn := read_num hr
    refine ⟨s, _, hn, ?_⟩
    rw [fin_num hn] at h
    exact of_decide_eq_true h
  | infinity s =>
    exfalso
    unfold fin lo hi Format.order at h
    obtain ⟨_, _, h1, _⟩ := num_lim
    obtain ⟨_, _, h2, _⟩ := num_nlim
    rw [hr, h1, h2] at h
    cases s <;> simp [Datum.order] at h
  | nan s t =>
    exfalso
    unfold fin lo hi Format.order at h
    rw [hr] at h
    cases single.read 1132462080 <;> simp [Datum.order] at h
theorem fin_neg {x : Nat} (hx : x < 2 ^ 32) (h : fin x = true) : fin (Op.negFloat .f32 x) = true := by
  obtain ⟨s, u, hn, hu⟩ := fin_of h
  rw [fin_num (num_neg32 hx hn)]
  exact decide_eq_true hu
theorem fin_ok {x : Nat} (h : fin x = true) : (single.read x).isNaN = false := by
  obtain ⟨s, u, hn, hu⟩ := fin_of h
  exact num_read hn
theorem add_comm32 (x y : Nat) : floatBits .add .f32 x y = floatBits .add .f32 y x := by
  show single.add x y = single.add y x
  unfold Format.add
  cases single.read x <;> cases single.read y <;> simp only [Datum.sum]
  · rename_i s m i t n j
    rw [Int.min_comm, Int.add_comm, Bool.and_comm]
  · rename_i s t
    by_cases h : s = t
    · subst h; rfl
    · rw [if_neg h, if_neg (fun e => h e.symm)]

/-- Half of a sum. -/
def half (x y : Nat) : Nat := ((floatBits .add .f32 x y).bind fun r => floatBits .quo .f32 r 1073741824).getD 0
theorem add_fin {x y : Nat} (hx : fin x = true) (hy : fin y = true) : ∃ r, floatBits .add .f32 x y = some r ∧ (single.read r).isNaN = false := by
  obtain ⟨s, u, ⟨m, i, h1, _, _⟩, hu⟩ := fin_of hx
  obtain ⟨t, v, ⟨n, j, h2, _, _⟩, hv⟩ := fin_of hy
  show ∃ r, single.add x y = some r ∧ _
  unfold Format.add
  rw [h1, h2]
  exact ⟨_, rfl, nearest_ok _ _ _ _⟩
theorem half_fin {x y : Nat} (hx : fin x = true) (hy : fin y = true) : ∃ r, floatBits .add .f32 x y = some r ∧ floatBits .quo .f32 r 1073741824 = some (half x y) ∧ (single.read (half x y)).isNaN = false := by
  obtain ⟨r, hr, hk⟩ := add_fin hx hy
  obtain ⟨q, hq, hk2⟩ := div_some hk read_two (by decide)
  have hq' : floatBits .quo .f32 r 1073741824 = some q := hq
  have e : half x y = q := by unfold half; rw [hr]; simp [hq']
  rw [e]
  exact ⟨r, hr, hq', hk2⟩

end Go.Proofs.YtobpnoiienpipaaGreat.Flt

/-
  What is proved: the walks of the functions that tell whether a cell is valid (the program's and the model's), and of those that compare floats and colours for the laws.
  Conditions: those that each fact names.
-/
namespace Go.Proofs.YtobpnoiienpipaaGreat
set_option linter.unusedVariables false
open Go.RowKit

theorem run_store_float (P : Program) (w : World) (a : Addr) (m : Mode) (k : FloatKind) (b : Nat) : (store a (.float k b) m).run P w = stored P w a (.float k b) m := run_store P w a _ m rfl
theorem run_store_complex (P : Program) (w : World) (a : Addr) (m : Mode) (k : FloatKind) (x y : Nat) : (store a (.complex k x y) m).run P w = stored P w a (.complex k x y) m := run_store P w a _ m rfl
theorem unary_negf (k : FloatKind) (b : Nat) : Op.unary .neg (.float k b) = pure (.float k (Op.negFloat k b)) := rfl
theorem neg256 : Op.negFloat .f32 1132462080 = 3279945728 := by decide
attribute [local go_sem] run_store_float run_store_complex unary_negf neg256

theorem dorder_swap (x y : Ieee.Datum) : (x.order y == some .gt) = (y.order x == some .lt) ∧ (x.order y == some .eq) = (y.order x == some .eq) := by
  cases x with
  | number s m i => cases y with
    | number t n j =>
      simp only [Ieee.Datum.order]
      rw [Int.min_comm j i]
      generalize Ieee.signed s m (i - min i j).toNat = a
      generalize Ieee.signed t n (j - min i j).toNat = b
      rcases Int.lt_trichotomy a b with h | h | h
      · rw [Int.compare_eq_lt.2 h, Int.compare_eq_gt.2 h]; exact ⟨rfl, rfl⟩
      · subst h; rw [Int.compare_eq_eq.2 rfl]; exact ⟨rfl, rfl⟩
      · rw [Int.compare_eq_lt.2 h, Int.compare_eq_gt.2 h]; exact ⟨rfl, rfl⟩
    | infinity t => cases t <;> exact ⟨rfl, rfl⟩
    | nan t q => exact ⟨rfl, rfl⟩
  | infinity s => cases y with
    | number t n j => cases s <;> exact ⟨rfl, rfl⟩
    | infinity t => cases s <;> cases t <;> exact ⟨rfl, rfl⟩
    | nan t q => exact ⟨rfl, rfl⟩
  | nan s q => cases y <;> exact ⟨rfl, rfl⟩
theorem geq_lo (x : Nat) : (FloatKind.f32.format.order x 3279945728 == some .gt || FloatKind.f32.format.order x 3279945728 == some .eq) = Flt.lo x := by
  obtain ⟨h1, h2⟩ := dorder_swap (Ieee.single.read x) (Ieee.single.read 3279945728)
  show (Ieee.single.order x 3279945728 == some .gt || Ieee.single.order x 3279945728 == some .eq) = _
  unfold Flt.lo Ieee.Format.order
  rw [h1, h2]
theorem leq_lo (x : Nat) : (FloatKind.f32.format.order 3279945728 x == some .lt || FloatKind.f32.format.order 3279945728 x == some .eq) = Flt.lo x := rfl
theorem leq_hi (x : Nat) : (FloatKind.f32.format.order x 1132462080 == some .lt || FloatKind.f32.format.order x 1132462080 == some .eq) = Flt.hi x := rfl
attribute [local go_sem] geq_lo leq_lo leq_hi

theorem within_any (x : Nat) (w : World) :
    Calls Tryz.prog 61 #[.float .f32 x, .float .f32 1132462080] w fun e w' => e = .returned (.bool (Flt.fin x)) ∧ w = w' := by
  unfold Flt.fin
  cases h : Flt.lo x
  · go_enter Tryz.func61, Tryz.ntmps61
    go_wp2
    go_ret
    exact ⟨rfl, rfl⟩
  · go_enter Tryz.func61, Tryz.ntmps61
    go_wp2
    go_ret
    exact ⟨rfl, rfl⟩
theorem l02Fine_any (x : Nat) (w : World) :
    Calls Tryz.prog 157 #[.float .f32 x] w fun e w' => e = .returned (.bool (Flt.fin x)) ∧ w = w' := by
  unfold Flt.fin
  cases h : Flt.lo x
  · go_enter Tryz.func157, Tryz.ntmps157
    go_wp2
    go_ret
    exact ⟨rfl, rfl⟩
  · go_enter Tryz.func157, Tryz.ntmps157
    go_wp2
    go_ret
    exact ⟨rfl, rfl⟩

/-- A cell: the bits of its brightness and of both parts of its colour. -/
abbrev C3 := Nat × Nat × Nat
def cv (y u v : Nat) : Value := .agg #[.float .f32 y, .complex .f32 u v]
def okc (y u v : Nat) : Bool := Flt.fin y && (Flt.fin u && Flt.fin v)
theorem l02Colour_any (u v : Nat) (w : World) :
    Calls Tryz.prog 158 #[.complex .f32 u v] w fun e w' => e = .returned (.bool (Flt.fin u && Flt.fin v)) ∧ w = w' := by
  have hu := l02Fine_any u w
  have hv := l02Fine_any v w
  cases h : Flt.fin u
  · rw [h] at hu
    have HU := Lib.hid hu
    clear hu hv
    go_enter Tryz.func158, Tryz.ntmps158
    go_wp2_with (go_at_call 157; refine HU.out.mono ?_; rintro e w1 ⟨rfl, rfl⟩)
    go_ret
    exact ⟨rfl, rfl⟩
  · rw [h] at hu
    have HU := Lib.hid hu
    have HV := Lib.hid hv
    clear hu hv
    go_enter Tryz.func158, Tryz.ntmps158
    go_wp2_with (go_at_call 157; first | (refine HU.out.mono ?_; clear HU; rintro e w1 ⟨rfl, rfl⟩) | (refine HV.out.mono ?_; rintro e w1 ⟨rfl, rfl⟩))
    go_ret
    exact ⟨rfl, rfl⟩

theorem cellOk_any (y u v : Nat) (w : World) :
    Calls Tryz.prog 85 #[.agg #[.float .f32 y, .complex .f32 u v]] w fun e w' => e = .returned (.bool (okc y u v)) ∧ Below w.heap.size w w' := by
  have HW := fun x W => Lib.hid (within_any x W)
  unfold okc
  cases h : Flt.fin y
  · go_enter Tryz.func85, Tryz.ntmps85
    go_wp2_with fail
    refine (HW y _).out.mono ?_
    rintro e w1 ⟨rfl, rfl⟩
    rw [h]
    go_wp2
    go_ret
    exact ⟨rfl, (Below.refl _ _).alloc (Nat.le_refl _) _⟩
  · cases h1 : Flt.fin u
    · go_enter Tryz.func85, Tryz.ntmps85
      go_wp2_with fail
      refine (HW y _).out.mono ?_
      rintro e w1 ⟨rfl, rfl⟩
      rw [h]
      go_wp2_with fail
      refine (HW u _).out.mono ?_
      rintro e w1 ⟨rfl, rfl⟩
      rw [h1]
      go_wp2
      go_ret
      exact ⟨rfl, (Below.refl _ _).alloc (Nat.le_refl _) _⟩
    · go_enter Tryz.func85, Tryz.ntmps85
      go_wp2_with fail
      refine (HW y _).out.mono ?_
      rintro e w1 ⟨rfl, rfl⟩
      rw [h]
      go_wp2_with fail
      refine (HW u _).out.mono ?_
      rintro e w1 ⟨rfl, rfl⟩
      rw [h1]
      go_wp2_with fail
      refine (HW v _).out.mono ?_
      rintro e w1 ⟨rfl, rfl⟩
      go_wp2
      go_ret
      exact ⟨rfl, (Below.refl _ _).alloc (Nat.le_refl _) _⟩
theorem specCellOk_any (y u v : Nat) (w : World) :
    Calls Tryz.prog 138 #[.agg #[.float .f32 y, .complex .f32 u v]] w fun e w' => e = .returned (.bool (okc y u v)) ∧ Below w.heap.size w w' := by
  have HW := fun x W => Lib.hid (l02Fine_any x W)
  have HC := fun x y W => Lib.hid (l02Colour_any x y W)
  unfold okc
  cases h : Flt.fin y
  · go_enter Tryz.func138, Tryz.ntmps138
    go_wp2_with fail
    refine (HW y _).out.mono ?_
    rintro e w1 ⟨rfl, rfl⟩
    rw [h]
    go_wp2
    go_ret
    exact ⟨rfl, (Below.refl _ _).alloc (Nat.le_refl _) _⟩
  · go_enter Tryz.func138, Tryz.ntmps138
    go_wp2_with fail
    refine (HW y _).out.mono ?_
    rintro e w1 ⟨rfl, rfl⟩
    rw [h]
    go_wp2_with fail
    refine (HC u v _).out.mono ?_
    rintro e w1 ⟨rfl, rfl⟩
    go_wp2
    go_ret
    exact ⟨rfl, (Below.refl _ _).alloc (Nat.le_refl _) _⟩
end Go.Proofs.YtobpnoiienpipaaGreat

/-
  What is proved: rows of cells as they lie in memory; the walks of RowOk (the program's and the model's), and of the law's comparing of two rows that are alike.
  Conditions: those that each fact names.
-/
namespace Go.Proofs.YtobpnoiienpipaaGreat
set_option linter.unusedVariables false
open Go.RowKit
attribute [local go_sem] run_store_float run_store_complex unary_negf neg256

/-- The slice v of cells reads as cs. -/
def RowV (w : World) (v : Value) (cs : List C3) : Prop :=
  (v = .slice none 0 0 ∧ cs = []) ∨ ∃ g o cap, v = .slice (some ⟨g, o, none⟩) cs.length cap ∧ cs.length ≤ cap ∧
    ∀ i (h : i < cs.length), w.cell? ⟨g, o + i * 2, none⟩ = some (.float .f32 cs[i].1) ∧ w.cell? ⟨g, o + i * 2 + 1, none⟩ = some (.complex .f32 cs[i].2.1 cs[i].2.2)
theorem RowV.grown {w w' : World} {v : Value} {cs : List C3} (h : RowV w v cs) (hg : w.grownBy w' none) : RowV w' v cs := by
  rcases h with h | ⟨g, o, cap, h1, h2, h3⟩
  · exact .inl h
  · exact .inr ⟨g, o, cap, h1, h2, fun i hi => ⟨hg.cell (h3 i hi).1 (by simp), hg.cell (h3 i hi).2 (by simp)⟩⟩
theorem grown_of {w w' : World} (hb : Below w.heap.size w w') : w.grownBy w' none := ⟨hb.os, hb.tape, hb.output, hb.size, fun k hk _ => hb.block k hk⟩
theorem RowV.below {w w' : World} {v : Value} {cs : List C3} (h : RowV w v cs) (hb : Below w.heap.size w w') : RowV w' v cs := h.grown (grown_of hb)
theorem below_trans {a b c : World} {n m : Nat} (h1 : Below n a b) (h2 : Below m b c) (h : n ≤ m) : Below n a c := h1.trans (h2.mono h)
/-- Is a row valid? -/
def rok (cs : List C3) : Bool := (decide (1 ≤ cs.length) && decide (cs.length ≤ 64)) && cs.all fun c => okc c.1 c.2.1 c.2.2
theorem all_take {α : Type} {p : α → Bool} {l : List α} {k : Nat} (hk : k < l.length) (h : (l.take k).all p = true) (hc : p l[k] = true) : (l.take (k + 1)).all p = true := by
  rw [List.take_succ_eq_append_getElem hk, List.all_append, h]; simp [hc]
theorem all_not {α : Type} {p : α → Bool} {l : List α} {k : Nat} (hk : k < l.length) (hc : p l[k] = false) : l.all p = false := by
  cases h : l.all p
  · rfl
  · rw [List.all_eq_true.1 h _ (List.getElem_mem hk)] at hc; cases hc

set_option maxHeartbeats 1000000 in
theorem rowOk_any (v : Value) (cs : List C3) (w : World) (h : RowV w v cs) (hl : cs.length ≤ 1000000) :
    Calls Tryz.prog 56 #[v] w fun e w' => e = .returned (.bool (rok cs)) ∧ Below w.heap.size w w' := by
  by_cases hlen : 1 ≤ cs.length ∧ cs.length ≤ 64
  · have hr : rok cs = cs.all fun c => okc c.1 c.2.1 c.2.2 := by unfold rok; rw [decide_eq_true hlen.1, decide_eq_true hlen.2]; rfl
    rw [hr]
    clear hr
    rcases h with ⟨_, h0⟩ | ⟨g, o, cap, rfl, hcap, hcell⟩
    · subst h0; simp at hlen
    · have HC := Lib.hid hcell
      have HO := fun y u v W => Lib.hid (cellOk_any y u v W)
      obtain ⟨hl1, hl2⟩ := hlen
      generalize hp : (fun c : C3 => okc c.1 c.2.1 c.2.2) = p
      have HP := fun c => Lib.hid (congrFun hp c)
      clear hcell hp
      go_enter Tryz.func56, Tryz.ntmps56
      go_wp2
      go_loopw [15] (fun i wr => ∃ k : Nat, k ≤ cs.length ∧ i = .int .i64 (k : Int) ∧ Below w.heap.size w wr ∧ (cs.take k).all p = true) (fun i _ => cs.length - (intOf i).toNat)
      case atStart => exact ⟨0, Nat.zero_le _, rfl, Below.refl _ _, by simp⟩
      case round =>
        obtain ⟨k, hk, rfl, hb, hall⟩ := hrel
        have HALL := Lib.hid hall
        clear hall
        by_cases hlt : k < cs.length
        · obtain ⟨hc0, hc1⟩ := HC.out k hlt
          have hd0 := (grown_of hb).cell hc0 (by simp)
          have hd1 := (grown_of hb).cell hc1 (by simp)
          have hpk := (HP cs[k]).out
          clear hc0 hc1
          generalize hck : cs[k] = c at *
          obtain ⟨y, u, v⟩ := c
          have HPK := Lib.hid hpk
          have HCK := Lib.hid hck
          clear hpk hck
          go_wp2_with fail
          refine (HO y u v _).out.mono ?_
          rintro e w1 ⟨rfl, hb1⟩
          cases hk2 : okc y u v with
          | true =>
            rw [hk2] at HPK
            have hst := all_take hlt HALL.out (by rw [HCK.out]; exact HPK.out.symm)
            have HST := Lib.hid hst
            clear hst hk2
            go_wp2
            go_roundw
            case rel => exact ⟨k + 1, by omega, by go_num, below_trans hb (below_trans ((Below.refl _ _).alloc (Nat.le_refl _) _) hb1 (by simp)) hb.size, HST.out⟩
            case measure => simp [intOf]; omega
          | false =>
            rw [hk2] at HPK
            have hst := all_not hlt (by rw [HCK.out]; exact HPK.out.symm)
            have HST := Lib.hid hst
            clear hst hk2
            go_wp2
            go_ret
            exact ⟨by rw [HST.out]; rfl, below_trans hb (below_trans ((Below.refl _ _).alloc (Nat.le_refl _) _) hb1 (by simp)) hb.size⟩
        · have hkk : cs.take k = cs := List.take_of_length_le (by omega)
          have HK := Lib.hid hkk
          clear hkk
          go_wp2
          go_ret
          exact ⟨by have := HALL.out; rw [HK.out] at this; rw [this]; rfl, hb⟩
  · have hr : rok cs = false := by
      unfold rok
      cases h1 : decide (1 ≤ cs.length) && decide (cs.length ≤ 64)
      · rfl
      · simp at h1; exact absurd h1 (by omega)
    rw [hr]
    clear hr
    by_cases h0 : cs.length = 0
    · have he : cs = [] := List.eq_nil_of_length_eq_zero h0
      subst he
      rcases h with ⟨rfl, _⟩ | ⟨g, o, cap, rfl, hcap, hcell⟩
      all_goals
        go_enter Tryz.func56, Tryz.ntmps56
        go_wp2
        go_ret
        exact ⟨rfl, Below.refl _ _⟩
    · rcases h with ⟨_, h0⟩ | ⟨g, o, cap, rfl, hcap, hcell⟩
      · subst h0; simp at h0
      · clear hcell
        have hl2 : 64 < cs.length := by omega
        clear hlen
        go_enter Tryz.func56, Tryz.ntmps56
        go_wp2
        go_ret
        exact ⟨rfl, Below.refl _ _⟩

theorem l01In_any (x a b : Int) (w : World) (hx : -9223372036854775808 ≤ x ∧ x ≤ 9223372036854775807) :
    Calls Tryz.prog 68 #[.int .i64 x, .int .i64 a, .int .i64 b] w fun e w' => e = .returned (.bool (decide (a ≤ x) && decide (x ≤ b))) ∧ w = w' := by
  by_cases h : a ≤ x
  · go_enter Tryz.func68, Tryz.ntmps68
    go_wp2
    go_ret
    exact ⟨by simp [h], rfl⟩
  · go_enter Tryz.func68, Tryz.ntmps68
    go_wp2
    go_ret
    exact ⟨by have h' : ¬ a ≤ x := by omega
              simp [h'], rfl⟩

theorem rok_eq (cs : List C3) (p : C3 → Bool) (hp : (fun c : C3 => okc c.1 c.2.1 c.2.2) = p) (h : cs.all p = true) : rok cs = (decide ((1 : Int) ≤ cs.length) && decide ((cs.length : Int) ≤ 64)) := by
  unfold rok
  rw [hp, h, Bool.and_true]
  congr 1
  · exact decide_eq_decide.2 (by omega)
  · exact decide_eq_decide.2 (by omega)
theorem rok_no (cs : List C3) (p : C3 → Bool) (hp : (fun c : C3 => okc c.1 c.2.1 c.2.2) = p) (h : cs.all p = false) : rok cs = false := by
  unfold rok
  rw [hp, h, Bool.and_false]
set_option maxHeartbeats 1000000 in
theorem specRowOk_any (v : Value) (cs : List C3) (w : World) (h : RowV w v cs) (hl : cs.length ≤ 1000000) :
    Calls Tryz.prog 110 #[v] w fun e w' => e = .returned (.bool (rok cs)) ∧ Below w.heap.size w w' := by
  rcases h with ⟨rfl, rfl⟩ | ⟨g, o, cap, rfl, hcap, hcell⟩
  · have HI := Lib.hid (l01In_any 0 1 64 w (by omega))
    go_enter Tryz.func110, Tryz.ntmps110
    go_wp2
    go_loop [3] (fun i => i = .int .i64 0) (fun _ => 0)
    case atStart => exact rfl
    case round =>
      obtain rfl := hrel
      go_wp2_with fail
      refine HI.out.mono ?_
      rintro e w1 ⟨rfl, rfl⟩
      go_wp2
      go_ret
      exact ⟨rfl, Below.refl _ _⟩
  · have HC := Lib.hid hcell
    have HO := fun y u v W => Lib.hid (specCellOk_any y u v W)
    have HI := fun W => Lib.hid (l01In_any cs.length 1 64 W (by omega))
    generalize hp : (fun c : C3 => okc c.1 c.2.1 c.2.2) = p
    have HP := fun c => Lib.hid (congrFun hp c)
    have HY := fun h => Lib.hid (rok_eq cs p hp h)
    have HN := fun h => Lib.hid (rok_no cs p hp h)
    clear hcell hp
    generalize rok cs = r at *
    go_enter Tryz.func110, Tryz.ntmps110
    go_wp2
    go_loopw [3] (fun i wr => ∃ k : Nat, k ≤ cs.length ∧ i = .int .i64 (k : Int) ∧ Below w.heap.size w wr ∧ (cs.take k).all p = true) (fun i _ => cs.length - (intOf i).toNat)
    case atStart => exact ⟨0, Nat.zero_le _, rfl, Below.refl _ _, by simp⟩
    case round =>
      obtain ⟨k, hk, rfl, hb, hall⟩ := hrel
      have HALL := Lib.hid hall
      clear hall
      by_cases hlt : k < cs.length
      · obtain ⟨hc0, hc1⟩ := HC.out k hlt
        have hd0 := (grown_of hb).cell hc0 (by simp)
        have hd1 := (grown_of hb).cell hc1 (by simp)
        have hpk := (HP cs[k]).out
        clear hc0 hc1
        generalize hck : cs[k] = c at *
        obtain ⟨y, u, v⟩ := c
        have HPK := Lib.hid hpk
        have HCK := Lib.hid hck
        clear hpk hck
        go_wp2_with fail
        refine (HO y u v _).out.mono ?_
        rintro e w1 ⟨rfl, hb1⟩
        cases hk2 : okc y u v with
        | true =>
          rw [hk2] at HPK
          have hst := all_take hlt HALL.out (by rw [HCK.out]; exact HPK.out.symm)
          have HST := Lib.hid hst
          clear hst hk2
          go_wp2
          go_roundw
          case rel => exact ⟨k + 1, by omega, by go_num, below_trans hb hb1 hb.size, HST.out⟩
          case measure => simp [intOf]; omega
        | false =>
          rw [hk2] at HPK
          have hst := (HN (all_not hlt (by rw [HCK.out]; exact HPK.out.symm))).out
          have HST := Lib.hid hst
          clear hst hk2
          go_wp2
          go_ret
          exact ⟨by rw [HST.out]; rfl, below_trans hb hb1 hb.size⟩
      · have hkk : cs.take k = cs := List.take_of_length_le (by omega)
        have hy := (HY (by have := HALL.out; rwa [hkk] at this)).out
        have HYY := Lib.hid hy
        clear hkk hy
        go_wp2_with fail
        refine (HI _).out.mono ?_
        rintro e w1 ⟨rfl, rfl⟩
        go_wp2
        go_ret
        exact ⟨by rw [HYY.out]; rfl, hb⟩
end Go.Proofs.YtobpnoiienpipaaGreat

/-
  What is proved: the law's comparing of floats, colours and rows that are alike answers true.
  Conditions: no number is NaN or above 256.
-/
namespace Go.Proofs.YtobpnoiienpipaaGreat
set_option linter.unusedVariables false
open Go.RowKit

theorem qt_add {P : Program} {f : FuncId} {args : Array Value} {w : World} {a n : Nat} {v : Value} (h : Calls P f args (w.drewN (a + n)) fun e w' => e = .returned v ∧ w.drewN (a + n) = w') :
    Calls P f args (w.drewN (a + n)) fun e w'' => e = .returned v ∧ ∃ m, w'' = w.drewN (a + m) := h.mono fun _ _ hh => ⟨hh.1, n, hh.2.symm⟩
theorem qt_one {P : Program} {f : FuncId} {args : Array Value} {w : World} {n : Nat} {v : Value} (h : Calls P f args (w.drewN n) fun e w' => e = .returned v ∧ w.drewN n = w') :
    Calls P f args (w.drewN n) fun e w'' => e = .returned v ∧ ∃ m, w'' = w.drewN m := h.mono fun _ _ hh => ⟨hh.1, n, hh.2.symm⟩
theorem belowDN {B : Nat} {a w : World} (h : Below B a w) (n : Nat) : Below B a (w.drewN n) := ⟨h.os, h.tape, h.output, h.size, h.block⟩
theorem rd0 : Ieee.double.read 0 = .number false 0 (-1074) := by decide +kernel
theorem rd1 : Ieee.double.read 4607182418800017408 = .number false 4503599627370496 (-52) := by decide +kernel
end Go.Proofs.YtobpnoiienpipaaGreat
