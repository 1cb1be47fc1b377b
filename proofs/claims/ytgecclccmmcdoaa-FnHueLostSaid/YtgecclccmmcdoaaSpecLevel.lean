/-
  What is proved: the walks of the model's Levels and ToLevel.
  Conditions: the line can be read.
-/
import Derived.Test.YtgecclccmmcdoaaPkGen
import Derived.Test.YtgecclccmmcdoaaPkLine
import Derived.Test.YtgecclccmmcdoaaPkCh
import Derived.Test.YtgecclccmmcdoaaChanOk
namespace Go.Proofs.Ytgecclccmmcdoaa
set_option linter.unusedVariables false
open Go.RowKit
open Flt (Mag sumv subv mulv quov)
attribute [local go_sem] run_store_float run_store_complex unary_negf neg256

/-- An operation whose answer is no NaN runs so. -/
theorem arith_ok {op : BinOp} {x y r : Nat} (h : floatBits op .f32 x y = some r) (W : World) : (binOp op 26 (.float .f32 x) (.float .f32 y)).run Try.prog W = .ok (.float .f32 r) W := run_float_arith (P := Try.prog) W op 26 .f32 x y r h
/-- The sum of the first k + 1 samples, in order. -/
def sumK (xs : List Nat) : Nat → Nat
  | 0 => xs.getD 0 0
  | k + 1 => sumv (sumK xs k) (xs.getD (k + 1) 0)
def sumF (xs : List Nat) : Nat := sumK xs (xs.length - 1)
def AllMag (xs : List Nat) : Prop := ∀ x ∈ xs, Mag 160 x
theorem AllMag.at {xs : List Nat} (h : AllMag xs) {k : Nat} (hk : k < xs.length) : Mag 160 (xs.getD k 0) := by
  rw [List.getD_eq_getElem?_getD, List.getElem?_eq_getElem hk]
  exact h _ (List.getElem_mem hk)
theorem sumK_mag {xs : List Nat} (h : AllMag xs) : ∀ k, k < xs.length → k ≤ 50 → Mag (160 + 2 * k) (sumK xs k)
  | 0, hk, _ => h.at hk
  | k + 1, hk, hb => ((sumK_mag h k (by omega) (by omega)).add ((h.at hk).mono (by omega)) (by omega)).2.mono (by omega)
theorem sumK_run {xs : List Nat} (h : AllMag xs) {k : Nat} (hk : k + 1 < xs.length) (hb : k ≤ 49) : floatBits .add .f32 (sumK xs k) (xs.getD (k + 1) 0) = some (sumK xs (k + 1)) :=
  ((sumK_mag h k (by omega) (by omega)).add ((h.at hk).mono (by omega)) (by omega)).1
theorem part_mag {xs : List Nat} (h : AllMag xs) (i m : Nat) : AllMag (part xs i m) := fun x hx => h x (List.mem_of_mem_drop (List.mem_of_mem_take hx))
theorem lineOk_mag {xs : List Nat} (h : lineOk xs = true) : AllMag xs := fun x hx => fin1_mag (lineOk_all h x hx)
theorem sumF_mag {xs : List Nat} (h : AllMag xs) (h0 : 0 < xs.length) (h1 : xs.length ≤ 16) : Mag 190 (sumF xs) := (sumK_mag h (xs.length - 1) (by omega) (by omega)).mono (by omega)
theorem read_8 : Ieee.single.read 1090519040 = .number false 8388608 (-20) := by decide +kernel
theorem read_16 : Ieee.single.read 1098907648 = .number false 8388608 (-19) := by decide +kernel
theorem read_64 : Ieee.single.read 1115684864 = .number false 8388608 (-17) := by decide +kernel
def tipOf (xs : List Nat) : Nat := quov (sumF (part xs 0 8)) 1090519040
def blackOf (xs : List Nat) : Nat := quov (sumF (part xs 8 16)) 1098907648
theorem tip_run {xs : List Nat} (h : lineOk xs = true) : floatBits .quo .f32 (sumF (part xs 0 8)) 1090519040 = some (tipOf xs) ∧ Mag 191 (tipOf xs) := by
  have hl := lineOk_len h
  have hp := part_len xs 0 8 (by omega)
  exact Mag.quo read_8 (by decide) (sumF_mag (part_mag (lineOk_mag h) 0 8) (by omega) (by omega)) (by decide)
theorem black_run {xs : List Nat} (h : lineOk xs = true) : floatBits .quo .f32 (sumF (part xs 8 16)) 1098907648 = some (blackOf xs) ∧ Mag 191 (blackOf xs) := by
  have hl := lineOk_len h
  have hp := part_len xs 8 16 (by omega)
  exact Mag.quo read_16 (by decide) (sumF_mag (part_mag (lineOk_mag h) 8 16) (by omega) (by omega)) (by decide)
/-- Whether a line has levels. -/
def lvOk (xs : List Nat) : Bool := lineOk xs && !leb (blackOf xs) (tipOf xs)
def LevPost (xs : List Nat) (w : World) (e : Ending) (w' : World) : Prop := e = .returned (.tuple #[.float .f32 (if lvOk xs = true then tipOf xs else 0), .float .f32 (if lvOk xs = true then blackOf xs else 0), .bool (lvOk xs)]) ∧ Below w.heap.size w w'
theorem levPost_no {xs : List Nat} {w w' : World} (h : lvOk xs = false) (hb : Below w.heap.size w w') : LevPost xs w (.returned (.tuple #[.float .f32 0, .float .f32 0, .bool false])) w' := by
  unfold LevPost; rw [h]; exact ⟨rfl, hb⟩
theorem levPost_yes {xs : List Nat} {w w' : World} (h : lvOk xs = true) (hb : Below w.heap.size w w') : LevPost xs w (.returned (.tuple #[.float .f32 (tipOf xs), .float .f32 (blackOf xs), .bool true])) w' := by
  unfold LevPost; rw [h]; exact ⟨rfl, hb⟩
/-- What the differences of levels are divided by, and what samples are multiplied by. -/
def gapOf (xs : List Nat) : Nat := subv (blackOf xs) (tipOf xs)
def liftOf (xs : List Nat) : Nat := quov 1115684864 (gapOf xs)
theorem lvOk_line {xs : List Nat} (h : lvOk xs = true) : lineOk xs = true := by
  unfold lvOk at h; simp at h; exact h.1
theorem gap_run {xs : List Nat} (h : lvOk xs = true) : floatBits .sub .f32 (blackOf xs) (tipOf xs) = some (gapOf xs) ∧ Mag 193 (gapOf xs) :=
  Mag.sub (black_run (lvOk_line h)).2 (tip_run (lvOk_line h)).2 (by decide)
theorem lift_run {xs : List Nat} (h : lvOk xs = true) : floatBits .quo .f32 1115684864 (gapOf xs) = some (liftOf xs) := by
  obtain ⟨s, m, e, hr, _⟩ := (gap_run h).2
  have h64 : (Ieee.single.read 1115684864).isNaN = false := by rw [read_64]; rfl
  have hk : ∃ r, Ieee.single.div 1115684864 (gapOf xs) = some r := by
    by_cases h0 : m = 0
    · subst h0
      exact Flt.div_zero read_64 (by decide) hr
    · obtain ⟨r, hr', _⟩ := Flt.div_some h64 hr h0
      exact ⟨r, hr'⟩
  obtain ⟨r, hr'⟩ := hk
  have e : floatBits .quo .f32 1115684864 (gapOf xs) = some r := hr'
  rw [e]
  unfold liftOf quov
  rw [e]
  rfl
def diffOf (xs : List Nat) (x : Nat) : Nat := subv x (blackOf xs)
theorem diff_run {xs : List Nat} (h : lineOk xs = true) {x : Nat} (hx : x ∈ xs) : floatBits .sub .f32 x (blackOf xs) = some (diffOf xs x) :=
  (Mag.sub ((lineOk_mag h x hx).mono (by decide)) (black_run h).2 (by decide)).1
/-- The samples that ToLevel may make. -/
def LevL (xs ys rs : List Nat) : Prop := ∀ i (h : i < ys.length) (h' : i < rs.length), Res .mul (diffOf xs ys[i]) (liftOf xs) rs[i]
/-- Whether a line is brought to level, and to which samples. -/
def levs (xs : List Nat) : List Nat := xs.map fun x => mulv (diffOf xs x) (liftOf xs)
def levOk (xs : List Nat) : Bool := lvOk xs && ((xs.all fun x => (floatBits .mul .f32 (diffOf xs x) (liftOf xs)).isSome) && lineOk (levs xs))
def levR (xs ys : List Nat) : Prop := ys = if levOk xs = true then levs xs else []
theorem levs_len (xs : List Nat) : (levs xs).length = xs.length := by simp [levs]
theorem LevL.nil (xs ys : List Nat) : LevL xs ys [] := fun i h h' => absurd h' (by simp)
theorem LevL.snoc {xs ys rs : List Nat} {r k : Nat} (h : LevL xs ys rs) (hl : rs.length = k) (hk : k < ys.length) (hr : Res .mul (diffOf xs ys[k]) (liftOf xs) r) : LevL xs ys (rs ++ [r]) := by
  intro i h1 h2
  by_cases hi : i < rs.length
  · rw [List.getElem_append_left hi]; exact h i h1 hi
  · have e : i = k := by simp at h2; omega
    subst e
    rw [List.getElem_append_right (by omega)]
    simpa [hl] using hr
theorem fin1_nan {x : Nat} (h : isN x = true) : fin1 x = false := by
  unfold fin1 lo1
  rw [show Ieee.single.order 3296722944 x = none from Flt.order_nan (.inr h)]
  rfl
/-- Whatever NaN were drawn: the samples are a valid line just if the answer is one. -/
theorem levL_done {xs rs : List Nat} (hlv : lvOk xs = true) (h : LevL xs xs rs) (hl : rs.length = xs.length) : levOk xs = lineOk rs ∧ (lineOk rs = true → levs xs = rs) := by
  by_cases ha : (xs.all fun x => (floatBits .mul .f32 (diffOf xs x) (liftOf xs)).isSome) = true
  · have e : levs xs = rs := by
      refine List.ext_getElem (by rw [levs_len, hl]) fun i h1 h2 => ?_
      have hi : i < xs.length := by rw [levs_len] at h1; exact h1
      have hs := List.all_eq_true.1 ha xs[i] (List.getElem_mem hi)
      obtain ⟨r, hr⟩ := Option.isSome_iff_exists.1 hs
      rcases h i hi h2 with h3 | ⟨h3, _⟩
      · simp only [levs, List.getElem_map, mulv, h3]; rfl
      · rw [hr] at h3; cases h3
    exact ⟨by unfold levOk; rw [hlv, ha, e]; rfl, fun _ => e⟩
  · have hno : lineOk rs = false := by
      cases hx : lineOk rs with
      | false => rfl
      | true =>
        exfalso
        apply ha
        rw [List.all_eq_true]
        intro x hm
        obtain ⟨i, hi, rfl⟩ := List.mem_iff_getElem.1 hm
        rcases h i hi (by omega) with h3 | ⟨_, h3⟩
        · rw [h3]; rfl
        · have := lineOk_all hx _ (List.getElem_mem (by omega : i < rs.length))
          rw [fin1_nan h3] at this
          cases this
    exact ⟨by unfold levOk; rw [hno]; simp [ha], fun e => by rw [hno] at e; cases e⟩
end Go.Proofs.Ytgecclccmmcdoaa
