/-
  What is proved: the walks of the program's ChannelOk, Undo and Chain at channels that are valid.
  Conditions: the channels are valid.
-/
import Derived.Test.YtobpnoiienpipaaGreatPz14
import Derived.Test.YtobpnoiienpipaaGreatPz04
import Derived.Test.YtobpnoiienpipaaGreatPz13
import Derived.Test.YtobpnoiienpipaaGreatPz10
namespace Go.Proofs.YtobpnoiienpipaaGreat
set_option linter.unusedVariables false
open Go.RowKit
open Flt (Q Num sg sumv subv mulv quov)
attribute [local go_sem] run_store_float run_store_complex unary_negf neg256

/-- Is a number at most another one? -/
def leb (x y : Nat) : Bool := Ieee.single.order x y == some .lt || Ieee.single.order x y == some .eq
theorem leb_fold (x y : Nat) : (FloatKind.f32.format.order x y == some .lt || FloatKind.f32.format.order x y == some .eq) = leb x y := rfl
theorem leb_num {x y : Nat} {s t : Bool} {u v : Nat} (hx : Num Ieee.single x s u) (hy : Num Ieee.single y t v) (h : sg s u ≤ sg t v) : leb x y = true := by
  unfold leb
  rw [Flt.le_iff hx hy]
  exact decide_eq_true h
theorem leb_q {e f x y : Nat} {a b : Int} (hx : Q e x a) (hy : Q f y b) (h : a * 2 ^ e ≤ b * 2 ^ f) : leb x y = true := by
  obtain ⟨_, s, u, hx, ha⟩ := hx
  obtain ⟨_, t, v, hy, hb⟩ := hy
  exact leb_num hx hy (by rw [ha, hb]; exact h)
attribute [local go_sem] leb_fold
theorem neg16 : Op.negFloat .f32 1098907648 = 3246391296 := by decide
theorem neg64 : Op.negFloat .f32 1115684864 = 3263168512 := by decide
attribute [local go_sem] neg16 neg64
theorem withinB_any (x l n : Nat) (w : World) (hl : Op.negFloat .f32 l = n) (h1 : leb n x = true) (h2 : leb x l = true) :
    Calls Tryz.prog 61 #[.float .f32 x, .float .f32 l] w fun e w' => e = .returned (.bool true) ∧ w = w' := by
  go_enter Tryz.func61, Tryz.ntmps61
  go_wp2
  go_ret
  exact ⟨rfl, rfl⟩
/-- What makes a channel valid. -/
structure ChOk (h : Chn) : Prop where
  pos : Ieee.single.order 0 h.A = some .lt
  a : leb h.A 1098907648 = true
  o1 : leb 3263168512 h.O = true
  o2 : leb h.O 1115684864 = true
  x1 : leb 3246391296 h.X = true
  x2 : leb h.X 1098907648 = true
  y1 : leb 3246391296 h.Y = true
  y2 : leb h.Y 1098907648 = true
set_option maxHeartbeats 1000000 in
theorem channelOk_any (A O X Y : Nat) (w : World) (h : ChOk ⟨A, O, X, Y⟩) :
    Calls Tryz.prog 199 #[.agg #[.float .f32 A, .float .f32 O, .complex .f32 X Y]] w fun e w' => e = .returned (.bool true) ∧ Below w.heap.size w w' := by
  have H1 := fun W => Lib.hid (withinB_any O _ _ W neg64 h.o1 h.o2)
  have H2 := fun W => Lib.hid (withinB_any X _ _ W neg16 h.x1 h.x2)
  have H3 := fun W => Lib.hid (withinB_any Y _ _ W neg16 h.y1 h.y2)
  have h1 : FloatKind.f32.format.order 0 A = some .lt := h.pos
  have h2 : leb A 1098907648 = true := h.a
  clear h
  go_enter Tryz.func199, Tryz.ntmps199
  go_wp2_with fail
  refine (H1 _).out.mono ?_
  rintro e w1 ⟨rfl, rfl⟩
  go_wp2_with fail
  refine (H2 _).out.mono ?_
  rintro e w1 ⟨rfl, rfl⟩
  go_wp2_with fail
  refine (H3 _).out.mono ?_
  rintro e w1 ⟨rfl, rfl⟩
  go_wp2
  go_ret
  exact ⟨rfl, (Below.refl _ _).alloc (Nat.le_refl _) _⟩
/-- A channel lies in a block. -/
def LieC (w : World) (x A O X Y : Nat) : Prop := w.heap[x]? = some (.cells #[.float .f32 A, .float .f32 O, .complex .f32 X Y] 28 (0, 0))
theorem LieC.all {w : World} {x A O X Y : Nat} (h : LieC w x A O X Y) : w.cell? ⟨x, 0, none⟩ = some (.float .f32 A) ∧ w.cell? ⟨x, 1, none⟩ = some (.float .f32 O) ∧ w.cell? ⟨x, 2, none⟩ = some (.complex .f32 X Y) ∧ w.frozen? ⟨x, 0, none⟩ = false ∧ w.frozen? ⟨x, 1, none⟩ = false ∧ w.frozen? ⟨x, 2, none⟩ = false := by
  unfold LieC at h
  refine ⟨?_, ?_, ?_, ?_, ?_, ?_⟩ <;> simp [World.cell?, World.frozen?, h]
theorem LieC.kept {w w' : World} {x A O X Y : Nat} {row : Option Nat} (h : LieC w x A O X Y) (hg : w.grownBy w' row) (hne : some x ≠ row) : LieC w' x A O X Y :=
  (hg.block x (Array.getElem?_eq_some_iff.1 h).1 hne).trans h
theorem LieC.below {w w' : World} {x A O X Y : Nat} (h : LieC w x A O X Y) (hb : Below w.heap.size w w') : LieC w' x A O X Y := h.kept (grown_of hb) (by simp)
theorem LieC.new (w : World) (A O X Y : Nat) : LieC (w.alloc (.cells #[.float .f32 A, .float .f32 O, .complex .f32 X Y] 28)) w.heap.size A O X Y := heap_alloc_new w _
theorem LieC.put {w : World} {x A O X Y : Nat} (h : LieC w x A O X Y) (A' O' X' Y' : Nat) : LieC (putC w x A' O' X' Y') x A' O' X' Y' := heap_put (i := 2) (heap_put (i := 1) (heap_put (i := 0) h))
theorem putC.bel {a w : World} {x A O X Y : Nat} (h : Below a.heap.size a w) (hx : a.heap.size ≤ x) : Below a.heap.size a (putC w x A O X Y) :=
  ((h.setCell (p := ⟨x, 0, none⟩) hx _).setCell (p := ⟨x, 1, none⟩) hx _).setCell (p := ⟨x, 2, none⟩) hx _
end Go.Proofs.YtobpnoiienpipaaGreat

/-
  What is proved: the walks of the model's Levels and ToLevel.
  Conditions: the line can be read.
-/
namespace Go.Proofs.YtobpnoiienpipaaGreat
set_option linter.unusedVariables false
open Go.RowKit
open Flt (Mag sumv subv mulv quov)
attribute [local go_sem] run_store_float run_store_complex unary_negf neg256

/-- An operation whose answer is no NaN runs so. -/
theorem arith_ok {op : BinOp} {x y r : Nat} (h : floatBits op .f32 x y = some r) (W : World) : (binOp op 25 (.float .f32 x) (.float .f32 y)).run Tryz.prog W = .ok (.float .f32 r) W := run_float_arith (P := Tryz.prog) W op 25 .f32 x y r h
/-- The sum of the first k + 1 samples, in order. -/
def sumK (xs : List Nat) : Nat → Nat
  | 0 => xs.getD 0 0
  | k + 1 => sumv (sumK xs k) (xs.getD (k + 1) 0)
def sumF (xs : List Nat) : Nat := sumK xs (xs.length - 1)
def AllMag (xs : List Nat) : Prop := ∀ x ∈ xs, Mag 160 x
theorem AllMag.at {xs : List Nat} (h : AllMag xs) {k : Nat} (hk : k < xs.length) : Mag 160 (xs.getD k 0) := by
  rw [List.getD_eq_getElem?_getD, List.getElem?_eq_getElem hk]
  exact h _ (List.getElem_mem hk)
theorem sumK_mag {xs : List Nat} (h : AllMag xs) : ∀ k, k < xs.length → k ≤ 50 → Mag (160 + 2 * k) (sumK xs k)
  | 0, hk, _ => h.at hk
  | k + 1, hk, hb => ((sumK_mag h k (by omega) (by omega)).add ((h.at hk).mono (by omega)) (by omega)).2.mono (by omega)
theorem sumK_run {xs : List Nat} (h : AllMag xs) {k : Nat} (hk : k + 1 < xs.length) (hb : k ≤ 49) : floatBits .add .f32 (sumK xs k) (xs.getD (k + 1) 0) = some (sumK xs (k + 1)) :=
  ((sumK_mag h k (by omega) (by omega)).add ((h.at hk).mono (by omega)) (by omega)).1
theorem part_mag {xs : List Nat} (h : AllMag xs) (i m : Nat) : AllMag (part xs i m) := fun x hx => h x (List.mem_of_mem_drop (List.mem_of_mem_take hx))
theorem lineOk_mag {xs : List Nat} (h : lineOk xs = true) : AllMag xs := fun x hx => fin1_mag (lineOk_all h x hx)
theorem sumF_mag {xs : List Nat} (h : AllMag xs) (h0 : 0 < xs.length) (h1 : xs.length ≤ 16) : Mag 190 (sumF xs) := (sumK_mag h (xs.length - 1) (by omega) (by omega)).mono (by omega)
theorem read_8 : Ieee.single.read 1090519040 = .number false 8388608 (-20) := by decide +kernel
theorem read_16 : Ieee.single.read 1098907648 = .number false 8388608 (-19) := by decide +kernel
theorem read_64 : Ieee.single.read 1115684864 = .number false 8388608 (-17) := by decide +kernel
def tipOf (xs : List Nat) : Nat := quov (sumF (part xs 0 8)) 1090519040
def blackOf (xs : List Nat) : Nat := quov (sumF (part xs 8 16)) 1098907648
theorem tip_run {xs : List Nat} (h : lineOk xs = true) : floatBits .quo .f32 (sumF (part xs 0 8)) 1090519040 = some (tipOf xs) ∧ Mag 191 (tipOf xs) := by
  have hl := lineOk_len h
  have hp := part_len xs 0 8 (by omega)
  exact Mag.quo read_8 (by decide) (sumF_mag (part_mag (lineOk_mag h) 0 8) (by omega) (by omega)) (by decide)
theorem black_run {xs : List Nat} (h : lineOk xs = true) : floatBits .quo .f32 (sumF (part xs 8 16)) 1098907648 = some (blackOf xs) ∧ Mag 191 (blackOf xs) := by
  have hl := lineOk_len h
  have hp := part_len xs 8 16 (by omega)
  exact Mag.quo read_16 (by decide) (sumF_mag (part_mag (lineOk_mag h) 8 16) (by omega) (by omega)) (by decide)
/-- Whether a line has levels. -/
def lvOk (xs : List Nat) : Bool := lineOk xs && !leb (blackOf xs) (tipOf xs)
def LevPost (xs : List Nat) (w : World) (e : Ending) (w' : World) : Prop := e = .returned (.tuple #[.float .f32 (if lvOk xs = true then tipOf xs else 0), .float .f32 (if lvOk xs = true then blackOf xs else 0), .bool (lvOk xs)]) ∧ Below w.heap.size w w'
theorem levPost_no {xs : List Nat} {w w' : World} (h : lvOk xs = false) (hb : Below w.heap.size w w') : LevPost xs w (.returned (.tuple #[.float .f32 0, .float .f32 0, .bool false])) w' := by
  unfold LevPost; rw [h]; exact ⟨rfl, hb⟩
theorem levPost_yes {xs : List Nat} {w w' : World} (h : lvOk xs = true) (hb : Below w.heap.size w w') : LevPost xs w (.returned (.tuple #[.float .f32 (tipOf xs), .float .f32 (blackOf xs), .bool true])) w' := by
  unfold LevPost; rw [h]; exact ⟨rfl, hb⟩
/-- What the differences of levels are divided by, and what samples are multiplied by. -/
def gapOf (xs : List Nat) : Nat := subv (blackOf xs) (tipOf xs)
def liftOf (xs : List Nat) : Nat := quov 1115684864 (gapOf xs)
theorem lvOk_line {xs : List Nat} (h : lvOk xs = true) : lineOk xs = true := by
  unfold lvOk at h; simp at h; exact h.1
theorem gap_run {xs : List Nat} (h : lvOk xs = true) : floatBits .sub .f32 (blackOf xs) (tipOf xs) = some (gapOf xs) ∧ Mag 193 (gapOf xs) :=
  Mag.sub (black_run (lvOk_line h)).2 (tip_run (lvOk_line h)).2 (by decide)
theorem lift_run {xs : List Nat} (h : lvOk xs = true) : floatBits .quo .f32 1115684864 (gapOf xs) = some (liftOf xs) := by
  obtain ⟨s, m, e, hr, _⟩ := (gap_run h).2
  have h64 : (Ieee.single.read 1115684864).isNaN = false := by rw [read_64]; rfl
  have hk : ∃ r, Ieee.single.div 1115684864 (gapOf xs) = some r := by
    by_cases h0 : m = 0
    · subst h0
      exact Flt.div_zero read_64 (by decide) hr
    · obtain ⟨r, hr', _⟩ := Flt.div_some h64 hr h0
      exact ⟨r, hr'⟩
  obtain ⟨r, hr'⟩ := hk
  have e : floatBits .quo .f32 1115684864 (gapOf xs) = some r := hr'
  rw [e]
  unfold liftOf quov
  rw [e]
  rfl
def diffOf (xs : List Nat) (x : Nat) : Nat := subv x (blackOf xs)
theorem diff_run {xs : List Nat} (h : lineOk xs = true) {x : Nat} (hx : x ∈ xs) : floatBits .sub .f32 x (blackOf xs) = some (diffOf xs x) :=
  (Mag.sub ((lineOk_mag h x hx).mono (by decide)) (black_run h).2 (by decide)).1
/-- The samples that ToLevel may make. -/
def LevL (xs ys rs : List Nat) : Prop := ∀ i (h : i < ys.length) (h' : i < rs.length), Res .mul (diffOf xs ys[i]) (liftOf xs) rs[i]
/-- Whether a line is brought to level, and to which samples. -/
def levs (xs : List Nat) : List Nat := xs.map fun x => mulv (diffOf xs x) (liftOf xs)
def levOk (xs : List Nat) : Bool := lvOk xs && ((xs.all fun x => (floatBits .mul .f32 (diffOf xs x) (liftOf xs)).isSome) && lineOk (levs xs))
def levR (xs ys : List Nat) : Prop := ys = if levOk xs = true then levs xs else []
theorem levs_len (xs : List Nat) : (levs xs).length = xs.length := by simp [levs]
theorem LevL.nil (xs ys : List Nat) : LevL xs ys [] := fun i h h' => absurd h' (by simp)
theorem LevL.snoc {xs ys rs : List Nat} {r k : Nat} (h : LevL xs ys rs) (hl : rs.length = k) (hk : k < ys.length) (hr : Res .mul (diffOf xs ys[k]) (liftOf xs) r) : LevL xs ys (rs ++ [r]) := by
  intro i h1 h2
  by_cases hi : i < rs.length
  · rw [List.getElem_append_left hi]; exact h i h1 hi
  · have e : i = k := by simp at h2; omega
    subst e
    rw [List.getElem_append_right (by omega)]
    simpa [hl] using hr
theorem fin1_nan {x : Nat} (h : isN x = true) : fin1 x = false := by
  unfold fin1 lo1
  rw [show Ieee.single.order 3296722944 x = none from Flt.order_nan (.inr h)]
  rfl
/-- Whatever NaN were drawn: the samples are a valid line just if the answer is one. -/
theorem levL_done {xs rs : List Nat} (hlv : lvOk xs = true) (h : LevL xs xs rs) (hl : rs.length = xs.length) : levOk xs = lineOk rs ∧ (lineOk rs = true → levs xs = rs) := by
  by_cases ha : (xs.all fun x => (floatBits .mul .f32 (diffOf xs x) (liftOf xs)).isSome) = true
  · have e : levs xs = rs := by
      refine List.ext_getElem (by rw [levs_len, hl]) fun i h1 h2 => ?_
      have hi : i < xs.length := by rw [levs_len] at h1; exact h1
      have hs := List.all_eq_true.1 ha xs[i] (List.getElem_mem hi)
      obtain ⟨r, hr⟩ := Option.isSome_iff_exists.1 hs
      rcases h i hi h2 with h3 | ⟨h3, _⟩
      · simp only [levs, List.getElem_map, mulv, h3]; rfl
      · rw [hr] at h3; cases h3
    exact ⟨by unfold levOk; rw [hlv, ha, e]; rfl, fun _ => e⟩
  · have hno : lineOk rs = false := by
      cases hx : lineOk rs with
      | false => rfl
      | true =>
        exfalso
        apply ha
        rw [List.all_eq_true]
        intro x hm
        obtain ⟨i, hi, rfl⟩ := List.mem_iff_getElem.1 hm
        rcases h i hi (by omega) with h3 | ⟨_, h3⟩
        · rw [h3]; rfl
        · have := lineOk_all hx _ (List.getElem_mem (by omega : i < rs.length))
          rw [fin1_nan h3] at this
          cases this
    exact ⟨by unfold levOk; rw [hno]; simp [ha], fun e => by rw [hno] at e; cases e⟩
end Go.Proofs.YtobpnoiienpipaaGreat

/-
  What is proved: the walks of SamplesOk, the program's and the model's.
  Conditions: the list can be read, and has at most 4000000 numbers.
-/
namespace Go.Proofs.YtobpnoiienpipaaGreat
set_option linter.unusedVariables false
open Go.RowKit
attribute [local go_sem] run_store_float run_store_complex unary_negf neg256 neg1024
attribute [local go_sem] geq_lo1 leq_lo1 leq_hi1

def sampLen (n : Nat) : Bool := decide (n % 4 = 0) && (decide (4 ≤ n) && decide (n ≤ 4096))
/-- Are samples valid? -/
def sampOk (xs : List Nat) : Bool := sampLen xs.length && xs.all fin1
theorem sampLen_iff {n : Nat} : sampLen n = true ↔ n % 4 = 0 ∧ 4 ≤ n ∧ n ≤ 4096 := by
  unfold sampLen
  simp [and_assoc]
theorem sampLen_no {n : Nat} (h : ¬(n % 4 = 0 ∧ 4 ≤ n ∧ n ≤ 4096)) : sampLen n = false := by
  cases h1 : sampLen n with
  | false => rfl
  | true => exact absurd (sampLen_iff.1 h1) h
theorem sampOk_no {xs : List Nat} (h : sampLen xs.length = false) : sampOk xs = false := by unfold sampOk; rw [h]; rfl
theorem sampOk_yes {xs : List Nat} (h : sampLen xs.length = true) : sampOk xs = xs.all fin1 := by unfold sampOk; rw [h]; rfl
theorem sampOk_len {xs : List Nat} (h : sampOk xs = true) : xs.length % 4 = 0 ∧ 4 ≤ xs.length ∧ xs.length ≤ 4096 := by
  cases h1 : sampLen xs.length with
  | true => exact sampLen_iff.1 h1
  | false => rw [sampOk_no h1] at h; cases h
theorem sampOk_all {xs : List Nat} (h : sampOk xs = true) : ∀ x ∈ xs, fin1 x = true := by
  have h1 : xs.all fin1 = true := by
    cases h1 : sampLen xs.length with
    | true => rw [sampOk_yes h1] at h; exact h
    | false => rw [sampOk_no h1] at h; cases h
  exact List.all_eq_true.1 h1
theorem sampOk_mk {xs : List Nat} (h : xs.length % 4 = 0 ∧ 4 ≤ xs.length ∧ xs.length ≤ 4096) (h' : ∀ x ∈ xs, fin1 x = true) : sampOk xs = true := by
  rw [sampOk_yes (sampLen_iff.2 h)]
  exact List.all_eq_true.2 h'
set_option maxHeartbeats 1000000 in
theorem samplesOk_any (v : Value) (xs : List Nat) (w : World) (h : FRow w v xs) (hl : xs.length ≤ 4000000) :
    Calls Tryz.prog 112 #[v] w fun e w' => e = .returned (.bool (sampOk xs)) ∧ w = w' := by
  by_cases h4 : xs.length < 4
  · have HL := Lib.hid (sampOk_no (xs := xs) (sampLen_no (by omega)))
    obtain ⟨a, c, rfl⟩ := h.lenv
    clear h
    go_enter Tryz.func112, Tryz.ntmps112
    go_wp2
    go_ret
    exact ⟨by rw [HL.out]; rfl, rfl⟩
  · by_cases h40 : 4096 < xs.length
    · have HL := Lib.hid (sampOk_no (xs := xs) (sampLen_no (by omega)))
      obtain ⟨a, c, rfl⟩ := h.lenv
      clear h
      go_enter Tryz.func112, Tryz.ntmps112
      go_wp2
      go_ret
      exact ⟨by rw [HL.out]; rfl, rfl⟩
    · by_cases hm : xs.length % 4 = 0
      · have hmod : (Int.tmod (xs.length : Int) 4 == 0) = true := by
          have : Int.tmod (xs.length : Int) 4 = 0 := Int.tmod_eq_zero_of_dvd (by omega)
          rw [this]; rfl
        have hmod2 : ((xs.length : Int) % 4 == 0) = true := by simp; omega
        have HL := Lib.hid (sampOk_yes (sampLen_iff.2 ⟨hm, by omega, by omega⟩))
        have HA := fun W hr => Lib.hid (allWithin_any v xs W hr (by omega))
        have HR := Lib.hid h
        obtain ⟨a, c, rfl⟩ := h.lenv
        clear h hm
        go_enter Tryz.func112, Tryz.ntmps112
        go_wp2_with fail
        refine (HA _ HR.out).out.mono ?_
        rintro e w1 ⟨rfl, rfl⟩
        go_wp2
        go_ret
        exact ⟨by rw [HL.out]; rfl, rfl⟩
      · have hmod : (Int.tmod (xs.length : Int) 4 == 0) = false := by
          simp only [beq_eq_false_iff_ne, ne_eq]
          intro e
          have := Int.dvd_of_tmod_eq_zero e
          omega
        have hmod2 : ((xs.length : Int) % 4 == 0) = false := by simp; omega
        have HL := Lib.hid (sampOk_no (xs := xs) (sampLen_no (by omega)))
        obtain ⟨a, c, rfl⟩ := h.lenv
        clear h hm
        go_enter Tryz.func112, Tryz.ntmps112
        go_wp2
        go_ret
        exact ⟨by rw [HL.out]; rfl, rfl⟩
end Go.Proofs.YtobpnoiienpipaaGreat

/-
  What is proved: a line of small dyadic numbers that came through a channel of such is brought to level exactly.
  Conditions: those that each fact names.
-/
namespace Go.Proofs.YtobpnoiienpipaaGreat
set_option linter.unusedVariables false
open Go.RowKit
open Flt (Q Mag sumv subv mulv quov)

/-- Each number of a list is a whole one times a power of two. -/
def QL (e : Nat) : List Nat → List Int → Prop
  | [], [] => True
  | x :: xs, k :: ks => Q e x k ∧ QL e xs ks
  | _, _ => False
theorem QL.len {e : Nat} : ∀ {xs : List Nat} {ks : List Int}, QL e xs ks → xs.length = ks.length
  | [], [], _ => rfl
  | _ :: _, _ :: _, h => by rw [List.length_cons, List.length_cons, QL.len h.2]
  | [], _ :: _, h => h.elim
  | _ :: _, [], h => h.elim
theorem QL.append {e : Nat} : ∀ {xs : List Nat} {ks : List Int} {ys : List Nat} {ls : List Int}, QL e xs ks → QL e ys ls → QL e (xs ++ ys) (ks ++ ls)
  | [], [], _, _, _, h => h
  | _ :: _, _ :: _, _, _, h, h' => ⟨h.1, QL.append h.2 h'⟩
  | [], _ :: _, _, _, h, _ => h.elim
  | _ :: _, [], _, _, h, _ => h.elim
theorem QL.get {e : Nat} : ∀ {xs : List Nat} {ks : List Int}, QL e xs ks → ∀ i (h : i < xs.length) (h' : i < ks.length), Q e xs[i] ks[i]
  | _ :: _, _ :: _, h, 0, _, _ => h.1
  | _ :: _, _ :: _, h, i + 1, h1, h2 => QL.get h.2 i (by simpa using h1) (by simpa using h2)
  | [], [], _, i, h1, _ => absurd h1 (by simp)
  | [], _ :: _, h, _, _, _ => h.elim
  | _ :: _, [], h, _, _, _ => h.elim
theorem QL.drop {e : Nat} : ∀ (n : Nat) {xs : List Nat} {ks : List Int}, QL e xs ks → QL e (xs.drop n) (ks.drop n)
  | 0, _, _, h => h
  | n + 1, [], [], _ => trivial
  | n + 1, _ :: _, _ :: _, h => QL.drop n h.2
  | _ + 1, [], _ :: _, h => h.elim
  | _ + 1, _ :: _, [], h => h.elim
theorem QL.take {e : Nat} : ∀ (n : Nat) {xs : List Nat} {ks : List Int}, QL e xs ks → QL e (xs.take n) (ks.take n)
  | 0, _, _, _ => trivial
  | n + 1, [], [], _ => trivial
  | n + 1, _ :: _, _ :: _, h => ⟨h.1, QL.take n h.2⟩
  | _ + 1, [], _ :: _, h => h.elim
  | _ + 1, _ :: _, [], h => h.elim
theorem QL.map {e f : Nat} {F : Nat → Nat} {G : Int → Int} : ∀ {xs : List Nat} {ks : List Int}, QL e xs ks → (∀ x ∈ xs, ∀ k ∈ ks, Q e x k → Q f (F x) (G k)) → QL f (xs.map F) (ks.map G)
  | [], [], _, _ => trivial
  | x :: xs, k :: ks, h, hF => ⟨hF x (by simp) k (by simp) h.1, QL.map h.2 fun y hy l hl => hF y (by simp [hy]) l (by simp [hl])⟩
  | [], _ :: _, h, _ => h.elim
  | _ :: _, [], h, _ => h.elim
def ksum : List Int → Int
  | [] => 0
  | k :: ks => k + ksum ks
theorem ksum_append : ∀ (a b : List Int), ksum (a ++ b) = ksum a + ksum b
  | [], b => by simp [ksum]
  | k :: a, b => by show k + ksum (a ++ b) = k + ksum a + ksum b; rw [ksum_append a b]; omega
theorem ksum_le {B : Nat} : ∀ (ks : List Int), (∀ k ∈ ks, k.natAbs ≤ B) → (ksum ks).natAbs ≤ ks.length * B
  | [], _ => by simp [ksum]
  | k :: ks, h => by
    have h1 := h k (by simp)
    have h2 := ksum_le ks fun x hx => h x (by simp [hx])
    show (k + ksum ks).natAbs ≤ (ks.length + 1) * B
    rw [Nat.succ_mul]
    omega
theorem q_sumK {e B : Nat} {xs : List Nat} {ks : List Int} (h : QL e xs ks) (hB : ∀ k ∈ ks, k.natAbs ≤ B) (hs : ks.length * B < 2 ^ 24) (he : e ≤ 240) : ∀ k, k < xs.length → Q e (sumK xs k) (ksum (ks.take (k + 1)))
  | 0, hk => by
    have hk' : 0 < ks.length := by rw [← h.len]; exact hk
    have h1 := h.get 0 hk hk'
    rw [List.take_succ_eq_append_getElem hk']
    have e0 : sumK xs 0 = xs[0] := by unfold sumK; rw [List.getD_eq_getElem?_getD, List.getElem?_eq_getElem hk]; rfl
    rw [e0]
    simpa [ksum] using h1
  | k + 1, hk => by
    have hk' : k + 1 < ks.length := by rw [← h.len]; exact hk
    have h1 := h.get (k + 1) hk hk'
    have h2 := q_sumK h hB hs he k (by omega)
    have e0 : sumK xs (k + 1) = sumv (sumK xs k) xs[k + 1] := by
      show sumv (sumK xs k) (xs.getD (k + 1) 0) = _
      rw [List.getD_eq_getElem?_getD, List.getElem?_eq_getElem hk]; rfl
    rw [e0, List.take_succ_eq_append_getElem hk', ksum_append, show ksum [ks[k + 1]] = ks[k + 1] by simp [ksum]]
    refine q_sumv h2 h1 ?_ he
    have hb := ksum_le (ks.take (k + 1) ++ [ks[k + 1]]) (B := B) fun x hx => by
      rcases List.mem_append.1 hx with hx | hx
      · exact hB x (List.mem_of_mem_take hx)
      · rw [List.mem_singleton.1 hx]; exact hB _ (List.getElem_mem hk')
    rw [ksum_append, show ksum [ks[k + 1]] = ks[k + 1] by simp [ksum]] at hb
    refine Nat.lt_of_le_of_lt hb (Nat.lt_of_le_of_lt (Nat.mul_le_mul_right B ?_) hs)
    rw [List.length_append, List.length_take]
    simp
    omega
theorem q_sumF {e B : Nat} {xs : List Nat} {ks : List Int} (h : QL e xs ks) (h0 : 0 < xs.length) (hB : ∀ k ∈ ks, k.natAbs ≤ B) (hs : ks.length * B < 2 ^ 24) (he : e ≤ 240) : Q e (sumF xs) (ksum ks) := by
  have := q_sumK h hB hs he (xs.length - 1) (by omega)
  rwa [List.take_of_length_le (by rw [← h.len]; omega)] at this
abbrev I3 := Int × Int × Int
/-- The samples of a cell of whole numbers. -/
def encI (c : I3) : List Int := [c.1 + c.2.1, c.1 - c.2.2, c.1 - c.2.1, c.1 + c.2.2]
/-- Cells that are plain, and the sixteenths that they are. -/
def CellsQ : List C3 → List I3 → Prop
  | [], [] => True
  | c :: cs, k :: ks => PC c k.1 k.2.1 k.2.2 ∧ CellsQ cs ks
  | _, _ => False
theorem CellsQ.append : ∀ {cs : List C3} {ks : List I3} {ds : List C3} {ls : List I3}, CellsQ cs ks → CellsQ ds ls → CellsQ (cs ++ ds) (ks ++ ls)
  | [], [], _, _, _, h => h
  | _ :: _, _ :: _, _, _, h, h' => ⟨h.1, CellsQ.append h.2 h'⟩
  | [], _ :: _, _, _, h, _ => h.elim
  | _ :: _, [], _, _, h, _ => h.elim
theorem CellsQ.samples : ∀ {cs : List C3} {ks : List I3}, CellsQ cs ks → QL 145 (enc cs) (ks.flatMap encI) ∧ ∀ k ∈ ks.flatMap encI, k.natAbs ≤ 1536
  | [], [], _ => ⟨trivial, fun k hk => by cases hk⟩
  | c :: cs, k :: ks, h => by
    obtain ⟨h1, h2⟩ := h
    obtain ⟨i1, i2⟩ := CellsQ.samples h2
    obtain ⟨b1, b2, b3⟩ := h1.2.2.2
    obtain ⟨e1, e2, e3, e4⟩ := h1.qc.enc (by decide) (by omega) (by omega) (by omega)
    refine ⟨QL.append (xs := enc4 c) (ks := encI k) ⟨e1, e2, e3, e4, trivial⟩ i1, fun s hs => ?_⟩
    rcases List.mem_append.1 (show s ∈ encI k ++ ks.flatMap encI from hs) with hs | hs
    · simp only [encI, List.mem_cons, List.mem_nil_iff, or_false] at hs
      omega
    · exact i2 s hs
  | [], _ :: _, h => h.elim
  | _ :: _, [], h => h.elim
end Go.Proofs.YtobpnoiienpipaaGreat
