/-
  What is proved: the walks of the model's Levels and ToLevel.
  Conditions: the line can be read.
-/
import Derived.Test.YtobpnoiienpipaaGreatPz04
import Derived.Test.YtobpnoiienpipaaGreatPz05
import Derived.Test.YtobpnoiienpipaaGreatPz07
import Derived.Test.YtobpnoiienpipaaGreatPz11
namespace Go.Proofs.YtobpnoiienpipaaGreat
set_option linter.unusedVariables false
open Go.RowKit
open Flt (Mag sumv subv mulv quov)
attribute [local go_sem] run_store_float run_store_complex unary_negf neg256

/-- An operation whose answer is no NaN runs so. -/
theorem arith_ok {op : BinOp} {x y r : Nat} (h : floatBits op .f32 x y = some r) (W : World) : (binOp op 25 (.float .f32 x) (.float .f32 y)).run Tryz.prog W = .ok (.float .f32 r) W := run_float_arith (P := Tryz.prog) W op 25 .f32 x y r h
/-- The sum of the first k + 1 samples, in order. -/
def sumK (xs : List Nat) : Nat → Nat
  | 0 => xs.getD 0 0
  | k + 1 => sumv (sumK xs k) (xs.getD (k + 1) 0)
def sumF (xs : List Nat) : Nat := sumK xs (xs.length - 1)
def AllMag (xs : List Nat) : Prop := ∀ x ∈ xs, Mag 160 x
theorem AllMag.at {xs : List Nat} (h : AllMag xs) {k : Nat} (hk : k < xs.length) : Mag 160 (xs.getD k 0) := by
  rw [List.getD_eq_getElem?_getD, List.getElem?_eq_getElem hk]
  exact h _ (List.getElem_mem hk)
theorem sumK_mag {xs : List Nat} (h : AllMag xs) : ∀ k, k < xs.length → k ≤ 50 → Mag (160 + 2 * k) (sumK xs k)
  | 0, hk, _ => h.at hk
  | k + 1, hk, hb => ((sumK_mag h k (by omega) (by omega)).add ((h.at hk).mono (by omega)) (by omega)).2.mono (by omega)
theorem sumK_run {xs : List Nat} (h : AllMag xs) {k : Nat} (hk : k + 1 < xs.length) (hb : k ≤ 49) : floatBits .add .f32 (sumK xs k) (xs.getD (k + 1) 0) = some (sumK xs (k + 1)) :=
  ((sumK_mag h k (by omega) (by omega)).add ((h.at hk).mono (by omega)) (by omega)).1
theorem part_mag {xs : List Nat} (h : AllMag xs) (i m : Nat) : AllMag (part xs i m) := fun x hx => h x (List.mem_of_mem_drop (List.mem_of_mem_take hx))
theorem lineOk_mag {xs : List Nat} (h : lineOk xs = true) : AllMag xs := fun x hx => fin1_mag (lineOk_all h x hx)
theorem sumF_mag {xs : List Nat} (h : AllMag xs) (h0 : 0 < xs.length) (h1 : xs.length ≤ 16) : Mag 190 (sumF xs) := (sumK_mag h (xs.length - 1) (by omega) (by omega)).mono (by omega)
theorem read_8 : Ieee.single.read 1090519040 = .number false 8388608 (-20) := by decide +kernel
theorem read_16 : Ieee.single.read 1098907648 = .number false 8388608 (-19) := by decide +kernel
theorem read_64 : Ieee.single.read 1115684864 = .number false 8388608 (-17) := by decide +kernel
def tipOf (xs : List Nat) : Nat := quov (sumF (part xs 0 8)) 1090519040
def blackOf (xs : List Nat) : Nat := quov (sumF (part xs 8 16)) 1098907648
theorem tip_run {xs : List Nat} (h : lineOk xs = true) : floatBits .quo .f32 (sumF (part xs 0 8)) 1090519040 = some (tipOf xs) ∧ Mag 191 (tipOf xs) := by
  have hl := lineOk_len h
  have hp := part_len xs 0 8 (by omega)
  exact Mag.quo read_8 (by decide) (sumF_mag (part_mag (lineOk_mag h) 0 8) (by omega) (by omega)) (by decide)
theorem black_run {xs : List Nat} (h : lineOk xs = true) : floatBits .quo .f32 (sumF (part xs 8 16)) 1098907648 = some (blackOf xs) ∧ Mag 191 (blackOf xs) := by
  have hl := lineOk_len h
  have hp := part_len xs 8 16 (by omega)
  exact Mag.quo read_16 (by decide) (sumF_mag (part_mag (lineOk_mag h) 8 16) (by omega) (by omega)) (by decide)
/-- Whether a line has levels. -/
def lvOk (xs : List Nat) : Bool := lineOk xs && !leb (blackOf xs) (tipOf xs)
def LevPost (xs : List Nat) (w : World) (e : Ending) (w' : World) : Prop := e = .returned (.tuple #[.float .f32 (if lvOk xs = true then tipOf xs else 0), .float .f32 (if lvOk xs = true then blackOf xs else 0), .bool (lvOk xs)]) ∧ Below w.heap.size w w'
theorem levPost_no {xs : List Nat} {w w' : World} (h : lvOk xs = false) (hb : Below w.heap.size w w') : LevPost xs w (.returned (.tuple #[.float .f32 0, .float .f32 0, .bool false])) w' := by
  unfold LevPost; rw [h]; exact ⟨rfl, hb⟩
theorem levPost_yes {xs : List Nat} {w w' : World} (h : lvOk xs = true) (hb : Below w.heap.size w w') : LevPost xs w (.returned (.tuple #[.float .f32 (tipOf xs), .float .f32 (blackOf xs), .bool true])) w' := by
  unfold LevPost; rw [h]; exact ⟨rfl, hb⟩
/-- What the differences of levels are divided by, and what samples are multiplied by. -/
def gapOf (xs : List Nat) : Nat := subv (blackOf xs) (tipOf xs)
def liftOf (xs : List Nat) : Nat := quov 1115684864 (gapOf xs)
theorem lvOk_line {xs : List Nat} (h : lvOk xs = true) : lineOk xs = true := by
  unfold lvOk at h; simp at h; exact h.1
theorem gap_run {xs : List Nat} (h : lvOk xs = true) : floatBits .sub .f32 (blackOf xs) (tipOf xs) = some (gapOf xs) ∧ Mag 193 (gapOf xs) :=
  Mag.sub (black_run (lvOk_line h)).2 (tip_run (lvOk_line h)).2 (by decide)
theorem lift_run {xs : List Nat} (h : lvOk xs = true) : floatBits .quo .f32 1115684864 (gapOf xs) = some (liftOf xs) := by
  obtain ⟨s, m, e, hr, _⟩ := (gap_run h).2
  have h64 : (Ieee.single.read 1115684864).isNaN = false := by rw [read_64]; rfl
  have hk : ∃ r, Ieee.single.div 1115684864 (gapOf xs) = some r := by
    by_cases h0 : m = 0
    · subst h0
      exact Flt.div_zero read_64 (by decide) hr
    · obtain ⟨r, hr', _⟩ := Flt.div_some h64 hr h0
      exact ⟨r, hr'⟩
  obtain ⟨r, hr'⟩ := hk
  have e : floatBits .quo .f32 1115684864 (gapOf xs) = some r := hr'
  rw [e]
  unfold liftOf quov
  rw [e]
  rfl
def diffOf (xs : List Nat) (x : Nat) : Nat := subv x (blackOf xs)
theorem diff_run {xs : List Nat} (h : lineOk xs = true) {x : Nat} (hx : x ∈ xs) : floatBits .sub .f32 x (blackOf xs) = some (diffOf xs x) :=
  (Mag.sub ((lineOk_mag h x hx).mono (by decide)) (black_run h).2 (by decide)).1
/-- The samples that ToLevel may make. -/
def LevL (xs ys rs : List Nat) : Prop := ∀ i (h : i < ys.length) (h' : i < rs.length), Res .mul (diffOf xs ys[i]) (liftOf xs) rs[i]
/-- Whether a line is brought to level, and to which samples. -/
def levs (xs : List Nat) : List Nat := xs.map fun x => mulv (diffOf xs x) (liftOf xs)
def levOk (xs : List Nat) : Bool := lvOk xs && ((xs.all fun x => (floatBits .mul .f32 (diffOf xs x) (liftOf xs)).isSome) && lineOk (levs xs))
def levR (xs ys : List Nat) : Prop := ys = if levOk xs = true then levs xs else []
theorem levs_len (xs : List Nat) : (levs xs).length = xs.length := by simp [levs]
theorem LevL.nil (xs ys : List Nat) : LevL xs ys [] := fun i h h' => absurd h' (by simp)
theorem LevL.snoc {xs ys rs : List Nat} {r k : Nat} (h : LevL xs ys rs) (hl : rs.length = k) (hk : k < ys.length) (hr : Res .mul (diffOf xs ys[k]) (liftOf xs) r) : LevL xs ys (rs ++ [r]) := by
  intro i h1 h2
  by_cases hi : i < rs.length
  · rw [List.getElem_append_left hi]; exact h i h1 hi
  · have e : i = k := by simp at h2; omega
    subst e
    rw [List.getElem_append_right (by omega)]
    simpa [hl] using hr
theorem fin1_nan {x : Nat} (h : isN x = true) : fin1 x = false := by
  unfold fin1 lo1
  rw [show Ieee.single.order 3296722944 x = none from Flt.order_nan (.inr h)]
  rfl
/-- Whatever NaN were drawn: the samples are a valid line just if the answer is one. -/
theorem levL_done {xs rs : List Nat} (hlv : lvOk xs = true) (h : LevL xs xs rs) (hl : rs.length = xs.length) : levOk xs = lineOk rs ∧ (lineOk rs = true → levs xs = rs) := by
  by_cases ha : (xs.all fun x => (floatBits .mul .f32 (diffOf xs x) (liftOf xs)).isSome) = true
  · have e : levs xs = rs := by
      refine List.ext_getElem (by rw [levs_len, hl]) fun i h1 h2 => ?_
      have hi : i < xs.length := by rw [levs_len] at h1; exact h1
      have hs := List.all_eq_true.1 ha xs[i] (List.getElem_mem hi)
      obtain ⟨r, hr⟩ := Option.isSome_iff_exists.1 hs
      rcases h i hi h2 with h3 | ⟨h3, _⟩
      · simp only [levs, List.getElem_map, mulv, h3]; rfl
      · rw [hr] at h3; cases h3
    exact ⟨by unfold levOk; rw [hlv, ha, e]; rfl, fun _ => e⟩
  · have hno : lineOk rs = false := by
      cases hx : lineOk rs with
      | false => rfl
      | true =>
        exfalso
        apply ha
        rw [List.all_eq_true]
        intro x hm
        obtain ⟨i, hi, rfl⟩ := List.mem_iff_getElem.1 hm
        rcases h i hi (by omega) with h3 | ⟨_, h3⟩
        · rw [h3]; rfl
        · have := lineOk_all hx _ (List.getElem_mem (by omega : i < rs.length))
          rw [fin1_nan h3] at this
          cases this
    exact ⟨by unfold levOk; rw [hno]; simp [ha], fun e => by rw [hno] at e; cases e⟩
set_option maxHeartbeats 2000000 in
theorem specSum_any (v : Value) (xs : List Nat) (w : World) (h : FRow w v xs) (hm : AllMag xs) (h0 : 0 < xs.length) (hl : xs.length ≤ 50) :
    Calls Tryz.prog 100 #[v] w fun e w' => e = .returned (.float .f32 (sumF xs)) ∧ w = w' := by
  obtain ⟨a, c, rfl, hcell⟩ := h.any
  have HC := Lib.hid hcell
  obtain ⟨g, o, rfl, hcap, hc0⟩ := hcell 0 h0
  have hg0 : xs[0] = sumK xs 0 := by unfold sumK; rw [List.getD_eq_getElem?_getD, List.getElem?_eq_getElem h0]; rfl
  rw [hg0, Nat.add_zero] at hc0
  have HM := Lib.hid hm
  clear hcell h hm hg0
  go_enter Tryz.func100, Tryz.ntmps100
  go_wp2
  go_loop [3, 4] (fun x i => ∃ k : Nat, k < xs.length ∧ i = .int .i64 ((k : Int) + 1) ∧ x = .float .f32 (sumK xs k)) (fun _ i => xs.length - (intOf i).toNat)
  case atStart => exact ⟨0, h0, rfl, rfl⟩
  case round =>
    obtain ⟨k, hk, rfl, rfl⟩ := hrel
    by_cases hlt : k + 1 < xs.length
    · obtain ⟨g1, o1, e, _, hc1⟩ := HC.out (k + 1) hlt
      cases e
      have hrun := fun W => arith_ok (sumK_run HM.out hlt (by omega)) W
      have hg1 : xs[k + 1] = xs.getD (k + 1) 0 := by rw [List.getD_eq_getElem?_getD, List.getElem?_eq_getElem hlt]; rfl
      rw [hg1] at hc1
      generalize xs.getD (k + 1) 0 = z at *
      have HN := Lib.hid (show sumK xs (k + 1) = sumK xs (k + 1) from rfl)
      generalize sumK xs k = s at *
      obtain ⟨r, hr⟩ : ∃ r, sumK xs (k + 1) = r := ⟨_, rfl⟩
      rw [hr] at hrun
      have HR := Lib.hid hr
      clear hr hg1
      go_wp2
      go_round
      case rel => exact ⟨k + 1, hlt, by go_num, by rw [HR.out]⟩
      case measure => simp [intOf]; omega
    · have hkk : sumF xs = sumK xs k := by unfold sumF; rw [show xs.length - 1 = k by omega]
      have HK := Lib.hid hkk
      clear hkk
      go_wp2
      go_ret
      exact ⟨by rw [HK.out]; rfl, rfl⟩
set_option maxHeartbeats 2000000 in
theorem specLevels_any (v : Value) (xs : List Nat) (w : World) (h : FRow w v xs) (hl : xs.length ≤ 4000000) :
    Calls Tryz.prog 71 #[v] w fun e w' => LevPost xs w e w' := by
  have HO := Lib.hid (specLineOk_any v xs w h hl)
  have HP := Lib.hid (specPulse_any v xs w h hl)
  have HBU := fun W hr => Lib.hid (specBurst_any v xs W hr hl)
  have HRW := Lib.hid h
  clear h
  cases ho : lineOk xs with
  | false =>
    rw [ho] at HO
    have HNO := Lib.hid (show lvOk xs = false by unfold lvOk; rw [ho]; rfl)
    clear ho
    go_enter Tryz.func71, Tryz.ntmps71
    go_wp2_with fail
    refine HO.out.mono ?_
    rintro e w1 ⟨rfl, rfl⟩
    go_wp2
    exact bodyPost_ret (v := .tuple #[.float .f32 0, .float .f32 0, .bool false]) (by simp [results, Tryz.results71, go_sem]) rfl (levPost_no HNO.out (Below.refl _ _))
  | true =>
    rw [ho] at HO
    have hlen := lineOk_len ho
    obtain ⟨ht, hmt⟩ := tip_run ho
    obtain ⟨hbk, hmb⟩ := black_run ho
    have HT := fun W => arith_ok ht W
    have HK := fun W => arith_ok hbk W
    rw [lpart_yes ho] at HP
    rw [show lpart xs 8 16 = part xs 8 16 from lpart_yes ho 8 16] at HBU
    have hm1 := part_mag (lineOk_mag ho) 0 8
    have hm2 := part_mag (lineOk_mag ho) 8 16
    have hl1 := part_len xs 0 8 (by omega)
    have hl2 := part_len xs 8 16 (by omega)
    have HS1 := fun V W hr => Lib.hid (specSum_any V (part xs 0 8) W hr hm1 (by omega) (by omega))
    have HS2 := fun V W hr => Lib.hid (specSum_any V (part xs 8 16) W hr hm2 (by omega) (by omega))
    have HLV := Lib.hid (show lvOk xs = !leb (blackOf xs) (tipOf xs) by unfold lvOk; rw [ho]; rfl)
    clear ho ht hmt hbk hmb hm1 hm2 hl1 hl2
    generalize sumF (part xs 0 8) = s1 at *
    generalize sumF (part xs 8 16) = s2 at *
    generalize part xs 0 8 = p1 at *
    generalize part xs 8 16 = p2 at *
    have HYES := Lib.hid (fun (w' : World) => levPost_yes (xs := xs) (w := w) (w' := w'))
    have HNO := Lib.hid (fun (w' : World) => levPost_no (xs := xs) (w := w) (w' := w'))
    generalize tipOf xs = tip at *
    generalize blackOf xs = blk at *
    cases hq : leb blk tip with
    | true =>
      have hq' : (FloatKind.f32.format.order blk tip == some .lt || FloatKind.f32.format.order blk tip == some .eq) = true := hq
      rw [hq] at HLV
      clear hq
      go_enter Tryz.func71, Tryz.ntmps71
      go_wp2_with fail
      refine HO.out.mono ?_
      rintro e w1 ⟨rfl, rfl⟩
      go_wp2_with fail
      refine HP.out.mono ?_
      rintro e w1 ⟨v1, rfl, hn1, hb1⟩
      have HN1 := Lib.hid hn1
      clear hn1
      go_wp2_with fail
      refine (HS1 _ _ HN1.out.row).out.mono ?_
      rintro e w2 ⟨rfl, rfl⟩
      go_wp2_with fail
      refine (HBU _ (HRW.out.below hb1)).out.mono ?_
      rintro e w2 ⟨v2, rfl, hn2, hb2⟩
      have HN2 := Lib.hid hn2
      have hb12 := below_trans hb1 hb2 hb1.size
      clear hn2
      go_wp2_with fail
      refine (HS2 _ _ HN2.out.row).out.mono ?_
      rintro e w3 ⟨rfl, rfl⟩
      go_wp2
      exact bodyPost_ret (v := .tuple #[.float .f32 0, .float .f32 0, .bool false]) (by simp [results, Tryz.results71, go_sem]) rfl (HNO.out _ HLV.out hb12)
    | false =>
      have hq' : (FloatKind.f32.format.order blk tip == some .lt || FloatKind.f32.format.order blk tip == some .eq) = false := hq
      rw [hq] at HLV
      clear hq
      go_enter Tryz.func71, Tryz.ntmps71
      go_wp2_with fail
      refine HO.out.mono ?_
      rintro e w1 ⟨rfl, rfl⟩
      go_wp2_with fail
      refine HP.out.mono ?_
      rintro e w1 ⟨v1, rfl, hn1, hb1⟩
      have HN1 := Lib.hid hn1
      clear hn1
      go_wp2_with fail
      refine (HS1 _ _ HN1.out.row).out.mono ?_
      rintro e w2 ⟨rfl, rfl⟩
      go_wp2_with fail
      refine (HBU _ (HRW.out.below hb1)).out.mono ?_
      rintro e w2 ⟨v2, rfl, hn2, hb2⟩
      have HN2 := Lib.hid hn2
      have hb12 := below_trans hb1 hb2 hb1.size
      clear hn2
      go_wp2_with fail
      refine (HS2 _ _ HN2.out.row).out.mono ?_
      rintro e w3 ⟨rfl, rfl⟩
      go_wp2
      exact bodyPost_ret (v := .tuple #[.float .f32 tip, .float .f32 blk, .bool true]) (by simp [results, Tryz.results71, go_sem]) rfl (HYES.out _ HLV.out hb12)
end Go.Proofs.YtobpnoiienpipaaGreat

/-
  What is proved: the walk of the program's Levels.
  Conditions: the line can be read.
-/
namespace Go.Proofs.YtobpnoiienpipaaGreat
set_option linter.unusedVariables false
open Go.RowKit
attribute [local go_sem] run_store_float run_store_complex unary_negf neg256

set_option maxHeartbeats 1000000 in
theorem mean_any (g o n cap c r : Nat) (xs : List Nat) (w : World) (h : FRow w (.slice (some ⟨g, o, none⟩) n cap) xs) (hn : xs.length = n) (hm : AllMag xs) (h0 : 1 < n) (hl : n ≤ 50)
    (hc : floatOfInt .f32 (n : Int) = c) (hq : floatBits .quo .f32 (sumF xs) c = some r) :
    Calls Tryz.prog 146 #[.slice (some ⟨g, o, none⟩) n cap] w fun e w' => e = .returned (.float .f32 r) ∧ w = w' := by
  have hcap : n ≤ cap := by rcases h with ⟨_, h1⟩ | ⟨_, _, _, e, h2, _⟩; (subst h1; simp at hn; omega); (cases e; omega)
  have hcell : ∀ k (hk : k < xs.length), w.cell? ⟨g, o + k, none⟩ = some (.float .f32 xs[k]) := by
    rcases h with ⟨_, h1⟩ | ⟨_, _, _, e, _, h3⟩
    · subst h1; simp
    · cases e; exact h3
  have HC := Lib.hid hcell
  have hc0 := hcell 0 (by omega)
  have hg0 : xs[0]'(by omega) = sumK xs 0 := by unfold sumK; rw [List.getD_eq_getElem?_getD, List.getElem?_eq_getElem (by omega)]; rfl
  rw [hg0, Nat.add_zero] at hc0
  have HM := Lib.hid hm
  have HN := Lib.hid hn
  have HQ := Lib.hid (fun W => arith_ok hq W)
  have hi1 : (1 : Int) ≤ (n : Int) := by omega
  have hi2 : (n : Int) ≤ (cap : Int) := by omega
  have hi3 : ¬ cap = 1 := by omega
  have hi4 : ¬ cap - 1 = 0 := by omega
  clear hcell h hm hg0 hn hq
  go_enter Tryz.func146, Tryz.ntmps146
  go_wp2
  go_loop [3, 12] (fun x i => ∃ k : Nat, k < n ∧ i = .int .i64 (k : Int) ∧ x = .float .f32 (sumK xs k)) (fun _ i => n - (intOf i).toNat)
  case atStart => exact ⟨0, by omega, rfl, rfl⟩
  case round =>
    obtain ⟨k, hk, rfl, rfl⟩ := hrel
    by_cases hlt : k + 1 < n
    · have hlx : k + 1 < xs.length := by have := HN.out; omega
      have hc1 := HC.out (k + 1) hlx
      have hrun := fun W => arith_ok (sumK_run HM.out hlx (by omega)) W
      have hg1 : xs[k + 1] = xs.getD (k + 1) 0 := by rw [List.getD_eq_getElem?_getD, List.getElem?_eq_getElem hlx]; rfl
      rw [hg1, show o + (k + 1) = o + 1 + k by omega] at hc1
      generalize xs.getD (k + 1) 0 = z at *
      generalize sumK xs k = s at *
      obtain ⟨r, hr⟩ : ∃ r, sumK xs (k + 1) = r := ⟨_, rfl⟩
      rw [hr] at hrun
      have HR := Lib.hid hr
      have hk1 : k < n - 1 := by omega
      have hk2 : (k : Int) < (n : Int) - 1 := by omega
      have hk3 : (k : Int) < ((n - 1 : Nat) : Int) := by omega
      clear hr hg1 hlx
      go_wp2
      go_round
      case rel => exact ⟨k + 1, hlt, by go_num, by rw [HR.out]⟩
      case measure => simp [intOf]; omega
    · have hkk : sumF xs = sumK xs k := by unfold sumF; rw [show xs.length - 1 = k by have := HN.out; omega]
      have hQ := HQ.out
      rw [hkk] at hQ
      have hk1 : ¬ k < n - 1 := by omega
      have hk2 : ¬ (k : Int) < (n : Int) - 1 := by omega
      have hk3 : ¬ (k : Int) < ((n - 1 : Nat) : Int) := by omega
      clear hkk HC
      go_wp2
      go_ret
      exact ⟨rfl, rfl⟩
theorem conv_8 : floatOfInt .f32 ((8 : Nat) : Int) = 1090519040 := by kernel_rfl
theorem conv_16 : floatOfInt .f32 ((16 : Nat) : Int) = 1098907648 := by kernel_rfl
set_option maxHeartbeats 2000000 in
theorem levels_any (v : Value) (xs : List Nat) (w : World) (h : FRow w v xs) (hl : xs.length ≤ 4000000) :
    Calls Tryz.prog 124 #[v] w fun e w' => LevPost xs w e w' := by
  have HO := Lib.hid (lineOk_any v xs w h hl)
  cases ho : lineOk xs with
  | false =>
    rw [ho] at HO
    have HNO := Lib.hid (show lvOk xs = false by unfold lvOk; rw [ho]; rfl)
    clear ho h
    go_enter Tryz.func124, Tryz.ntmps124
    go_wp2_with fail
    refine HO.out.mono ?_
    rintro e w1 ⟨rfl, rfl⟩
    go_wp2
    exact bodyPost_ret (v := .tuple #[.float .f32 0, .float .f32 0, .bool false]) (by simp [results, Tryz.results124, go_sem]) rfl (levPost_no HNO.out (Below.refl _ _))
  | true =>
    rw [ho] at HO
    have hlen := lineOk_len ho
    rcases h with ⟨_, h1⟩ | ⟨g, o, cap, rfl, hcap, hcell⟩
    · subst h1; simp at hlen
    · have hR : FRow w (.slice (some ⟨g, o, none⟩) xs.length cap) xs := .inr ⟨g, o, cap, rfl, hcap, hcell⟩
      have hm1 := part_mag (lineOk_mag ho) 0 8
      have hm2 := part_mag (lineOk_mag ho) 8 16
      have hl1 := part_len xs 0 8 (by omega)
      have hl2 := part_len xs 8 16 (by omega)
      have hR1 := FRow.part hR rfl 0 8 8 (by omega) (Nat.le_refl _) (by decide)
      have hR2 := FRow.part hR rfl 8 16 16 (by omega) (Nat.le_refl _) (by decide)
      have HM1 := Lib.hid (mean_any g (o + 0) 8 8 _ (tipOf xs) (part xs 0 8) w hR1 hl1 hm1 (by decide) (by decide) conv_8 (tip_run ho).1)
      have HM2 := Lib.hid (mean_any g (o + 8) 16 16 _ (blackOf xs) (part xs 8 16) w hR2 hl2 hm2 (by decide) (by decide) conv_16 (black_run ho).1)
      rw [Nat.add_zero] at HM1
      have HK1 := fun W => Lib.hid (pulse_any g o xs.length cap W (by omega) hcap hl)
      have HK2 := fun W => Lib.hid (burst_any g o xs.length cap W (by omega) hcap hl)
      have HLV := Lib.hid (show lvOk xs = !leb (blackOf xs) (tipOf xs) by unfold lvOk; rw [ho]; rfl)
      have HYES := Lib.hid (fun (w' : World) => levPost_yes (xs := xs) (w := w) (w' := w'))
      have HNO := Lib.hid (fun (w' : World) => levPost_no (xs := xs) (w := w) (w' := w'))
      clear hcell hR hR1 hR2 hm1 hm2 hl1 hl2 ho hlen
      generalize tipOf xs = tip at *
      generalize blackOf xs = blk at *
      cases hq : leb blk tip with
      | true =>
        have hq' : (FloatKind.f32.format.order blk tip == some .lt || FloatKind.f32.format.order blk tip == some .eq) = true := hq
        rw [hq] at HLV
        clear hq
        go_enter Tryz.func124, Tryz.ntmps124
        go_wp2_with fail
        refine HO.out.mono ?_
        rintro e w1 ⟨rfl, rfl⟩
        go_wp2_with fail
        refine (HK1 _).out.mono ?_
        rintro e w1 ⟨rfl, rfl⟩
        go_wp2_with fail
        refine HM1.out.mono ?_
        rintro e w1 ⟨rfl, rfl⟩
        go_wp2_with fail
        refine (HK2 _).out.mono ?_
        rintro e w1 ⟨rfl, rfl⟩
        go_wp2_with fail
        refine HM2.out.mono ?_
        rintro e w1 ⟨rfl, rfl⟩
        go_wp2
        exact bodyPost_ret (v := .tuple #[.float .f32 0, .float .f32 0, .bool false]) (by simp [results, Tryz.results124, go_sem]) rfl (HNO.out _ HLV.out (Below.refl _ _))
      | false =>
        have hq' : (FloatKind.f32.format.order blk tip == some .lt || FloatKind.f32.format.order blk tip == some .eq) = false := hq
        rw [hq] at HLV
        clear hq
        go_enter Tryz.func124, Tryz.ntmps124
        go_wp2_with fail
        refine HO.out.mono ?_
        rintro e w1 ⟨rfl, rfl⟩
        go_wp2_with fail
        refine (HK1 _).out.mono ?_
        rintro e w1 ⟨rfl, rfl⟩
        go_wp2_with fail
        refine HM1.out.mono ?_
        rintro e w1 ⟨rfl, rfl⟩
        go_wp2_with fail
        refine (HK2 _).out.mono ?_
        rintro e w1 ⟨rfl, rfl⟩
        go_wp2_with fail
        refine HM2.out.mono ?_
        rintro e w1 ⟨rfl, rfl⟩
        go_wp2
        exact bodyPost_ret (v := .tuple #[.float .f32 tip, .float .f32 blk, .bool true]) (by simp [results, Tryz.results124, go_sem]) rfl (HYES.out _ HLV.out (Below.refl _ _))
end Go.Proofs.YtobpnoiienpipaaGreat
