/-
  What is proved: the walks of Swing and HueGain, the program's and the model's.
  Conditions: the lists can be read, and have at most 4000000 numbers.
-/
import Derived.Test.YtobpnoiienpipaaGreatBurst
import Derived.Test.YtobpnoiienpipaaGreatPz06
import Derived.Test.YtobpnoiienpipaaGreatPz15
import Derived.Test.YtobpnoiienpipaaGreatPz10
import Derived.Test.YtobpnoiienpipaaGreatPz19
import Derived.Test.YtobpnoiienpipaaGreatPz20
import Derived.Deep.RegionWith
namespace Go.Proofs.YtobpnoiienpipaaGreat
set_option linter.unusedVariables false
open Go.RowKit
open Flt (Mag sumv subv mulv quov)
attribute [local go_sem] run_store_float run_store_complex unary_negf neg256

theorem csub_run {a b c d re im : Nat} (h1 : floatBits .sub .f32 a c = some re) (h2 : floatBits .sub .f32 b d = some im) (W : World) : (binOp .sub 26 (.complex .f32 a b) (.complex .f32 c d)).run Tryz.prog W = .ok (.complex .f32 re im) W :=
  run_complex_sum W .sub (.inr rfl) 26 .f32 a b c d re im (by simp [cSumBits, h1, h2])
/-- The gain of the hue of two colours. -/
def hueOf (x y : Nat) : Nat := quov (sumv x y) 3254779904
/-- What two lists tell of the gain of the hue. -/
def HueR (xs ys : List Nat) (u z : Nat) (ok : Bool) : Prop :=
  ∃ p q p' q' o1 o2, BurstR xs p q o1 ∧ BurstR ys p' q' o2 ∧ ok = (o1 && o2) ∧ (ok = true → u = hueOf p p' ∧ z = hueOf q q') ∧ (ok = false → u = 0 ∧ z = 0)
theorem hue_mag {x y : Nat} (hx : Mag 165 x) (hy : Mag 165 y) : floatBits .add .f32 x y = some (sumv x y) ∧ floatBits .quo .f32 (sumv x y) 3254779904 = some (hueOf x y) ∧ Mag 168 (hueOf x y) := by
  have h1 := hx.add hy (by decide)
  have h2 := h1.2.gain (by decide)
  exact ⟨h1.1, h2.1, h2.2⟩
theorem HueR.mag {xs ys : List Nat} {u z : Nat} {ok : Bool} (h : HueR xs ys u z ok) : Mag 168 u ∧ Mag 168 z := by
  obtain ⟨p, q, p', q', o1, o2, h1, h2, _, h4, h5⟩ := h
  cases ok with
  | false => obtain ⟨rfl, rfl⟩ := h5 rfl; exact ⟨zero_mag.mono (by decide), zero_mag.mono (by decide)⟩
  | true => obtain ⟨rfl, rfl⟩ := h4 rfl; exact ⟨(hue_mag h1.mag.1 h2.mag.1).2.2, (hue_mag h1.mag.2 h2.mag.2).2.2⟩
theorem HueR.same {xs ys : List Nat} {u z u' z' : Nat} {ok ok' : Bool} (h : HueR xs ys u z ok) (h' : HueR xs ys u' z' ok') : ok = ok' ∧ u = u' ∧ z = z' := by
  obtain ⟨p, q, r, s, o1, o2, h1, h2, h3, h4, h5⟩ := h
  obtain ⟨p', q', r', s', o1', o2', g1, g2, g3, g4, g5⟩ := h'
  obtain ⟨rfl, rfl, rfl⟩ := h1.same g1
  obtain ⟨rfl, rfl, rfl⟩ := h2.same g2
  have e := h3.trans g3.symm
  refine ⟨e, ?_⟩
  subst e
  cases ok with
  | false => obtain ⟨rfl, rfl⟩ := h5 rfl; obtain ⟨rfl, rfl⟩ := g5 rfl; exact ⟨rfl, rfl⟩
  | true => obtain ⟨rfl, rfl⟩ := h4 rfl; obtain ⟨rfl, rfl⟩ := g4 rfl; exact ⟨rfl, rfl⟩
def swingX (p q p' q' : Nat) : Nat := subv (mulv (subv q q') (sumv p p')) (mulv (subv p p') (sumv q q'))
structure SwingM (p q p' q' : Nat) : Prop where
  d1 : floatBits .sub .f32 p p' = some (subv p p')
  d2 : floatBits .sub .f32 q q' = some (subv q q')
  s1 : floatBits .add .f32 p p' = some (sumv p p')
  s2 : floatBits .add .f32 q q' = some (sumv q q')
  m1 : floatBits .mul .f32 (subv q q') (sumv p p') = some (mulv (subv q q') (sumv p p'))
  m2 : floatBits .mul .f32 (subv p p') (sumv q q') = some (mulv (subv p p') (sumv q q'))
  x : floatBits .sub .f32 (mulv (subv q q') (sumv p p')) (mulv (subv p p') (sumv q q')) = some (swingX p q p' q')
theorem swingM_of {p q p' q' : Nat} (hp : Mag 165 p) (hq : Mag 165 q) (hp' : Mag 165 p') (hq' : Mag 165 q') : SwingM p q p' q' := by
  have d1 := hp.sub hp' (by decide)
  have d2 := hq.sub hq' (by decide)
  have s1 := hp.add hp' (by decide)
  have s2 := hq.add hq' (by decide)
  have m1 := d2.2.mul s1.2 (by decide) (by decide)
  have m2 := d1.2.mul s2.2 (by decide) (by decide)
  have x := m1.2.sub m2.2 (by decide)
  exact ⟨d1.1, d2.1, s1.1, s2.1, m1.1, m2.1, x.1⟩
/-- What two lists tell of which one is odd. -/
def SwingR (xs ys : List Nat) (n : Int) : Prop :=
  ∃ p q p' q' o1 o2, BurstR xs p q o1 ∧ BurstR ys p' q' o2 ∧ n = if (o1 && o2) = true then swing (swingX p q p' q') else 0
theorem SwingR.same {xs ys : List Nat} {n m : Int} (h : SwingR xs ys n) (h' : SwingR xs ys m) : n = m := by
  obtain ⟨p, q, r, s, o1, o2, h1, h2, rfl⟩ := h
  obtain ⟨p', q', r', s', o1', o2', g1, g2, rfl⟩ := h'
  obtain ⟨rfl, rfl, rfl⟩ := h1.same g1
  obtain ⟨rfl, rfl, rfl⟩ := h2.same g2
  rfl
def HuePost (xs ys : List Nat) (w : World) (e : Ending) (w' : World) : Prop := ∃ u z ok, e = .returned (.tuple #[.complex .f32 u z, .bool ok]) ∧ HueR xs ys u z ok ∧ Below w.heap.size w w'
theorem HuePost.no {xs ys : List Nat} {w w' : World} {p q p' q' : Nat} {o1 o2 : Bool} (h1 : BurstR xs p q o1) (h2 : BurstR ys p' q' o2) (h : (o1 && o2) = false) (hb : Below w.heap.size w w') : HuePost xs ys w (.returned (.tuple #[.complex .f32 0 0, .bool false])) w' :=
  ⟨0, 0, false, rfl, ⟨p, q, p', q', o1, o2, h1, h2, h.symm, fun e => (by cases e), fun _ => ⟨rfl, rfl⟩⟩, hb⟩
theorem HuePost.yes {xs ys : List Nat} {w w' : World} {p q p' q' : Nat} (h1 : BurstR xs p q true) (h2 : BurstR ys p' q' true) (hb : Below w.heap.size w w') : HuePost xs ys w (.returned (.tuple #[.complex .f32 (hueOf p p') (hueOf q q'), .bool true])) w' :=
  ⟨_, _, true, rfl, ⟨p, q, p', q', true, true, h1, h2, rfl, fun _ => ⟨rfl, rfl⟩, fun e => by cases e⟩, hb⟩
def SwingPost (xs ys : List Nat) (w : World) (e : Ending) (w' : World) : Prop := ∃ n, e = .returned (.int .i64 n) ∧ SwingR xs ys n ∧ Below w.heap.size w w'
theorem SwingPost.no {xs ys : List Nat} {w w' : World} {p q p' q' : Nat} {o1 o2 : Bool} (h1 : BurstR xs p q o1) (h2 : BurstR ys p' q' o2) (h : (o1 && o2) = false) (hb : Below w.heap.size w w') : SwingPost xs ys w (.returned (.int .i64 0)) w' :=
  ⟨0, rfl, ⟨p, q, p', q', o1, o2, h1, h2, by rw [h]; rfl⟩, hb⟩
theorem SwingPost.yes {xs ys : List Nat} {w w' : World} {p q p' q' : Nat} {n : Int} (h1 : BurstR xs p q true) (h2 : BurstR ys p' q' true) (hn : swing (swingX p q p' q') = n) (hb : Below w.heap.size w w') : SwingPost xs ys w (.returned (.int .i64 n)) w' :=
  ⟨n, rfl, ⟨p, q, p', q', true, true, h1, h2, hn.symm⟩, hb⟩
/-- Which number a swing is. -/
theorem swing_lt {x : Nat} (h : (FloatKind.f32.format.order x 0 == some .lt) = true) : swing x = 1 := if_pos h
theorem swing_gt {x : Nat} (h0 : (FloatKind.f32.format.order x 0 == some .lt) = false) (h : (FloatKind.f32.format.order x 0 == some .gt) = true) : swing x = -1 := by
  have h0' : (Ieee.single.order x 0 == some .lt) = false := h0
  have h' : (Ieee.single.order x 0 == some .gt) = true := h
  unfold swing; rw [h0', h']; rfl
theorem swing_no {x : Nat} (h0 : (FloatKind.f32.format.order x 0 == some .lt) = false) (h : (FloatKind.f32.format.order x 0 == some .gt) = false) : swing x = 0 := by
  have h0' : (Ieee.single.order x 0 == some .lt) = false := h0
  have h' : (Ieee.single.order x 0 == some .gt) = false := h
  unfold swing; rw [h0', h']; rfl

theorem results_three {fn : Func} {t u v : Tmp} (h : fn.results = #[.tmp t, .tmp u, .tmp v]) (tmps : Array Value) (P : Program) (w : World) :
    (results fn tmps).run P w = .ok (.tuple #[tmps.getD t undef, tmps.getD u undef, tmps.getD v undef]) w := by
  simp [results, h]
set_option maxHeartbeats 2000000 in
theorem burstColours_any (v v' : Value) (xs ys : List Nat) (w : World) (h : FRow w v xs) (h' : FRow w v' ys) (hl : xs.length ≤ 4000000) (hl' : ys.length ≤ 4000000) :
    Calls Tryz.prog 153 #[v, v'] w fun e w' => ∃ p q p' q' o1 o2, e = .returned (.tuple #[.complex .f32 p q, .complex .f32 p' q', .bool (o1 && o2)]) ∧ BurstR xs p q o1 ∧ BurstR ys p' q' o2 ∧ Below w.heap.size w w' := by
  have HA := Lib.hid (burstColour_any v xs w h hl)
  have HB := fun W hr => Lib.hid (burstColour_any v' ys W hr hl')
  have HR := Lib.hid h'
  clear h h'
  go_enter Tryz.func153, Tryz.ntmps153
  go_wp2_with fail
  refine HA.out.mono ?_
  rintro e w1 ⟨p, q, o1, rfl, h1, hb1⟩
  have H1 := Lib.hid h1
  clear h1
  go_wp2_with fail
  refine (HB _ (HR.out.below hb1)).out.mono ?_
  rintro e w2 ⟨p', q', o2, rfl, h2, hb2⟩
  have H2 := Lib.hid h2
  clear h2
  have tb := below_trans hb1 hb2 hb1.size
  cases o1 with
  | false =>
    go_wp2
    refine bodyPost_ret (results_three rfl _ _ _) rfl ?_
    exact ⟨p, q, p', q', false, o2, rfl, H1.out, H2.out, tb⟩
  | true =>
    go_wp2
    refine bodyPost_ret (results_three rfl _ _ _) rfl ?_
    exact ⟨p, q, p', q', true, o2, rfl, H1.out, H2.out, tb⟩
set_option maxHeartbeats 2000000 in
theorem hueGain_any (v v' : Value) (xs ys : List Nat) (w : World) (h : FRow w v xs) (h' : FRow w v' ys) (hl : xs.length ≤ 4000000) (hl' : ys.length ≤ 4000000) :
    Calls Tryz.prog 131 #[v, v'] w fun e w' => HuePost xs ys w e w' := by
  have HA := Lib.hid (burstColours_any v v' xs ys w h h' hl hl')
  clear h h'
  go_enter Tryz.func131, Tryz.ntmps131
  go_wp2_with fail
  refine HA.out.mono ?_
  rintro e w1 ⟨p, q, p', q', o1, o2, rfl, h1, h2, hb1⟩
  cases ho : (o1 && o2) with
  | false =>
    have HN := Lib.hid (HuePost.no h1 h2 ho hb1)
    clear h1 h2 ho
    go_wp2
    go_ret2
    exact HN.out
  | true =>
    obtain ⟨rfl, rfl⟩ : o1 = true ∧ o2 = true := by simpa using ho
    have m1 := hue_mag h1.mag.1 h2.mag.1
    have m2 := hue_mag h1.mag.2 h2.mag.2
    have a1 := cadd_run m1.1 m2.1
    have HD := Lib.hid (fun W => divided_any _ _ _ _ _ W m1.2.1 m2.2.1)
    have HY := Lib.hid (HuePost.yes h1 h2 hb1)
    clear h1 h2 ho m1 m2
    go_wp2_with fail
    refine (HD.out _).mono ?_
    rintro e w2 ⟨rfl, rfl⟩
    go_wp2
    go_ret2
    exact HY.out
set_option maxHeartbeats 2000000 in
theorem swing_any (v v' : Value) (xs ys : List Nat) (w : World) (h : FRow w v xs) (h' : FRow w v' ys) (hl : xs.length ≤ 4000000) (hl' : ys.length ≤ 4000000) :
    Calls Tryz.prog 149 #[v, v'] w fun e w' => SwingPost xs ys w e w' := by
  have HA := Lib.hid (burstColours_any v v' xs ys w h h' hl hl')
  clear h h'
  go_enter Tryz.func149, Tryz.ntmps149
  go_wp2_with fail
  refine HA.out.mono ?_
  rintro e w1 ⟨p, q, p', q', o1, o2, rfl, h1, h2, hb1⟩
  cases ho : (o1 && o2) with
  | false =>
    have HN := Lib.hid (SwingPost.no h1 h2 ho hb1)
    clear h1 h2 ho
    go_wp2
    go_ret
    exact HN.out
  | true =>
    obtain ⟨rfl, rfl⟩ : o1 = true ∧ o2 = true := by simpa using ho
    have M := swingM_of h1.mag.1 h1.mag.2 h2.mag.1 h2.mag.2
    have a1 := cadd_run M.s1 M.s2
    have a2 := csub_run M.d1 M.d2
    have a3 := arith_run M.m1
    have a4 := arith_run M.m2
    have a5 := arith_run M.x
    have HY := Lib.hid (fun n hn => SwingPost.yes (n := n) h1 h2 hn hb1)
    clear h1 h2 ho M
    generalize swingX p q p' q' = X at *
    cases k1 : (FloatKind.f32.format.order X 0 == some .lt) with
    | true =>
      have HX := Lib.hid (swing_lt k1)
      go_wp2
      go_ret
      exact HY.out _ HX.out
    | false =>
      cases k2 : (FloatKind.f32.format.order X 0 == some .gt) with
      | true =>
        have HX := Lib.hid (swing_gt k1 k2)
        go_wp2
        go_ret
        exact HY.out _ HX.out
      | false =>
        have HX := Lib.hid (swing_no k1 k2)
        go_wp2
        go_ret
        exact HY.out _ HX.out
set_option maxHeartbeats 2000000 in
theorem specHue_any (v v' : Value) (xs ys : List Nat) (w : World) (h : FRow w v xs) (h' : FRow w v' ys) (hl : xs.length ≤ 4000000) (hl' : ys.length ≤ 4000000) :
    Calls Tryz.prog 76 #[v, v'] w fun e w' => HuePost xs ys w e w' := by
  have HA := Lib.hid (specColour_any v xs w h hl)
  have HB := fun W hr => Lib.hid (specColour_any v' ys W hr hl')
  have HR := Lib.hid h'
  clear h h'
  go_enter Tryz.func76, Tryz.ntmps76
  go_wp2_with fail
  refine HA.out.mono ?_
  rintro e w1 ⟨p, q, o1, rfl, h1, hb1⟩
  go_wp2_with fail
  refine (HB _ (HR.out.below hb1)).out.mono ?_
  rintro e w2 ⟨p', q', o2, rfl, h2, hb2⟩
  have tb := below_trans hb1 hb2 hb1.size
  cases o1 with
  | false =>
    have HN := Lib.hid (HuePost.no h1 h2 rfl tb)
    clear h1 h2
    go_wp2
    go_ret2
    exact HN.out
  | true =>
    cases o2 with
    | false =>
      have HN := Lib.hid (HuePost.no h1 h2 rfl tb)
      clear h1 h2
      go_wp2
      go_ret2
      exact HN.out
    | true =>
      have m1 := hue_mag h1.mag.1 h2.mag.1
      have m2 := hue_mag h1.mag.2 h2.mag.2
      have a1 := arith_run m1.1
      have a2 := arith_run m2.1
      have a3 := arith_run m1.2.1
      have a4 := arith_run m2.2.1
      have HY := Lib.hid (HuePost.yes h1 h2 tb)
      clear h1 h2 m1 m2
      go_wp2
      go_ret2
      exact HY.out
set_option maxHeartbeats 2000000 in
theorem specSwing_any (v v' : Value) (xs ys : List Nat) (w : World) (h : FRow w v xs) (h' : FRow w v' ys) (hl : xs.length ≤ 4000000) (hl' : ys.length ≤ 4000000) :
    Calls Tryz.prog 105 #[v, v'] w fun e w' => SwingPost xs ys w e w' := by
  have HA := Lib.hid (specColour_any v xs w h hl)
  have HB := fun W hr => Lib.hid (specColour_any v' ys W hr hl')
  have HR := Lib.hid h'
  clear h h'
  go_enter Tryz.func105, Tryz.ntmps105
  go_wp2_with fail
  refine HA.out.mono ?_
  rintro e w1 ⟨p, q, o1, rfl, h1, hb1⟩
  go_wp2_with fail
  refine (HB _ (HR.out.below hb1)).out.mono ?_
  rintro e w2 ⟨p', q', o2, rfl, h2, hb2⟩
  have tb := below_trans hb1 hb2 hb1.size
  cases o1 with
  | false =>
    have HN := Lib.hid (SwingPost.no h1 h2 rfl tb)
    clear h1 h2
    go_wp2
    go_ret
    exact HN.out
  | true =>
    cases o2 with
    | false =>
      have HN := Lib.hid (SwingPost.no h1 h2 rfl tb)
      clear h1 h2
      go_wp2
      go_ret
      exact HN.out
    | true =>
      have M := swingM_of h1.mag.1 h1.mag.2 h2.mag.1 h2.mag.2
      have a1 := arith_run M.d1
      have a2 := arith_run M.d2
      have b1 := arith_run M.s1
      have b2 := arith_run M.s2
      have a3 := arith_run M.m1
      have a4 := arith_run M.m2
      have a5 := arith_run M.x
      have HY := Lib.hid (fun n hn => SwingPost.yes (n := n) h1 h2 hn tb)
      clear h1 h2 M
      generalize swingX p q p' q' = X at *
      cases k1 : (FloatKind.f32.format.order X 0 == some .lt) with
      | true =>
        have HX := Lib.hid (swing_lt k1)
        go_wp2
        go_ret
        exact HY.out _ HX.out
      | false =>
        cases k2 : (FloatKind.f32.format.order X 0 == some .gt) with
        | true =>
          have HX := Lib.hid (swing_gt k1 k2)
          go_wp2
          go_ret
          exact HY.out _ HX.out
        | false =>
          have HX := Lib.hid (swing_no k1 k2)
          go_wp2
          go_ret
          exact HY.out _ HX.out
end Go.Proofs.YtobpnoiienpipaaGreat

/-
  What is proved: writing in place into lists that a call owns; worlds that differ in some blocks alone.
  Conditions: those that each fact names.
-/
namespace Go.Proofs.YtobpnoiienpipaaGreat
set_option linter.unusedVariables false
open Go.RowKit

/-- The blocks that are there stay as they are, but for those in S. -/
structure Turn (w w' : World) (S : Nat → Prop) : Prop where
  os : w'.os = w.os
  tape : w'.tape = w.tape
  output : w'.output = w.output
  size : w.heap.size ≤ w'.heap.size
  block : ∀ k, k < w.heap.size → ¬ S k → w'.heap[k]? = w.heap[k]?
theorem Turn.refl (w : World) (S : Nat → Prop) : Turn w w S := ⟨rfl, rfl, rfl, Nat.le_refl _, fun _ _ _ => rfl⟩
theorem Turn.trans {a b c : World} {S : Nat → Prop} (h : Turn a b S) (k : Turn b c S) : Turn a c S :=
  ⟨k.os.trans h.os, k.tape.trans h.tape, k.output.trans h.output, Nat.le_trans h.size k.size, fun i hi hs => (k.block i (Nat.lt_of_lt_of_le hi h.size) hs).trans (h.block i hi hs)⟩
theorem Turn.mono {w w' : World} {S T : Nat → Prop} (h : Turn w w' S) (hst : ∀ k, k < w.heap.size → S k → T k) : Turn w w' T :=
  ⟨h.os, h.tape, h.output, h.size, fun k hk ht => h.block k hk fun hs => ht (hst k hk hs)⟩
theorem Turn.of {w w' : World} {v : Value} (h : w.grownBy w' v.ownBlock) : Turn w w' (fun k => v.ownBlock = some k) :=
  ⟨h.os, h.tape, h.output, h.size, fun k hk hs => h.block k hk fun e => hs e.symm⟩
theorem Turn.below {w w1 w2 : World} {B : Nat} {S : Nat → Prop} (hb : Below B w w1) (hB : B ≤ w1.heap.size) (h : Turn w1 w2 S) (hS : ∀ k, S k → B ≤ k) : Below B w w2 :=
  hb.trans ⟨h.os, h.tape, h.output, h.size, fun k hk => h.block k (Nat.lt_of_lt_of_le hk hB) fun hs => by have := hS k hs; omega⟩
theorem Turn.drewN (w : World) (n : Nat) (S : Nat → Prop) : Turn w (w.drewN n) S := by
  have := grown_of (belowDN (Below.refl w.heap.size w) n)
  exact ⟨this.os, this.tape, this.output, this.size, fun k hk _ => this.block k hk (by simp)⟩
/-- The blocks of a slice. -/
def Blk (v : Value) (k : Nat) : Prop := v.ownBlock = some k
theorem FNew.turn {w w' : World} {base : Nat} {v : Value} {xs : List Nat} {S : Nat → Prop} (h : FNew w base v xs) (ht : Turn w w' S) (hS : ∀ k, Blk v k → ¬ S k) : FNew w' base v xs := by
  have hlt := h.lt
  rcases h with h | ⟨g, cap, rfl, hb, hc, hm⟩
  · exact .inl h
  · exact .inr ⟨g, cap, rfl, hb, hc, hm.kept (ht.block g (hlt g rfl).2 (hS g rfl))⟩
section
variable {α : Type} {L : Lay α}
theorem Lay.Own.turn {w w' : World} {base : Nat} {v : Value} {xs : List α} {S : Nat → Prop} (h : L.Own w base v xs) (ht : Turn w w' S) (hS : ∀ k, Blk v k → ¬ S k) : L.Own w' base v xs := by
  have hlt := h.lt
  obtain ⟨h1, h2 | ⟨g, cap, cur, rfl, hb, hg, h3⟩⟩ := h
  · exact ⟨h1, .inl h2⟩
  · exact ⟨h1, .inr ⟨g, cap, cur, rfl, hb, (ht.block g (hlt g rfl).2 (hS g rfl)).trans hg, h3⟩⟩
theorem Lay.Ok.cells_set (hL : L.Ok) : ∀ (xs : List α) (i j : Nat) (u : Value) (z : α) (hi : i < xs.length), j < L.size → L.enc z = (L.enc xs[i]).set j u → L.cells (xs.set i z) = (L.cells xs).set (i * L.size + j) u
  | x :: xs, 0, j, u, z, _, hj, e => by
    show L.enc z ++ L.cells xs = (L.enc x ++ L.cells xs).set (0 * L.size + j) u
    rw [Nat.zero_mul, Nat.zero_add, List.set_append_left _ _ (by rw [hL.len]; exact hj), e]
    rfl
  | x :: xs, i + 1, j, u, z, hi, hj, e => by
    show L.enc x ++ L.cells (xs.set i z) = (L.enc x ++ L.cells xs).set ((i + 1) * L.size + j) u
    rw [List.set_append_right _ _ (by rw [hL.len, Nat.succ_mul]; omega), hL.len, show (i + 1) * L.size + j - L.size = i * L.size + j by rw [Nat.succ_mul]; omega]
    rw [Lay.Ok.cells_set hL xs i j u z (by simpa using hi) hj e]
/-- One cell of an owned list is written. -/
theorem Lay.Own.put (hL : L.Ok) {w : World} {base g n cap i j p : Nat} {xs : List α} {u : Value} {z : α} (h : L.Own w base (.slice (some ⟨g, 0, none⟩) n cap) xs) (hi : i < xs.length) (hj : j < L.size) (hp : p = i * L.size + j) (e : L.enc z = (L.enc xs[i]).set j u) : L.Own (w.setCell ⟨g, p, none⟩ u) base (.slice (some ⟨g, 0, none⟩) n cap) (xs.set i z) := by
  subst hp
  obtain ⟨hl, hk⟩ := h
  rcases hk with ⟨h1, _⟩ | ⟨g', cap', cur, h1, hb, hg, hc, hm, hs, ht⟩
  · cases h1
  · injection h1 with e1 e2 e3
    injection e1 with e1
    injection e1 with e1
    subst e1 e2 e3
    refine ⟨by rw [List.length_set, hL.cells_len, List.length_set], .inr ⟨g, cap, cur.setIfInBounds (i * L.size + j) u, by rw [List.length_set], hb, heap_put hg, by rw [List.length_set]; exact hc, hm, by simpa using hs, ?_⟩⟩
    rw [List.length_set, Array.toList_setIfInBounds, List.take_set, ht, hL.cells_set xs i j u z hi hj e]
theorem Lay.Own.at (hL : L.Ok) {w : World} {base g n cap i j p : Nat} {xs : List α} (h : L.Own w base (.slice (some ⟨g, 0, none⟩) n cap) xs) (hi : i < xs.length) (hj : j < L.size) (hp : p = i * L.size + j) : (∃ x, w.cell? ⟨g, p, none⟩ = some x) ∧ w.frozen? ⟨g, p, none⟩ = false := by
  subst hp
  have hlen := hL.cells_len xs
  have hlt : i * L.size + j < xs.length * L.size := by
    have := Nat.mul_le_mul_right L.size (show i + 1 ≤ xs.length from hi)
    rw [Nat.succ_mul] at this
    omega
  obtain ⟨_, ⟨h1, _⟩ | ⟨g', cap', cur, h1, hb, hg, hc, hm, hs, ht⟩⟩ := h
  · cases h1
  · injection h1 with e1 e2 e3
    injection e1 with e1
    injection e1 with e1
    subst e1 e3
    have h2 : i * L.size + j < cur.size := by rw [hs]; exact Nat.lt_of_lt_of_le hlt (Nat.mul_le_mul_right _ hc)
    exact ⟨⟨cur[i * L.size + j], by simp [World.cell?, hg, Array.getElem?_eq_getElem h2]⟩, by simp [World.frozen?, hg]⟩
theorem set_take_drop {ms xs : List α} {k : Nat} {z : α} (hm : k < ms.length) (hx : k < xs.length) (hz : ms[k] = z) : (ms.take k ++ xs.drop k).set k z = ms.take (k + 1) ++ xs.drop (k + 1) := by
  rw [List.set_append_right _ _ (by rw [List.length_take]; omega), List.length_take, Nat.min_eq_left (by omega), Nat.sub_self, List.take_succ_eq_append_getElem hm, List.append_assoc, hz]
  conv => lhs; rw [List.drop_eq_getElem_cons hx]
  rfl
theorem take_drop_len {ms xs : List α} {k : Nat} (hm : ms.length = xs.length) (hk : k ≤ xs.length) : (ms.take k ++ xs.drop k).length = xs.length := by
  rw [List.length_append, List.length_take, List.length_drop]; omega
theorem take_drop_at {ms xs : List α} {k : Nat} (hm : ms.length = xs.length) (hk : k < xs.length) (h : k < (ms.take k ++ xs.drop k).length) : (ms.take k ++ xs.drop k)[k] = xs[k] := by
  rw [List.getElem_append_right (by rw [List.length_take]; omega)]
  simp [List.length_take, hm, Nat.min_eq_left (Nat.le_of_lt hk)]
end
end Go.Proofs.YtobpnoiienpipaaGreat

/-
  What is proved: the plain rows that the model draws may be written by who gets them.
  Conditions: the bytes can be read.
-/
namespace Go.Proofs.YtobpnoiienpipaaGreat
set_option linter.unusedVariables false
open Go.RowKit
attribute [local go_sem] run_store_float run_store_complex unary_negf neg256

/-- Cells, as lists of elements. -/
def LC : Lay C3 := ⟨40, 61, 2, 12, fun c => [.float .f32 c.1, .complex .f32 c.2.1 c.2.2]⟩
theorem LC_ok : LC.Ok := by
  refine ⟨fun _ => rfl, fun x u hu => ?_, by decide, Tryz.underlying40, ?_, by decide⟩
  · rcases List.mem_cons.1 hu with rfl | hu
    · rfl
    · obtain rfl := List.mem_singleton.1 hu; rfl
  · obtain ⟨i, h1, h2, h3, h4⟩ := info_parts info_cell
    exact ⟨i, _, h1, h2, h3, h4, rfl⟩
theorem at_yC {w : World} {base g n cap k : Nat} {cs : List C3} (h : OwnC w base (.slice (some ⟨g, 0, none⟩) n cap) cs) (hk : k < cs.length) : w.cell? ⟨g, k * 2, none⟩ = some (.float .f32 cs[k].1) ∧ w.frozen? ⟨g, k * 2, none⟩ = false := by
  refine ⟨?_, (Lay.Own.at LC_ok (L := LC) h hk (show 0 < LC.size by decide) (show k * 2 = k * LC.size + 0 from rfl)).2⟩
  rcases h.row with ⟨h1, _⟩ | ⟨g', o', cap', h1, _, hc⟩
  · cases h1
  · injection h1 with e1 e2 e3
    injection e1 with e1
    injection e1 with e1 e4
    subst e1 e4
    have := (hc k hk).1
    rwa [Nat.zero_add] at this
theorem at_cC {w : World} {base g n cap k : Nat} {cs : List C3} (h : OwnC w base (.slice (some ⟨g, 0, none⟩) n cap) cs) (hk : k < cs.length) : w.cell? ⟨g, k * 2 + 1, none⟩ = some (.complex .f32 cs[k].2.1 cs[k].2.2) ∧ w.frozen? ⟨g, k * 2 + 1, none⟩ = false := by
  refine ⟨?_, (Lay.Own.at LC_ok (L := LC) h hk (show 1 < LC.size by decide) (show k * 2 + 1 = k * LC.size + 1 from rfl)).2⟩
  rcases h.row with ⟨h1, _⟩ | ⟨g', o', cap', h1, _, hc⟩
  · cases h1
  · injection h1 with e1 e2 e3
    injection e1 with e1
    injection e1 with e1 e4
    subst e1 e4
    have := (hc k hk).2
    rwa [Nat.zero_add] at this
def PlainDrawO (w : World) (e : Ending) (w' : World) : Prop := ∃ g cap cs, (1 ≤ cs.length ∧ cs.length ≤ 6) ∧ PlainR cs ∧ e = .returned (.slice (some ⟨g, 0, none⟩) cs.length cap) ∧ OwnC w' w.heap.size (.slice (some ⟨g, 0, none⟩) cs.length cap) cs ∧ Below w.heap.size w w'
theorem PlainDrawO.mk {w w' : World} {g cap : Nat} {cs : List C3} (hl : 1 ≤ cs.length ∧ cs.length ≤ 6) (hp : PlainR cs) (hr : OwnC w' w.heap.size (.slice (some ⟨g, 0, none⟩) cs.length cap) cs) (hb : Below w.heap.size w w') : PlainDrawO w (.returned (.slice (some ⟨g, 0, none⟩) cs.length cap)) w' := ⟨g, cap, cs, hl, hp, rfl, hr, hb⟩
end Go.Proofs.YtobpnoiienpipaaGreat

/-
  What is proved: the exact laws' copying, comparing and marking of lists of ints and of runs.
  Conditions: those that each fact names.
-/
namespace Go.Proofs.YtobpnoiienpipaaGreat
set_option linter.unusedVariables false
open Go.RowKit
attribute [local go_sem] run_store_float run_store_complex unary_negf neg256

end Go.Proofs.YtobpnoiienpipaaGreat

/-
  What is proved: the exact laws' comparing and marking of lists of lists of single floats.
  Conditions: those that each fact names.
-/
namespace Go.Proofs.YtobpnoiienpipaaGreat
set_option linter.unusedVariables false
open Go.RowKit
attribute [local go_sem] run_store_float run_store_complex unary_negf neg256

/-- The blocks of a list of lists. -/
def GBlk (v : Value) (ss : List SV) (k : Nat) : Prop := v.ownBlock = some k ∨ ∃ i, ∃ h : i < ss.length, ss[i].v.ownBlock = some k
theorem Grid.lt {w : World} {base : Nat} {v : Value} {rows : List (List Nat)} {ss : List SV} (h : Grid w base v rows ss) : ∀ k, GBlk v ss k → base ≤ k ∧ k < w.heap.size := by
  rintro k (hk | ⟨i, hi, hk⟩)
  · exact h.own.lt k hk
  · exact (h.lines.row i hi (by rw [← h.lines.len]; exact hi)).lt k hk
theorem Grid.below {w w' : World} {base : Nat} {v : Value} {rows : List (List Nat)} {ss : List SV} (h : Grid w base v rows ss) (hb : Below w.heap.size w w') : Grid w' base v rows ss :=
  ⟨h.own.below hb, h.lines.kept (grown_of hb) (fun _ _ _ _ => by simp)⟩
theorem Grid.turn {w w' : World} {base : Nat} {v : Value} {rows : List (List Nat)} {ss : List SV} {S : Nat → Prop} (h : Grid w base v rows ss) (ht : Turn w w' S) (hS : ∀ k, GBlk v ss k → ¬ S k) : Grid w' base v rows ss :=
  ⟨h.own.turn ht (fun k hk => hS k (.inl hk)), h.lines.len, fun i h1 h2 => (h.lines.row i h1 h2).turn ht (fun k hk => hS k (.inr ⟨i, h1, hk⟩)), h.lines.apart, h.lines.out⟩
/-- One line is written. -/
theorem Grid.put {w w' : World} {base k : Nat} {v : Value} {rows : List (List Nat)} {ss : List SV} {ys : List Nat} (h : Grid w base v rows ss) (hk : k < ss.length) (hg : w.grownBy w' ss[k].v.ownBlock) (hn : FNew w' base ss[k].v ys) : Grid w' base v (rows.set k ys) ss := by
  refine ⟨h.own.kept hg ?_, by rw [List.length_set]; exact h.lines.len, fun i h1 h2 => ?_, h.lines.apart, h.lines.out⟩
  · cases e : v.ownBlock with
    | none => exact .inl rfl
    | some b => exact .inr fun e' => h.lines.out k hk b e'.symm e
  · by_cases e : i = k
    · subst e
      rw [List.getElem_set_self]
      exact hn
    · rw [List.getElem_set_ne (by omega)]
      exact (h.lines.row i h1 (by rw [← h.lines.len]; exact h1)).far hg (fun j hj e' => h.lines.apart k i hk h1 (fun e2 => e e2.symm) j e' hj)
end Go.Proofs.YtobpnoiienpipaaGreat
