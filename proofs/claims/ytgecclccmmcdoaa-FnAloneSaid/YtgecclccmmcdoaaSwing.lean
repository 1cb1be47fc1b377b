/-
  What is proved: the walks of Swing and HueGain, the program's and the model's.
  Conditions: the lists can be read, and have at most 4000000 numbers.
-/
import Derived.Test.YtgecclccmmcdoaaBurst
import Derived.Test.YtgecclccmmcdoaaPkCell
namespace Go.Proofs.Ytgecclccmmcdoaa
set_option linter.unusedVariables false
open Go.RowKit
open Flt (Mag sumv subv mulv quov)
attribute [local go_sem] run_store_float run_store_complex unary_negf neg256

theorem csub_run {a b c d re im : Nat} (h1 : floatBits .sub .f32 a c = some re) (h2 : floatBits .sub .f32 b d = some im) (W : World) : (binOp .sub 27 (.complex .f32 a b) (.complex .f32 c d)).run Try.prog W = .ok (.complex .f32 re im) W :=
  run_complex_sum W .sub (.inr rfl) 27 .f32 a b c d re im (by simp [cSumBits, h1, h2])
/-- The gain of the hue of two colours. -/
def hueOf (x y : Nat) : Nat := quov (sumv x y) 3254779904
/-- What two lists tell of the gain of the hue. -/
def HueR (xs ys : List Nat) (u z : Nat) (ok : Bool) : Prop :=
  ∃ p q p' q' o1 o2, BurstR xs p q o1 ∧ BurstR ys p' q' o2 ∧ ok = (o1 && o2) ∧ (ok = true → u = hueOf p p' ∧ z = hueOf q q') ∧ (ok = false → u = 0 ∧ z = 0)
theorem hue_mag {x y : Nat} (hx : Mag 165 x) (hy : Mag 165 y) : floatBits .add .f32 x y = some (sumv x y) ∧ floatBits .quo .f32 (sumv x y) 3254779904 = some (hueOf x y) ∧ Mag 168 (hueOf x y) := by
  have h1 := hx.add hy (by decide)
  have h2 := h1.2.gain (by decide)
  exact ⟨h1.1, h2.1, h2.2⟩
theorem HueR.mag {xs ys : List Nat} {u z : Nat} {ok : Bool} (h : HueR xs ys u z ok) : Mag 168 u ∧ Mag 168 z := by
  obtain ⟨p, q, p', q', o1, o2, h1, h2, _, h4, h5⟩ := h
  cases ok with
  | false => obtain ⟨rfl, rfl⟩ := h5 rfl; exact ⟨zero_mag.mono (by decide), zero_mag.mono (by decide)⟩
  | true => obtain ⟨rfl, rfl⟩ := h4 rfl; exact ⟨(hue_mag h1.mag.1 h2.mag.1).2.2, (hue_mag h1.mag.2 h2.mag.2).2.2⟩
theorem HueR.same {xs ys : List Nat} {u z u' z' : Nat} {ok ok' : Bool} (h : HueR xs ys u z ok) (h' : HueR xs ys u' z' ok') : ok = ok' ∧ u = u' ∧ z = z' := by
  obtain ⟨p, q, r, s, o1, o2, h1, h2, h3, h4, h5⟩ := h
  obtain ⟨p', q', r', s', o1', o2', g1, g2, g3, g4, g5⟩ := h'
  obtain ⟨rfl, rfl, rfl⟩ := h1.same g1
  obtain ⟨rfl, rfl, rfl⟩ := h2.same g2
  have e := h3.trans g3.symm
  refine ⟨e, ?_⟩
  subst e
  cases ok with
  | false => obtain ⟨rfl, rfl⟩ := h5 rfl; obtain ⟨rfl, rfl⟩ := g5 rfl; exact ⟨rfl, rfl⟩
  | true => obtain ⟨rfl, rfl⟩ := h4 rfl; obtain ⟨rfl, rfl⟩ := g4 rfl; exact ⟨rfl, rfl⟩
def swingX (p q p' q' : Nat) : Nat := subv (mulv (subv q q') (sumv p p')) (mulv (subv p p') (sumv q q'))
structure SwingM (p q p' q' : Nat) : Prop where
  d1 : floatBits .sub .f32 p p' = some (subv p p')
  d2 : floatBits .sub .f32 q q' = some (subv q q')
  s1 : floatBits .add .f32 p p' = some (sumv p p')
  s2 : floatBits .add .f32 q q' = some (sumv q q')
  m1 : floatBits .mul .f32 (subv q q') (sumv p p') = some (mulv (subv q q') (sumv p p'))
  m2 : floatBits .mul .f32 (subv p p') (sumv q q') = some (mulv (subv p p') (sumv q q'))
  x : floatBits .sub .f32 (mulv (subv q q') (sumv p p')) (mulv (subv p p') (sumv q q')) = some (swingX p q p' q')
theorem swingM_of {p q p' q' : Nat} (hp : Mag 165 p) (hq : Mag 165 q) (hp' : Mag 165 p') (hq' : Mag 165 q') : SwingM p q p' q' := by
  have d1 := hp.sub hp' (by decide)
  have d2 := hq.sub hq' (by decide)
  have s1 := hp.add hp' (by decide)
  have s2 := hq.add hq' (by decide)
  have m1 := d2.2.mul s1.2 (by decide) (by decide)
  have m2 := d1.2.mul s2.2 (by decide) (by decide)
  have x := m1.2.sub m2.2 (by decide)
  exact ⟨d1.1, d2.1, s1.1, s2.1, m1.1, m2.1, x.1⟩
theorem SwingM.swx {p q p' q' : Nat} (h : SwingM p q p' q') : SwX p q p' q' (swingX p q p' q') :=
  ⟨_, _, _, _, _, _, .inl h.d1, .inl h.d2, .inl h.s1, .inl h.s2, .inl h.m1, .inl h.m2, .inl h.x⟩
/-- What two lists tell of which one is odd. -/
def SwingR (xs ys : List Nat) (n : Int) : Prop :=
  ∃ p q p' q' o1 o2, BurstR xs p q o1 ∧ BurstR ys p' q' o2 ∧ n = if (o1 && o2) = true then swing (swingX p q p' q') else 0
theorem SwingR.same {xs ys : List Nat} {n m : Int} (h : SwingR xs ys n) (h' : SwingR xs ys m) : n = m := by
  obtain ⟨p, q, r, s, o1, o2, h1, h2, rfl⟩ := h
  obtain ⟨p', q', r', s', o1', o2', g1, g2, rfl⟩ := h'
  obtain ⟨rfl, rfl, rfl⟩ := h1.same g1
  obtain ⟨rfl, rfl, rfl⟩ := h2.same g2
  rfl
theorem SwingR.turned {xs ys : List Nat} {n m : Int} (h : SwingR xs ys n) (h' : SwingR ys xs m) : n = -m := by
  obtain ⟨p, q, r, s, o1, o2, h1, h2, rfl⟩ := h
  obtain ⟨p', q', r', s', o1', o2', g1, g2, rfl⟩ := h'
  obtain ⟨rfl, rfl, rfl⟩ := h1.same g2
  obtain ⟨rfl, rfl, rfl⟩ := h2.same g1
  rw [Bool.and_comm o2 o1]
  split
  · have k1 := (swingM_of h1.mag.1 h1.mag.2 h2.mag.1 h2.mag.2).swx
    have k2 := (swingM_of h2.mag.1 h2.mag.2 h1.mag.1 h1.mag.2).swx
    exact swing_opp (k1.turned k2)
  · rfl
theorem HueR.turned {xs ys : List Nat} {u z u' z' : Nat} {ok ok' : Bool} (h : HueR xs ys u z ok) (h' : HueR ys xs u' z' ok') : ok = ok' ∧ u = u' ∧ z = z' := by
  obtain ⟨p, q, r, s, o1, o2, h1, h2, h3, h4, h5⟩ := h'
  refine h.same ⟨r, s, p, q, o2, o1, h2, h1, by rw [h3, Bool.and_comm], fun e => ?_, h5⟩
  obtain ⟨rfl, rfl⟩ := h4 e
  unfold hueOf sumv
  rw [Flt.add_comm32 p r, Flt.add_comm32 q s]
  exact ⟨rfl, rfl⟩
def HuePost (xs ys : List Nat) (w : World) (e : Ending) (w' : World) : Prop := ∃ u z ok, e = .returned (.tuple #[.complex .f32 u z, .bool ok]) ∧ HueR xs ys u z ok ∧ Below w.heap.size w w'
theorem HuePost.no {xs ys : List Nat} {w w' : World} {p q p' q' : Nat} {o1 o2 : Bool} (h1 : BurstR xs p q o1) (h2 : BurstR ys p' q' o2) (h : (o1 && o2) = false) (hb : Below w.heap.size w w') : HuePost xs ys w (.returned (.tuple #[.complex .f32 0 0, .bool false])) w' :=
  ⟨0, 0, false, rfl, ⟨p, q, p', q', o1, o2, h1, h2, h.symm, fun e => (by cases e), fun _ => ⟨rfl, rfl⟩⟩, hb⟩
theorem HuePost.yes {xs ys : List Nat} {w w' : World} {p q p' q' : Nat} (h1 : BurstR xs p q true) (h2 : BurstR ys p' q' true) (hb : Below w.heap.size w w') : HuePost xs ys w (.returned (.tuple #[.complex .f32 (hueOf p p') (hueOf q q'), .bool true])) w' :=
  ⟨_, _, true, rfl, ⟨p, q, p', q', true, true, h1, h2, rfl, fun _ => ⟨rfl, rfl⟩, fun e => by cases e⟩, hb⟩
def SwingPost (xs ys : List Nat) (w : World) (e : Ending) (w' : World) : Prop := ∃ n, e = .returned (.int .i64 n) ∧ SwingR xs ys n ∧ Below w.heap.size w w'
theorem SwingPost.no {xs ys : List Nat} {w w' : World} {p q p' q' : Nat} {o1 o2 : Bool} (h1 : BurstR xs p q o1) (h2 : BurstR ys p' q' o2) (h : (o1 && o2) = false) (hb : Below w.heap.size w w') : SwingPost xs ys w (.returned (.int .i64 0)) w' :=
  ⟨0, rfl, ⟨p, q, p', q', o1, o2, h1, h2, by rw [h]; rfl⟩, hb⟩
theorem SwingPost.yes {xs ys : List Nat} {w w' : World} {p q p' q' : Nat} {n : Int} (h1 : BurstR xs p q true) (h2 : BurstR ys p' q' true) (hn : swing (swingX p q p' q') = n) (hb : Below w.heap.size w w') : SwingPost xs ys w (.returned (.int .i64 n)) w' :=
  ⟨n, rfl, ⟨p, q, p', q', true, true, h1, h2, hn.symm⟩, hb⟩
/-- Which number a swing is. -/
theorem swing_lt {x : Nat} (h : (FloatKind.f32.format.order x 0 == some .lt) = true) : swing x = 1 := if_pos h
theorem swing_gt {x : Nat} (h0 : (FloatKind.f32.format.order x 0 == some .lt) = false) (h : (FloatKind.f32.format.order x 0 == some .gt) = true) : swing x = -1 := by
  have h0' : (Ieee.single.order x 0 == some .lt) = false := h0
  have h' : (Ieee.single.order x 0 == some .gt) = true := h
  unfold swing; rw [h0', h']; rfl
theorem swing_no {x : Nat} (h0 : (FloatKind.f32.format.order x 0 == some .lt) = false) (h : (FloatKind.f32.format.order x 0 == some .gt) = false) : swing x = 0 := by
  have h0' : (Ieee.single.order x 0 == some .lt) = false := h0
  have h' : (Ieee.single.order x 0 == some .gt) = false := h
  unfold swing; rw [h0', h']; rfl

theorem results_three {fn : Func} {t u v : Tmp} (h : fn.results = #[.tmp t, .tmp u, .tmp v]) (tmps : Array Value) (P : Program) (w : World) :
    (results fn tmps).run P w = .ok (.tuple #[tmps.getD t undef, tmps.getD u undef, tmps.getD v undef]) w := by
  simp [results, h]
set_option maxHeartbeats 2000000 in
theorem burstColours_any (v v' : Value) (xs ys : List Nat) (w : World) (h : FRow w v xs) (h' : FRow w v' ys) (hl : xs.length ≤ 4000000) (hl' : ys.length ≤ 4000000) :
    Calls Try.prog 66 #[v, v'] w fun e w' => ∃ p q p' q' o1 o2, e = .returned (.tuple #[.complex .f32 p q, .complex .f32 p' q', .bool (o1 && o2)]) ∧ BurstR xs p q o1 ∧ BurstR ys p' q' o2 ∧ Below w.heap.size w w' := by
  have HA := Lib.hid (burstColour_any v xs w h hl)
  have HB := fun W hr => Lib.hid (burstColour_any v' ys W hr hl')
  have HR := Lib.hid h'
  clear h h'
  go_enter Try.func66, Try.ntmps66
  go_wp2_with fail
  refine HA.out.mono ?_
  rintro e w1 ⟨p, q, o1, rfl, h1, hb1⟩
  have H1 := Lib.hid h1
  clear h1
  go_wp2_with fail
  refine (HB _ (HR.out.below hb1)).out.mono ?_
  rintro e w2 ⟨p', q', o2, rfl, h2, hb2⟩
  have H2 := Lib.hid h2
  clear h2
  have tb := below_trans hb1 hb2 hb1.size
  cases o1 with
  | false =>
    go_wp2
    refine bodyPost_ret (results_three rfl _ _ _) rfl ?_
    exact ⟨p, q, p', q', false, o2, rfl, H1.out, H2.out, tb⟩
  | true =>
    go_wp2
    refine bodyPost_ret (results_three rfl _ _ _) rfl ?_
    exact ⟨p, q, p', q', true, o2, rfl, H1.out, H2.out, tb⟩
set_option maxHeartbeats 2000000 in
theorem hueGain_any (v v' : Value) (xs ys : List Nat) (w : World) (h : FRow w v xs) (h' : FRow w v' ys) (hl : xs.length ≤ 4000000) (hl' : ys.length ≤ 4000000) :
    Calls Try.prog 24 #[v, v'] w fun e w' => HuePost xs ys w e w' := by
  have HA := Lib.hid (burstColours_any v v' xs ys w h h' hl hl')
  clear h h'
  go_enter Try.func24, Try.ntmps24
  go_wp2_with fail
  refine HA.out.mono ?_
  rintro e w1 ⟨p, q, p', q', o1, o2, rfl, h1, h2, hb1⟩
  cases ho : (o1 && o2) with
  | false =>
    have HN := Lib.hid (HuePost.no h1 h2 ho hb1)
    clear h1 h2 ho
    go_wp2
    go_ret2
    exact HN.out
  | true =>
    obtain ⟨rfl, rfl⟩ : o1 = true ∧ o2 = true := by simpa using ho
    have m1 := hue_mag h1.mag.1 h2.mag.1
    have m2 := hue_mag h1.mag.2 h2.mag.2
    have a1 := cadd_run m1.1 m2.1
    have HD := Lib.hid (fun W => divided_any _ _ _ _ _ W m1.2.1 m2.2.1)
    have HY := Lib.hid (HuePost.yes h1 h2 hb1)
    clear h1 h2 ho m1 m2
    go_wp2_with fail
    refine (HD.out _).mono ?_
    rintro e w2 ⟨rfl, rfl⟩
    go_wp2
    go_ret2
    exact HY.out
set_option maxHeartbeats 2000000 in
theorem swing_any (v v' : Value) (xs ys : List Nat) (w : World) (h : FRow w v xs) (h' : FRow w v' ys) (hl : xs.length ≤ 4000000) (hl' : ys.length ≤ 4000000) :
    Calls Try.prog 26 #[v, v'] w fun e w' => SwingPost xs ys w e w' := by
  have HA := Lib.hid (burstColours_any v v' xs ys w h h' hl hl')
  clear h h'
  go_enter Try.func26, Try.ntmps26
  go_wp2_with fail
  refine HA.out.mono ?_
  rintro e w1 ⟨p, q, p', q', o1, o2, rfl, h1, h2, hb1⟩
  cases ho : (o1 && o2) with
  | false =>
    have HN := Lib.hid (SwingPost.no h1 h2 ho hb1)
    clear h1 h2 ho
    go_wp2
    go_ret
    exact HN.out
  | true =>
    obtain ⟨rfl, rfl⟩ : o1 = true ∧ o2 = true := by simpa using ho
    have M := swingM_of h1.mag.1 h1.mag.2 h2.mag.1 h2.mag.2
    have a1 := cadd_run M.s1 M.s2
    have a2 := csub_run M.d1 M.d2
    have a3 := arith_run M.m1
    have a4 := arith_run M.m2
    have a5 := arith_run M.x
    have HY := Lib.hid (fun n hn => SwingPost.yes (n := n) h1 h2 hn hb1)
    clear h1 h2 ho M
    generalize swingX p q p' q' = X at *
    cases k1 : (FloatKind.f32.format.order X 0 == some .lt) with
    | true =>
      have HX := Lib.hid (swing_lt k1)
      go_wp2
      go_ret
      exact HY.out _ HX.out
    | false =>
      cases k2 : (FloatKind.f32.format.order X 0 == some .gt) with
      | true =>
        have HX := Lib.hid (swing_gt k1 k2)
        go_wp2
        go_ret
        exact HY.out _ HX.out
      | false =>
        have HX := Lib.hid (swing_no k1 k2)
        go_wp2
        go_ret
        exact HY.out _ HX.out
set_option maxHeartbeats 2000000 in
theorem specHue_any (v v' : Value) (xs ys : List Nat) (w : World) (h : FRow w v xs) (h' : FRow w v' ys) (hl : xs.length ≤ 4000000) (hl' : ys.length ≤ 4000000) :
    Calls Try.prog 90 #[v, v'] w fun e w' => HuePost xs ys w e w' := by
  have HA := Lib.hid (specColour_any v xs w h hl)
  have HB := fun W hr => Lib.hid (specColour_any v' ys W hr hl')
  have HR := Lib.hid h'
  clear h h'
  go_enter Try.func90, Try.ntmps90
  go_wp2_with fail
  refine HA.out.mono ?_
  rintro e w1 ⟨p, q, o1, rfl, h1, hb1⟩
  go_wp2_with fail
  refine (HB _ (HR.out.below hb1)).out.mono ?_
  rintro e w2 ⟨p', q', o2, rfl, h2, hb2⟩
  have tb := below_trans hb1 hb2 hb1.size
  cases o1 with
  | false =>
    have HN := Lib.hid (HuePost.no h1 h2 rfl tb)
    clear h1 h2
    go_wp2
    go_ret2
    exact HN.out
  | true =>
    cases o2 with
    | false =>
      have HN := Lib.hid (HuePost.no h1 h2 rfl tb)
      clear h1 h2
      go_wp2
      go_ret2
      exact HN.out
    | true =>
      have m1 := hue_mag h1.mag.1 h2.mag.1
      have m2 := hue_mag h1.mag.2 h2.mag.2
      have a1 := arith_run m1.1
      have a2 := arith_run m2.1
      have a3 := arith_run m1.2.1
      have a4 := arith_run m2.2.1
      have HY := Lib.hid (HuePost.yes h1 h2 tb)
      clear h1 h2 m1 m2
      go_wp2
      go_ret2
      exact HY.out
set_option maxHeartbeats 2000000 in
theorem specSwing_any (v v' : Value) (xs ys : List Nat) (w : World) (h : FRow w v xs) (h' : FRow w v' ys) (hl : xs.length ≤ 4000000) (hl' : ys.length ≤ 4000000) :
    Calls Try.prog 87 #[v, v'] w fun e w' => SwingPost xs ys w e w' := by
  have HA := Lib.hid (specColour_any v xs w h hl)
  have HB := fun W hr => Lib.hid (specColour_any v' ys W hr hl')
  have HR := Lib.hid h'
  clear h h'
  go_enter Try.func87, Try.ntmps87
  go_wp2_with fail
  refine HA.out.mono ?_
  rintro e w1 ⟨p, q, o1, rfl, h1, hb1⟩
  go_wp2_with fail
  refine (HB _ (HR.out.below hb1)).out.mono ?_
  rintro e w2 ⟨p', q', o2, rfl, h2, hb2⟩
  have tb := below_trans hb1 hb2 hb1.size
  cases o1 with
  | false =>
    have HN := Lib.hid (SwingPost.no h1 h2 rfl tb)
    clear h1 h2
    go_wp2
    go_ret
    exact HN.out
  | true =>
    cases o2 with
    | false =>
      have HN := Lib.hid (SwingPost.no h1 h2 rfl tb)
      clear h1 h2
      go_wp2
      go_ret
      exact HN.out
    | true =>
      have M := swingM_of h1.mag.1 h1.mag.2 h2.mag.1 h2.mag.2
      have a1 := arith_run M.d1
      have a2 := arith_run M.d2
      have b1 := arith_run M.s1
      have b2 := arith_run M.s2
      have a3 := arith_run M.m1
      have a4 := arith_run M.m2
      have a5 := arith_run M.x
      have HY := Lib.hid (fun n hn => SwingPost.yes (n := n) h1 h2 hn tb)
      clear h1 h2 M
      generalize swingX p q p' q' = X at *
      cases k1 : (FloatKind.f32.format.order X 0 == some .lt) with
      | true =>
        have HX := Lib.hid (swing_lt k1)
        go_wp2
        go_ret
        exact HY.out _ HX.out
      | false =>
        cases k2 : (FloatKind.f32.format.order X 0 == some .gt) with
        | true =>
          have HX := Lib.hid (swing_gt k1 k2)
          go_wp2
          go_ret
          exact HY.out _ HX.out
        | false =>
          have HX := Lib.hid (swing_no k1 k2)
          go_wp2
          go_ret
          exact HY.out _ HX.out
end Go.Proofs.Ytgecclccmmcdoaa
