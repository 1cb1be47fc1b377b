/-
  What is proved: sums, differences and products of numbers of opposite signs have opposite signs.
  Conditions: none (two NaNs count as opposite, and so do two zeros).
-/
import Derived.Test.YtobpnoiienpipaaGreatPz01
import Derived.Test.YtobpnoiienpipaaGreatPz11
import Derived.Test.YtobpnoiienpipaaGreatPz10
namespace Go.Proofs.YtobpnoiienpipaaGreat
set_option linter.unusedVariables false
open Ieee

/-- Two data that are each other's negatives; of zeros the signs may be any. -/
def OppD : Datum → Datum → Prop
  | .nan .., .nan .. => True
  | .infinity s, .infinity t => t = !s
  | .number s m e, .number t n e' => e = e' ∧ m = n ∧ (m = 0 ∨ t = !s)
  | _, _ => False
def Opp (x y : Nat) : Prop := OppD (single.read x) (single.read y)
theorem cut_sign (s t : Bool) (n d : Nat) : Toward.even.cut s n d = Toward.even.cut t n d := rfl
theorem opp_word (s t : Bool) (r : Nat) (h : r < 2 ^ 31) (hs : r = 0 ∨ t = !s) : OppD (single.read (single.word s r)) (single.read (single.word t r)) := by
  rw [Flt.read_word single s r h, Flt.read_word single t r h]
  by_cases h1 : r < single.binade
  · rw [if_pos h1, if_pos h1]; exact ⟨rfl, rfl, hs⟩
  · rw [if_neg h1, if_neg h1]
    have h0 : t = !s := hs.elim (fun e => by subst e; exact absurd (show 0 < single.binade by decide) h1) id
    by_cases h2 : r < single.infRung
    · rw [if_pos h2, if_pos h2]; exact ⟨rfl, rfl, .inr h0⟩
    · rw [if_neg h2, if_neg h2]
      by_cases h3 : r = single.infRung
      · rw [if_pos h3, if_pos h3]; exact h0
      · rw [if_neg h3, if_neg h3]; trivial
theorem opp_nearest (s t : Bool) (mag : Nat) (place : Int) (hs : mag = 0 ∨ t = !s) : OppD (single.read (single.nearest s mag place)) (single.read (single.nearest t mag place)) := by
  unfold Format.nearest
  by_cases h : mag = 0
  · rw [if_pos h, if_pos h]; exact opp_word s t 0 (by decide) (.inl rfl)
  · rw [if_neg h, if_neg h]
    have h0 : t = !s := hs.elim (fun e => absurd e h) id
    simp only [cut_sign t s]
    refine opp_word s t _ (Nat.lt_of_le_of_lt (Nat.min_le_right _ _) single.infRung_lt) (.inr h0)
/-- Both fail, or both answer opposite data. -/
def OppO : Option Datum → Option Datum → Prop
  | none, none => True
  | some a, some b => OppD a b ∧ a.isNaN = false
  | _, _ => False
theorem opp_write {a b : Option Datum} (h : OppO a b) : (a.map single.write = none ∧ b.map single.write = none) ∨ ∃ x y, a.map single.write = some x ∧ b.map single.write = some y ∧ Opp x y := by
  cases a with
  | none => cases b with
    | none => exact .inl ⟨rfl, rfl⟩
    | some d => exact h.elim
  | some c => cases b with
    | none => exact h.elim
    | some d =>
      refine .inr ⟨_, _, rfl, rfl, ?_⟩
      obtain ⟨h', hn⟩ : OppD c d ∧ c.isNaN = false := h
      cases c <;> cases d <;> try exact h'.elim
      · obtain ⟨rfl, rfl, h3⟩ := h'
        exact opp_nearest _ _ _ _ h3
      · rename_i s t
        have e : t = !s := h'
        subst e
        exact opp_word _ _ _ (by decide) (.inr rfl)
      · cases hn
theorem signed_opp {s t : Bool} {m : Nat} (k : Nat) (h : m = 0 ∨ t = !s) : signed t m k = - signed s m k := by
  unfold signed
  rcases h with rfl | rfl
  · cases s <;> cases t <;> simp
  · cases s <;> simp
theorem opp_total {s t u v : Bool} {a b : Int} (e : b = -a) (base : Int) : OppD (.number (if a = 0 then s && t else decide (a < 0)) a.natAbs base) (.number (if b = 0 then u && v else decide (b < 0)) b.natAbs base) := by
  subst e
  refine ⟨rfl, by simp, ?_⟩
  by_cases h : a = 0
  · left; rw [h]; rfl
  · right
    rw [if_neg h, if_neg (by omega)]
    by_cases h1 : a < 0
    · rw [decide_eq_true h1, decide_eq_false (by omega)]; rfl
    · rw [decide_eq_false h1, decide_eq_true (by omega)]; rfl
theorem opp_sum {a a' b b' : Datum} (h : OppD a a') (h' : OppD b b') : OppO (a.sum b) (a'.sum b') := by
  cases a <;> cases a' <;> (try exact h.elim) <;> cases b <;> cases b' <;> (try exact h'.elim)
  · rename_i s m i s' m' i' t n j t' n' j'
    obtain ⟨rfl, rfl, h3⟩ := h
    obtain ⟨rfl, rfl, h4⟩ := h'
    refine ⟨opp_total (a := signed s m (i - min i j).toNat + signed t n (j - min i j).toNat) ?_ _, rfl⟩
    rw [signed_opp _ h3, signed_opp _ h4]; omega
  · exact ⟨h', rfl⟩
  · trivial
  · exact ⟨h, rfl⟩
  · rename_i s s' t t'
    have e : s' = !s := h
    have e' : t' = !t := h'
    subst e e'
    by_cases hst : s = t
    · subst hst
      show OppO (if s = s then _ else _) (if (!s) = (!s) then _ else _)
      rw [if_pos rfl, if_pos rfl]
      exact ⟨rfl, rfl⟩
    · show OppO (if s = t then _ else _) (if (!s) = (!t) then _ else _)
      rw [if_neg hst, if_neg (by cases s <;> cases t <;> simp_all)]
      trivial
  · trivial
  · trivial
  · trivial
  · trivial
theorem opp_opp {a a' : Datum} (h : OppD a a') : OppD a.opposite a'.opposite := by
  cases a <;> cases a' <;> (try exact h.elim)
  · obtain ⟨rfl, rfl, h3⟩ := h
    exact ⟨rfl, rfl, h3.imp id (fun e => by rw [e])⟩
  · have e := h
    show _ = _
    rw [show _ = _ from e]
  · trivial
theorem opp_self (a : Datum) : OppD a a.opposite := by
  cases a
  · exact ⟨rfl, rfl, .inr rfl⟩
  · exact rfl
  · trivial
theorem OppD.symm {a b : Datum} (h : OppD a b) : OppD b a := by
  cases a <;> cases b <;> (try exact h.elim)
  · obtain ⟨rfl, rfl, h3⟩ := h
    exact ⟨rfl, rfl, h3.imp id (fun e => by rw [e]; simp)⟩
  · have e : _ = !_ := h
    show _ = !_
    rw [e]; simp
  · trivial
theorem opp_product {a a' c : Datum} (h : OppD a a') : OppO (a.product c) (a'.product c) := by
  cases a <;> cases a' <;> (try exact h.elim) <;> cases c
  · rename_i s m i s' m' i' t n j
    obtain ⟨rfl, rfl, h3⟩ := h
    refine ⟨⟨rfl, rfl, ?_⟩, rfl⟩
    rcases h3 with rfl | rfl
    · left; simp
    · right; cases s <;> cases t <;> rfl
  · rename_i s m i s' m' i' t
    obtain ⟨rfl, rfl, h3⟩ := h
    by_cases hm : m = 0
    · subst hm; simp [Datum.product]; trivial
    · have e : s' = !s := h3.elim (fun e => absurd e hm) id
      subst e
      simp only [Datum.product, if_neg hm]
      exact ⟨by cases s <;> cases t <;> rfl, rfl⟩
  · trivial
  · rename_i s s' t n j
    have e : s' = !s := h
    subst e
    by_cases hn : n = 0
    · subst hn; simp [Datum.product]; trivial
    · simp only [Datum.product, if_neg hn]
      exact ⟨by cases s <;> cases t <;> rfl, rfl⟩
  · rename_i s s' t
    have e : s' = !s := h
    subst e
    exact ⟨by cases s <;> cases t <;> rfl, rfl⟩
  · trivial
  · trivial
  · trivial
  · trivial
theorem opp_nan {x y : Nat} (hx : isN x = true) (hy : isN y = true) : Opp x y := by
  unfold isN at hx hy
  unfold Opp
  cases h1 : single.read x <;> cases h2 : single.read y <;> rw [h1] at hx <;> rw [h2] at hy <;> simp [Datum.isNaN] at hx hy
  trivial
theorem opp_res {op op' : BinOp} {x y x' y' r r' : Nat} {a b : Option Datum} (h : OppO a b) (ha : floatBits op .f32 x y = a.map single.write) (hb : floatBits op' .f32 x' y' = b.map single.write)
    (hr : Res op x y r) (hr' : Res op' x' y' r') : Opp r r' := by
  rcases opp_write h with ⟨h1, h2⟩ | ⟨p, q, h1, h2, h3⟩
  · rcases hr with hr | ⟨_, hr⟩
    · rw [ha, h1] at hr; cases hr
    · rcases hr' with hr' | ⟨_, hr'⟩
      · rw [hb, h2] at hr'; cases hr'
      · exact opp_nan hr hr'
  · rcases hr with hr | ⟨hr, _⟩
    · rcases hr' with hr' | ⟨hr', _⟩
      · rw [ha, h1] at hr
        rw [hb, h2] at hr'
        cases hr
        cases hr'
        exact h3
      · rw [hb, h2] at hr'; cases hr'
    · rw [ha, h1] at hr; cases hr
theorem Opp.symm {x y : Nat} (h : Opp x y) : Opp y x := OppD.symm h
theorem sum_comm (a b : Datum) : a.sum b = b.sum a := by
  cases a <;> cases b <;> simp only [Datum.sum]
  · rename_i s m i t n j
    rw [Int.min_comm, Int.add_comm, Bool.and_comm]
  · rename_i s t
    by_cases h : s = t
    · subst h; rfl
    · rw [if_neg h, if_neg (fun e => h e.symm)]
theorem product_comm (a b : Datum) : a.product b = b.product a := by
  cases a <;> cases b <;> simp only [Datum.product, Bool.xor_comm, Nat.mul_comm, Int.add_comm]
theorem Res.opp_swap {x y r r' : Nat} (h : Res .sub x y r) (h' : Res .sub y x r') : Opp r r' := by
  refine opp_res (a := (single.read x).sum (single.read y).opposite) (b := (single.read y).sum (single.read x).opposite) ?_ rfl rfl h h'
  rw [sum_comm (single.read y)]
  exact opp_sum (opp_self _) (OppD.symm (opp_self _))
theorem Res.opp_sub {x y x' y' r r' : Nat} (hx : Opp x x') (hy : Opp y y') (h : Res .sub x y r) (h' : Res .sub x' y' r') : Opp r r' :=
  opp_res (a := (single.read x).sum (single.read y).opposite) (b := (single.read x').sum (single.read y').opposite) (opp_sum hx (opp_opp hy)) rfl rfl h h'
theorem Res.opp_mul {x x' y r r' : Nat} (hx : Opp x x') (h : Res .mul x y r) (h' : Res .mul x' y r') : Opp r r' :=
  opp_res (a := (single.read x).product (single.read y)) (b := (single.read x').product (single.read y)) (opp_product hx) rfl rfl h h'
theorem Res.mul_comm {x y r : Nat} (h : Res .mul x y r) : Res .mul y x r := by
  have e : floatBits .mul .f32 x y = floatBits .mul .f32 y x := by
    show single.mul x y = single.mul y x
    unfold Format.mul
    rw [product_comm]
  unfold Res at h ⊢
  rwa [← e]
theorem Res.add_comm {x y r : Nat} (h : Res .add x y r) : Res .add y x r := by
  unfold Res at h ⊢
  rwa [Flt.add_comm32]
/-- x is less than 0 exactly if its opposite is greater. -/
theorem Opp.lt {x y : Nat} (h : Opp x y) : (single.order x 0 == some .lt) = (single.order y 0 == some .gt) := by
  unfold Opp at h
  have h0 := Flt.read_zero
  unfold Format.order
  rw [h0]
  cases hx : single.read x <;> cases hy : single.read y <;> rw [hx, hy] at h <;> (try exact h.elim)
  · rename_i s m e t n e'
    obtain ⟨rfl, rfl, h3⟩ := h
    simp only [Datum.order, Flt.signed_sg]
    have z : Flt.sg false (0 * 2 ^ ((-149 : Int) - min e (-149)).toNat) = 0 := by simp [Flt.sg]
    rw [z]
    have o : Flt.sg t (m * 2 ^ (e - min e (-149)).toNat) = - Flt.sg s (m * 2 ^ (e - min e (-149)).toNat) := by
      rcases h3 with rfl | rfl
      · simp [Flt.sg]
      · exact Flt.sg_not _ _
    rw [o]
    generalize Flt.sg s (m * 2 ^ (e - min e (-149)).toNat) = k
    rcases (by omega : k < 0 ∨ k = 0 ∨ 0 < k) with hk | hk | hk
    · rw [Flt.cmp_lt hk, Flt.cmp_gt (by omega)]; rfl
    · subst hk; rfl
    · rw [Flt.cmp_gt hk, Flt.cmp_lt (by omega)]; rfl
  · rename_i s t
    have e : t = !s := h
    subst e
    cases s <;> rfl
  · rfl
theorem Res.nan {op : BinOp} {x y r : Nat} (h : isN x = true ∨ isN y = true) (hr : Res op x y r) : isN r = true := by
  rcases hr with hr | ⟨_, hr⟩
  · rw [op_nan h] at hr; cases hr
  · exact hr
theorem Res.opp_mul_sm {x x' y y' r r' : Nat} (hx : Opp x x') (hy : Sm y y') (h : Res .mul x y r) (h' : Res .mul x' y' r') : Opp r r' := by
  rcases hy with rfl | ⟨h1, h2⟩
  · exact Res.opp_mul hx h h'
  · exact opp_nan (Res.nan (.inr h1) h) (Res.nan (.inr h2) h')
/-- What is compared with 0 to tell which of two lines is odd: a + bi and c + di are the colours of their bursts. -/
def SwX (a b c d x : Nat) : Prop := ∃ d1 d2 s1 s2 m1 m2, Res .sub a c d1 ∧ Res .sub b d d2 ∧ Res .add a c s1 ∧ Res .add b d s2 ∧ Res .mul d2 s1 m1 ∧ Res .mul d1 s2 m2 ∧ Res .sub m1 m2 x
theorem SwX.same {a b c d x x' : Nat} (h : SwX a b c d x) (h' : SwX a b c d x') : Sm x x' := by
  obtain ⟨d1, d2, s1, s2, m1, m2, h1, h2, h3, h4, h5, h6, h7⟩ := h
  obtain ⟨e1, e2, t1, t2, n1, n2, g1, g2, g3, g4, g5, g6, g7⟩ := h'
  have k1 := Res.same (Sm.refl _) (Sm.refl _) h1 g1
  have k2 := Res.same (Sm.refl _) (Sm.refl _) h2 g2
  have k3 := Res.same (Sm.refl _) (Sm.refl _) h3 g3
  have k4 := Res.same (Sm.refl _) (Sm.refl _) h4 g4
  exact Res.same (Res.same k2 k3 h5 g5) (Res.same k1 k4 h6 g6) h7 g7
theorem SwX.turned {a b c d x x' : Nat} (h : SwX a b c d x) (h' : SwX c d a b x') : Opp x x' := by
  obtain ⟨d1, d2, s1, s2, m1, m2, h1, h2, h3, h4, h5, h6, h7⟩ := h
  obtain ⟨e1, e2, t1, t2, n1, n2, g1, g2, g3, g4, g5, g6, g7⟩ := h'
  have k1 := Res.opp_swap h1 g1
  have k2 := Res.opp_swap h2 g2
  have k3 := Res.same (Sm.refl _) (Sm.refl _) h3 g3.add_comm
  have k4 := Res.same (Sm.refl _) (Sm.refl _) h4 g4.add_comm
  exact Res.opp_sub (Res.opp_mul_sm k2 k3 h5 g5) (Res.opp_mul_sm k1 k4 h6 g6) h7 g7
/-- Which line is odd. -/
def swing (x : Nat) : Int := if (single.order x 0 == some .lt) = true then 1 else if (single.order x 0 == some .gt) = true then -1 else 0
theorem order_one (x : Nat) : ¬((single.order x 0 == some .lt) = true ∧ (single.order x 0 == some .gt) = true) := by
  rintro ⟨h1, h2⟩
  have e1 := eq_of_beq h1
  have e2 := eq_of_beq h2
  rw [e1] at e2; cases e2
theorem Opp.gt {x y : Nat} (h : Opp x y) : (single.order x 0 == some .gt) = (single.order y 0 == some .lt) := h.symm.lt.symm
theorem swing_opp {x y : Nat} (h : Opp x y) : swing x = - swing y := by
  unfold swing
  rw [h.lt, h.gt]
  have k := order_one y
  by_cases h1 : (single.order y 0 == some .lt) = true <;> by_cases h2 : (single.order y 0 == some .gt) = true
  · exact absurd ⟨h1, h2⟩ k
  · rw [if_neg h2, if_pos h1, if_pos h1]
  · rw [if_pos h2, if_neg h1, if_pos h2]; rfl
  · rw [if_neg h2, if_neg h1, if_neg h1, if_neg h2]; rfl
end Go.Proofs.YtobpnoiienpipaaGreat

/-
  What is proved: the walks of Swing and HueGain, the program's and the model's.
  Conditions: the lists can be read, and have at most 4000000 numbers.
-/
namespace Go.Proofs.YtobpnoiienpipaaGreat
set_option linter.unusedVariables false
open Go.RowKit
open Flt (Mag sumv subv mulv quov)
attribute [local go_sem] run_store_float run_store_complex unary_negf neg256

theorem csub_run {a b c d re im : Nat} (h1 : floatBits .sub .f32 a c = some re) (h2 : floatBits .sub .f32 b d = some im) (W : World) : (binOp .sub 26 (.complex .f32 a b) (.complex .f32 c d)).run Tryz.prog W = .ok (.complex .f32 re im) W :=
  run_complex_sum W .sub (.inr rfl) 26 .f32 a b c d re im (by simp [cSumBits, h1, h2])
/-- The gain of the hue of two colours. -/
def hueOf (x y : Nat) : Nat := quov (sumv x y) 3254779904
/-- What two lists tell of the gain of the hue. -/
def HueR (xs ys : List Nat) (u z : Nat) (ok : Bool) : Prop :=
  ∃ p q p' q' o1 o2, BurstR xs p q o1 ∧ BurstR ys p' q' o2 ∧ ok = (o1 && o2) ∧ (ok = true → u = hueOf p p' ∧ z = hueOf q q') ∧ (ok = false → u = 0 ∧ z = 0)
theorem hue_mag {x y : Nat} (hx : Mag 165 x) (hy : Mag 165 y) : floatBits .add .f32 x y = some (sumv x y) ∧ floatBits .quo .f32 (sumv x y) 3254779904 = some (hueOf x y) ∧ Mag 168 (hueOf x y) := by
  have h1 := hx.add hy (by decide)
  have h2 := h1.2.gain (by decide)
  exact ⟨h1.1, h2.1, h2.2⟩
theorem HueR.mag {xs ys : List Nat} {u z : Nat} {ok : Bool} (h : HueR xs ys u z ok) : Mag 168 u ∧ Mag 168 z := by
  obtain ⟨p, q, p', q', o1, o2, h1, h2, _, h4, h5⟩ := h
  cases ok with
  | false => obtain ⟨rfl, rfl⟩ := h5 rfl; exact ⟨zero_mag.mono (by decide), zero_mag.mono (by decide)⟩
  | true => obtain ⟨rfl, rfl⟩ := h4 rfl; exact ⟨(hue_mag h1.mag.1 h2.mag.1).2.2, (hue_mag h1.mag.2 h2.mag.2).2.2⟩
theorem HueR.same {xs ys : List Nat} {u z u' z' : Nat} {ok ok' : Bool} (h : HueR xs ys u z ok) (h' : HueR xs ys u' z' ok') : ok = ok' ∧ u = u' ∧ z = z' := by
  obtain ⟨p, q, r, s, o1, o2, h1, h2, h3, h4, h5⟩ := h
  obtain ⟨p', q', r', s', o1', o2', g1, g2, g3, g4, g5⟩ := h'
  obtain ⟨rfl, rfl, rfl⟩ := h1.same g1
  obtain ⟨rfl, rfl, rfl⟩ := h2.same g2
  have e := h3.trans g3.symm
  refine ⟨e, ?_⟩
  subst e
  cases ok with
  | false => obtain ⟨rfl, rfl⟩ := h5 rfl; obtain ⟨rfl, rfl⟩ := g5 rfl; exact ⟨rfl, rfl⟩
  | true => obtain ⟨rfl, rfl⟩ := h4 rfl; obtain ⟨rfl, rfl⟩ := g4 rfl; exact ⟨rfl, rfl⟩
def swingX (p q p' q' : Nat) : Nat := subv (mulv (subv q q') (sumv p p')) (mulv (subv p p') (sumv q q'))
structure SwingM (p q p' q' : Nat) : Prop where
  d1 : floatBits .sub .f32 p p' = some (subv p p')
  d2 : floatBits .sub .f32 q q' = some (subv q q')
  s1 : floatBits .add .f32 p p' = some (sumv p p')
  s2 : floatBits .add .f32 q q' = some (sumv q q')
  m1 : floatBits .mul .f32 (subv q q') (sumv p p') = some (mulv (subv q q') (sumv p p'))
  m2 : floatBits .mul .f32 (subv p p') (sumv q q') = some (mulv (subv p p') (sumv q q'))
  x : floatBits .sub .f32 (mulv (subv q q') (sumv p p')) (mulv (subv p p') (sumv q q')) = some (swingX p q p' q')
theorem swingM_of {p q p' q' : Nat} (hp : Mag 165 p) (hq : Mag 165 q) (hp' : Mag 165 p') (hq' : Mag 165 q') : SwingM p q p' q' := by
  have d1 := hp.sub hp' (by decide)
  have d2 := hq.sub hq' (by decide)
  have s1 := hp.add hp' (by decide)
  have s2 := hq.add hq' (by decide)
  have m1 := d2.2.mul s1.2 (by decide) (by decide)
  have m2 := d1.2.mul s2.2 (by decide) (by decide)
  have x := m1.2.sub m2.2 (by decide)
  exact ⟨d1.1, d2.1, s1.1, s2.1, m1.1, m2.1, x.1⟩
theorem SwingM.swx {p q p' q' : Nat} (h : SwingM p q p' q') : SwX p q p' q' (swingX p q p' q') :=
  ⟨_, _, _, _, _, _, .inl h.d1, .inl h.d2, .inl h.s1, .inl h.s2, .inl h.m1, .inl h.m2, .inl h.x⟩
/-- What two lists tell of which one is odd. -/
def SwingR (xs ys : List Nat) (n : Int) : Prop :=
  ∃ p q p' q' o1 o2, BurstR xs p q o1 ∧ BurstR ys p' q' o2 ∧ n = if (o1 && o2) = true then swing (swingX p q p' q') else 0
theorem SwingR.same {xs ys : List Nat} {n m : Int} (h : SwingR xs ys n) (h' : SwingR xs ys m) : n = m := by
  obtain ⟨p, q, r, s, o1, o2, h1, h2, rfl⟩ := h
  obtain ⟨p', q', r', s', o1', o2', g1, g2, rfl⟩ := h'
  obtain ⟨rfl, rfl, rfl⟩ := h1.same g1
  obtain ⟨rfl, rfl, rfl⟩ := h2.same g2
  rfl
theorem SwingR.turned {xs ys : List Nat} {n m : Int} (h : SwingR xs ys n) (h' : SwingR ys xs m) : n = -m := by
  obtain ⟨p, q, r, s, o1, o2, h1, h2, rfl⟩ := h
  obtain ⟨p', q', r', s', o1', o2', g1, g2, rfl⟩ := h'
  obtain ⟨rfl, rfl, rfl⟩ := h1.same g2
  obtain ⟨rfl, rfl, rfl⟩ := h2.same g1
  rw [Bool.and_comm o2 o1]
  split
  · have k1 := (swingM_of h1.mag.1 h1.mag.2 h2.mag.1 h2.mag.2).swx
    have k2 := (swingM_of h2.mag.1 h2.mag.2 h1.mag.1 h1.mag.2).swx
    exact swing_opp (k1.turned k2)
  · rfl
theorem HueR.turned {xs ys : List Nat} {u z u' z' : Nat} {ok ok' : Bool} (h : HueR xs ys u z ok) (h' : HueR ys xs u' z' ok') : ok = ok' ∧ u = u' ∧ z = z' := by
  obtain ⟨p, q, r, s, o1, o2, h1, h2, h3, h4, h5⟩ := h'
  refine h.same ⟨r, s, p, q, o2, o1, h2, h1, by rw [h3, Bool.and_comm], fun e => ?_, h5⟩
  obtain ⟨rfl, rfl⟩ := h4 e
  unfold hueOf sumv
  rw [Flt.add_comm32 p r, Flt.add_comm32 q s]
  exact ⟨rfl, rfl⟩
def HuePost (xs ys : List Nat) (w : World) (e : Ending) (w' : World) : Prop := ∃ u z ok, e = .returned (.tuple #[.complex .f32 u z, .bool ok]) ∧ HueR xs ys u z ok ∧ Below w.heap.size w w'
theorem HuePost.no {xs ys : List Nat} {w w' : World} {p q p' q' : Nat} {o1 o2 : Bool} (h1 : BurstR xs p q o1) (h2 : BurstR ys p' q' o2) (h : (o1 && o2) = false) (hb : Below w.heap.size w w') : HuePost xs ys w (.returned (.tuple #[.complex .f32 0 0, .bool false])) w' :=
  ⟨0, 0, false, rfl, ⟨p, q, p', q', o1, o2, h1, h2, h.symm, fun e => (by cases e), fun _ => ⟨rfl, rfl⟩⟩, hb⟩
theorem HuePost.yes {xs ys : List Nat} {w w' : World} {p q p' q' : Nat} (h1 : BurstR xs p q true) (h2 : BurstR ys p' q' true) (hb : Below w.heap.size w w') : HuePost xs ys w (.returned (.tuple #[.complex .f32 (hueOf p p') (hueOf q q'), .bool true])) w' :=
  ⟨_, _, true, rfl, ⟨p, q, p', q', true, true, h1, h2, rfl, fun _ => ⟨rfl, rfl⟩, fun e => by cases e⟩, hb⟩
def SwingPost (xs ys : List Nat) (w : World) (e : Ending) (w' : World) : Prop := ∃ n, e = .returned (.int .i64 n) ∧ SwingR xs ys n ∧ Below w.heap.size w w'
theorem SwingPost.no {xs ys : List Nat} {w w' : World} {p q p' q' : Nat} {o1 o2 : Bool} (h1 : BurstR xs p q o1) (h2 : BurstR ys p' q' o2) (h : (o1 && o2) = false) (hb : Below w.heap.size w w') : SwingPost xs ys w (.returned (.int .i64 0)) w' :=
  ⟨0, rfl, ⟨p, q, p', q', o1, o2, h1, h2, by rw [h]; rfl⟩, hb⟩
theorem SwingPost.yes {xs ys : List Nat} {w w' : World} {p q p' q' : Nat} {n : Int} (h1 : BurstR xs p q true) (h2 : BurstR ys p' q' true) (hn : swing (swingX p q p' q') = n) (hb : Below w.heap.size w w') : SwingPost xs ys w (.returned (.int .i64 n)) w' :=
  ⟨n, rfl, ⟨p, q, p', q', true, true, h1, h2, hn.symm⟩, hb⟩
/-- Which number a swing is. -/
theorem swing_lt {x : Nat} (h : (FloatKind.f32.format.order x 0 == some .lt) = true) : swing x = 1 := if_pos h
theorem swing_gt {x : Nat} (h0 : (FloatKind.f32.format.order x 0 == some .lt) = false) (h : (FloatKind.f32.format.order x 0 == some .gt) = true) : swing x = -1 := by
  have h0' : (Ieee.single.order x 0 == some .lt) = false := h0
  have h' : (Ieee.single.order x 0 == some .gt) = true := h
  unfold swing; rw [h0', h']; rfl
theorem swing_no {x : Nat} (h0 : (FloatKind.f32.format.order x 0 == some .lt) = false) (h : (FloatKind.f32.format.order x 0 == some .gt) = false) : swing x = 0 := by
  have h0' : (Ieee.single.order x 0 == some .lt) = false := h0
  have h' : (Ieee.single.order x 0 == some .gt) = false := h
  unfold swing; rw [h0', h']; rfl

theorem results_three {fn : Func} {t u v : Tmp} (h : fn.results = #[.tmp t, .tmp u, .tmp v]) (tmps : Array Value) (P : Program) (w : World) :
    (results fn tmps).run P w = .ok (.tuple #[tmps.getD t undef, tmps.getD u undef, tmps.getD v undef]) w := by
  simp [results, h]
set_option maxHeartbeats 2000000 in
theorem burstColours_any (v v' : Value) (xs ys : List Nat) (w : World) (h : FRow w v xs) (h' : FRow w v' ys) (hl : xs.length ≤ 4000000) (hl' : ys.length ≤ 4000000) :
    Calls Tryz.prog 153 #[v, v'] w fun e w' => ∃ p q p' q' o1 o2, e = .returned (.tuple #[.complex .f32 p q, .complex .f32 p' q', .bool (o1 && o2)]) ∧ BurstR xs p q o1 ∧ BurstR ys p' q' o2 ∧ Below w.heap.size w w' := by
  have HA := Lib.hid (burstColour_any v xs w h hl)
  have HB := fun W hr => Lib.hid (burstColour_any v' ys W hr hl')
  have HR := Lib.hid h'
  clear h h'
  go_enter Tryz.func153, Tryz.ntmps153
  go_wp2_with fail
  refine HA.out.mono ?_
  rintro e w1 ⟨p, q, o1, rfl, h1, hb1⟩
  have H1 := Lib.hid h1
  clear h1
  go_wp2_with fail
  refine (HB _ (HR.out.below hb1)).out.mono ?_
  rintro e w2 ⟨p', q', o2, rfl, h2, hb2⟩
  have H2 := Lib.hid h2
  clear h2
  have tb := below_trans hb1 hb2 hb1.size
  cases o1 with
  | false =>
    go_wp2
    refine bodyPost_ret (results_three rfl _ _ _) rfl ?_
    exact ⟨p, q, p', q', false, o2, rfl, H1.out, H2.out, tb⟩
  | true =>
    go_wp2
    refine bodyPost_ret (results_three rfl _ _ _) rfl ?_
    exact ⟨p, q, p', q', true, o2, rfl, H1.out, H2.out, tb⟩
set_option maxHeartbeats 2000000 in
theorem hueGain_any (v v' : Value) (xs ys : List Nat) (w : World) (h : FRow w v xs) (h' : FRow w v' ys) (hl : xs.length ≤ 4000000) (hl' : ys.length ≤ 4000000) :
    Calls Tryz.prog 131 #[v, v'] w fun e w' => HuePost xs ys w e w' := by
  have HA := Lib.hid (burstColours_any v v' xs ys w h h' hl hl')
  clear h h'
  go_enter Tryz.func131, Tryz.ntmps131
  go_wp2_with fail
  refine HA.out.mono ?_
  rintro e w1 ⟨p, q, p', q', o1, o2, rfl, h1, h2, hb1⟩
  cases ho : (o1 && o2) with
  | false =>
    have HN := Lib.hid (HuePost.no h1 h2 ho hb1)
    clear h1 h2 ho
    go_wp2
    go_ret2
    exact HN.out
  | true =>
    obtain ⟨rfl, rfl⟩ : o1 = true ∧ o2 = true := by simpa using ho
    have m1 := hue_mag h1.mag.1 h2.mag.1
    have m2 := hue_mag h1.mag.2 h2.mag.2
    have a1 := cadd_run m1.1 m2.1
    have HD := Lib.hid (fun W => divided_any _ _ _ _ _ W m1.2.1 m2.2.1)
    have HY := Lib.hid (HuePost.yes h1 h2 hb1)
    clear h1 h2 ho m1 m2
    go_wp2_with fail
    refine (HD.out _).mono ?_
    rintro e w2 ⟨rfl, rfl⟩
    go_wp2
    go_ret2
    exact HY.out
set_option maxHeartbeats 2000000 in
theorem swing_any (v v' : Value) (xs ys : List Nat) (w : World) (h : FRow w v xs) (h' : FRow w v' ys) (hl : xs.length ≤ 4000000) (hl' : ys.length ≤ 4000000) :
    Calls Tryz.prog 149 #[v, v'] w fun e w' => SwingPost xs ys w e w' := by
  have HA := Lib.hid (burstColours_any v v' xs ys w h h' hl hl')
  clear h h'
  go_enter Tryz.func149, Tryz.ntmps149
  go_wp2_with fail
  refine HA.out.mono ?_
  rintro e w1 ⟨p, q, p', q', o1, o2, rfl, h1, h2, hb1⟩
  cases ho : (o1 && o2) with
  | false =>
    have HN := Lib.hid (SwingPost.no h1 h2 ho hb1)
    clear h1 h2 ho
    go_wp2
    go_ret
    exact HN.out
  | true =>
    obtain ⟨rfl, rfl⟩ : o1 = true ∧ o2 = true := by simpa using ho
    have M := swingM_of h1.mag.1 h1.mag.2 h2.mag.1 h2.mag.2
    have a1 := cadd_run M.s1 M.s2
    have a2 := csub_run M.d1 M.d2
    have a3 := arith_run M.m1
    have a4 := arith_run M.m2
    have a5 := arith_run M.x
    have HY := Lib.hid (fun n hn => SwingPost.yes (n := n) h1 h2 hn hb1)
    clear h1 h2 ho M
    generalize swingX p q p' q' = X at *
    cases k1 : (FloatKind.f32.format.order X 0 == some .lt) with
    | true =>
      have HX := Lib.hid (swing_lt k1)
      go_wp2
      go_ret
      exact HY.out _ HX.out
    | false =>
      cases k2 : (FloatKind.f32.format.order X 0 == some .gt) with
      | true =>
        have HX := Lib.hid (swing_gt k1 k2)
        go_wp2
        go_ret
        exact HY.out _ HX.out
      | false =>
        have HX := Lib.hid (swing_no k1 k2)
        go_wp2
        go_ret
        exact HY.out _ HX.out
end Go.Proofs.YtobpnoiienpipaaGreat

/-
  What is proved: the walk of the law FnBurstsSwing.
  Conditions: none beyond the argument's own.
-/
namespace Go.Proofs.YtobpnoiienpipaaGreat
set_option linter.unusedVariables false
open Go.RowKit
open Flt (Mag sumv subv mulv quov)
attribute [local go_sem] run_store_float run_store_complex unary_negf neg256

abbrev m16 : Nat := 3246391296
abbrev p16 : Nat := 1098907648
theorem num_k : Flt.Num Ieee.single 1149239296 false (2 ^ 159) := ⟨8388608, -13, by decide +kernel, by decide, by rw [Flt.place32]; decide +kernel⟩
theorem num_nk : Flt.Num Ieee.single 3296722944 true (2 ^ 159) := ⟨8388608, -13, by decide +kernel, by decide, by rw [Flt.place32]; decide +kernel⟩
theorem fin_fin1 {x : Nat} (h : Flt.fin x = true) : fin1 x = true := by
  obtain ⟨s, u, hx, hu⟩ := Flt.fin_of h
  have hu2 : u ≤ 2 ^ 159 := Nat.le_trans hu (by unfold Flt.LIM; decide +kernel)
  unfold fin1 lo1 hi1
  rw [Flt.le_iff num_nk hx, Flt.le_iff hx num_k]
  have h1 : Flt.sg true (2 ^ 159) ≤ Flt.sg s u := by
    unfold Flt.sg; cases s <;> simp only [Bool.false_eq_true, if_true, if_false] <;> omega
  have h2 : Flt.sg s u ≤ Flt.sg false (2 ^ 159) := by
    unfold Flt.sg; cases s <;> simp only [Bool.false_eq_true, if_true, if_false] <;> omega
  rw [decide_eq_true h1, decide_eq_true h2]; rfl
theorem PC.enc {c : C3} {a b d : Int} (h : PC c a b d) : ∀ x ∈ enc4 c, Flt.fin x = true := by
  obtain ⟨h1, h2, h3, ha, hb, hd⟩ := h
  intro x hx
  simp only [enc4, List.mem_cons, List.not_mem_nil, or_false] at hx
  rcases hx with rfl | rfl | rfl | rfl
  · exact (sx_addv h1 h2 (by omega)).fin (by omega)
  · exact (sx_addv h1 h3.neg (by omega)).fin (by omega)
  · exact (sx_addv h1 h2.neg (by omega)).fin (by omega)
  · exact (sx_addv h1 h3 (by omega)).fin (by omega)
theorem PlainR.enc {cs : List C3} (h : PlainR cs) : ∀ x ∈ enc cs, fin1 x = true := by
  intro x hx
  obtain ⟨c, hc, hx⟩ := List.mem_flatMap.1 hx
  obtain ⟨a, b, d, hp⟩ := h c hc
  exact fin_fin1 (hp.enc x hx)
theorem PlainR.odd {cs : List C3} (h : PlainR cs) (o : Bool) : PlainR (oddRow cs o) := by
  unfold oddRow
  split
  · exact h.cj
  · exact h
theorem bursts_even : enc (oddRow (bcells 4) false) = [m16, m16, p16, p16, m16, m16, p16, p16, m16, m16, p16, p16, m16, m16, p16, p16] := by decide +kernel
theorem bursts_odd : enc (oddRow (bcells 4) true) = [m16, p16, p16, m16, m16, p16, p16, m16, m16, p16, p16, m16, m16, p16, p16, m16] := by decide +kernel
theorem bursts_fin (odd : Bool) : ∀ x ∈ enc (oddRow (bcells 4) odd), fin1 x = true := by
  cases odd
  · rw [bursts_even]; decide +kernel
  · rw [bursts_odd]; decide +kernel
theorem lineL_ok {cs : List C3} (h : PlainR cs) (h1 : 1 ≤ cs.length) (h2 : cs.length ≤ 64) (odd : Bool) : lineOk (lineL cs odd) = true := by
  rw [lineOk_yes (lineLen_yes ⟨by rw [lineL_len]; omega, by rw [lineL_len]; omega, by rw [lineL_len]; omega⟩)]
  refine List.all_eq_true.2 fun x hx => ?_
  unfold lineL at hx
  rw [List.mem_append, List.mem_append] at hx
  rcases hx with (hx | hx) | hx
  · obtain ⟨_, rfl⟩ := List.mem_replicate.1 hx
    decide +kernel
  · exact bursts_fin odd x hx
  · exact (h.odd odd).enc x hx
end Go.Proofs.YtobpnoiienpipaaGreat
