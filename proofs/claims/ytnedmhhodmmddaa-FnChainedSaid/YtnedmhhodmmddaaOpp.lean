/-
  What is proved: sums, differences and products of numbers of opposite signs have opposite signs.
  Conditions: none (two NaNs count as opposite, and so do two zeros).
-/
import Derived.Test.YtnedmhhodmmddaaFl
namespace Go.Proofs.Ytnedmhhodmmddaa
set_option linter.unusedVariables false
open Ieee

/-- Two data that are each other's negatives; of zeros the signs may be any. -/
def OppD : Datum → Datum → Prop
  | .nan .., .nan .. => True
  | .infinity s, .infinity t => t = !s
  | .number s m e, .number t n e' => e = e' ∧ m = n ∧ (m = 0 ∨ t = !s)
  | _, _ => False
def Opp (x y : Nat) : Prop := OppD (single.read x) (single.read y)
theorem cut_sign (s t : Bool) (n d : Nat) : Toward.even.cut s n d = Toward.even.cut t n d := rfl
theorem opp_word (s t : Bool) (r : Nat) (h : r < 2 ^ 31) (hs : r = 0 ∨ t = !s) : OppD (single.read (single.word s r)) (single.read (single.word t r)) := by
  rw [Flt.read_word single s r h, Flt.read_word single t r h]
  by_cases h1 : r < single.binade
  · rw [if_pos h1, if_pos h1]; exact ⟨rfl, rfl, hs⟩
  · rw [if_neg h1, if_neg h1]
    have h0 : t = !s := hs.elim (fun e => by subst e; exact absurd (show 0 < single.binade by decide) h1) id
    by_cases h2 : r < single.infRung
    · rw [if_pos h2, if_pos h2]; exact ⟨rfl, rfl, .inr h0⟩
    · rw [if_neg h2, if_neg h2]
      by_cases h3 : r = single.infRung
      · rw [if_pos h3, if_pos h3]; exact h0
      · rw [if_neg h3, if_neg h3]; trivial
theorem opp_nearest (s t : Bool) (mag : Nat) (place : Int) (hs : mag = 0 ∨ t = !s) : OppD (single.read (single.nearest s mag place)) (single.read (single.nearest t mag place)) := by
  unfold Format.nearest
  by_cases h : mag = 0
  · rw [if_pos h, if_pos h]; exact opp_word s t 0 (by decide) (.inl rfl)
  · rw [if_neg h, if_neg h]
    have h0 : t = !s := hs.elim (fun e => absurd e h) id
    simp only [cut_sign t s]
    refine opp_word s t _ (Nat.lt_of_le_of_lt (Nat.min_le_right _ _) single.infRung_lt) (.inr h0)
/-- Both fail, or both answer opposite data. -/
def OppO : Option Datum → Option Datum → Prop
  | none, none => True
  | some a, some b => OppD a b ∧ a.isNaN = false
  | _, _ => False
theorem opp_write {a b : Option Datum} (h : OppO a b) : (a.map single.write = none ∧ b.map single.write = none) ∨ ∃ x y, a.map single.write = some x ∧ b.map single.write = some y ∧ Opp x y := by
  cases a with
  | none => cases b with
    | none => exact .inl ⟨rfl, rfl⟩
    | some d => exact h.elim
  | some c => cases b with
    | none => exact h.elim
    | some d =>
      refine .inr ⟨_, _, rfl, rfl, ?_⟩
      obtain ⟨h', hn⟩ : OppD c d ∧ c.isNaN = false := h
      cases c <;> cases d <;> try exact h'.elim
      · obtain ⟨rfl, rfl, h3⟩ := h'
        exact opp_nearest _ _ _ _ h3
      · rename_i s t
        have e : t = !s := h'
        subst e
        exact opp_word _ _ _ (by decide) (.inr rfl)
      · cases hn
theorem signed_opp {s t : Bool} {m : Nat} (k : Nat) (h : m = 0 ∨ t = !s) : signed t m k = - signed s m k := by
  unfold signed
  rcases h with rfl | rfl
  · cases s <;> cases t <;> simp
  · cases s <;> simp
theorem opp_total {s t u v : Bool} {a b : Int} (e : b = -a) (base : Int) : OppD (.number (if a = 0 then s && t else decide (a < 0)) a.natAbs base) (.number (if b = 0 then u && v else decide (b < 0)) b.natAbs base) := by
  subst e
  refine ⟨rfl, by simp, ?_⟩
  by_cases h : a = 0
  · left; rw [h]; rfl
  · right
    rw [if_neg h, if_neg (by omega)]
    by_cases h1 : a < 0
    · rw [decide_eq_true h1, decide_eq_false (by omega)]; rfl
    · rw [decide_eq_false h1, decide_eq_true (by omega)]; rfl
theorem opp_sum {a a' b b' : Datum} (h : OppD a a') (h' : OppD b b') : OppO (a.sum b) (a'.sum b') := by
  cases a <;> cases a' <;> (try exact h.elim) <;> cases b <;> cases b' <;> (try exact h'.elim)
  · rename_i s m i s' m' i' t n j t' n' j'
    obtain ⟨rfl, rfl, h3⟩ := h
    obtain ⟨rfl, rfl, h4⟩ := h'
    refine ⟨opp_total (a := signed s m (i - min i j).toNat + signed t n (j - min i j).toNat) ?_ _, rfl⟩
    rw [signed_opp _ h3, signed_opp _ h4]; omega
  · exact ⟨h', rfl⟩
  · trivial
  · exact ⟨h, rfl⟩
  · rename_i s s' t t'
    have e : s' = !s := h
    have e' : t' = !t := h'
    subst e e'
    by_cases hst : s = t
    · subst hst
      show OppO (if s = s then _ else _) (if (!s) = (!s) then _ else _)
      rw [if_pos rfl, if_pos rfl]
      exact ⟨rfl, rfl⟩
    · show OppO (if s = t then _ else _) (if (!s) = (!t) then _ else _)
      rw [if_neg hst, if_neg (by cases s <;> cases t <;> simp_all)]
      trivial
  · trivial
  · trivial
  · trivial
  · trivial
theorem opp_opp {a a' : Datum} (h : OppD a a') : OppD a.opposite a'.opposite := by
  cases a <;> cases a' <;> (try exact h.elim)
  · obtain ⟨rfl, rfl, h3⟩ := h
    exact ⟨rfl, rfl, h3.imp id (fun e => by rw [e])⟩
  · have e := h
    show _ = _
    rw [show _ = _ from e]
  · trivial
theorem opp_self (a : Datum) : OppD a a.opposite := by
  cases a
  · exact ⟨rfl, rfl, .inr rfl⟩
  · exact rfl
  · trivial
theorem OppD.symm {a b : Datum} (h : OppD a b) : OppD b a := by
  cases a <;> cases b <;> (try exact h.elim)
  · obtain ⟨rfl, rfl, h3⟩ := h
    exact ⟨rfl, rfl, h3.imp id (fun e => by rw [e]; simp)⟩
  · have e : _ = !_ := h
    show _ = !_
    rw [e]; simp
  · trivial
theorem opp_product {a a' c : Datum} (h : OppD a a') : OppO (a.product c) (a'.product c) := by
  cases a <;> cases a' <;> (try exact h.elim) <;> cases c
  · rename_i s m i s' m' i' t n j
    obtain ⟨rfl, rfl, h3⟩ := h
    refine ⟨⟨rfl, rfl, ?_⟩, rfl⟩
    rcases h3 with rfl | rfl
    · left; simp
    · right; cases s <;> cases t <;> rfl
  · rename_i s m i s' m' i' t
    obtain ⟨rfl, rfl, h3⟩ := h
    by_cases hm : m = 0
    · subst hm; simp [Datum.product]; trivial
    · have e : s' = !s := h3.elim (fun e => absurd e hm) id
      subst e
      simp only [Datum.product, if_neg hm]
      exact ⟨by cases s <;> cases t <;> rfl, rfl⟩
  · trivial
  · rename_i s s' t n j
    have e : s' = !s := h
    subst e
    by_cases hn : n = 0
    · subst hn; simp [Datum.product]; trivial
    · simp only [Datum.product, if_neg hn]
      exact ⟨by cases s <;> cases t <;> rfl, rfl⟩
  · rename_i s s' t
    have e : s' = !s := h
    subst e
    exact ⟨by cases s <;> cases t <;> rfl, rfl⟩
  · trivial
  · trivial
  · trivial
  · trivial
theorem opp_nan {x y : Nat} (hx : isN x = true) (hy : isN y = true) : Opp x y := by
  unfold isN at hx hy
  unfold Opp
  cases h1 : single.read x <;> cases h2 : single.read y <;> rw [h1] at hx <;> rw [h2] at hy <;> simp [Datum.isNaN] at hx hy
  trivial
theorem opp_res {op op' : BinOp} {x y x' y' r r' : Nat} {a b : Option Datum} (h : OppO a b) (ha : floatBits op .f32 x y = a.map single.write) (hb : floatBits op' .f32 x' y' = b.map single.write)
    (hr : Res op x y r) (hr' : Res op' x' y' r') : Opp r r' := by
  rcases opp_write h with ⟨h1, h2⟩ | ⟨p, q, h1, h2, h3⟩
  · rcases hr with hr | ⟨_, hr⟩
    · rw [ha, h1] at hr; cases hr
    · rcases hr' with hr' | ⟨_, hr'⟩
      · rw [hb, h2] at hr'; cases hr'
      · exact opp_nan hr hr'
  · rcases hr with hr | ⟨hr, _⟩
    · rcases hr' with hr' | ⟨hr', _⟩
      · rw [ha, h1] at hr
        rw [hb, h2] at hr'
        cases hr
        cases hr'
        exact h3
      · rw [hb, h2] at hr'; cases hr'
    · rw [ha, h1] at hr; cases hr
theorem Opp.symm {x y : Nat} (h : Opp x y) : Opp y x := OppD.symm h
theorem sum_comm (a b : Datum) : a.sum b = b.sum a := by
  cases a <;> cases b <;> simp only [Datum.sum]
  · rename_i s m i t n j
    rw [Int.min_comm, Int.add_comm, Bool.and_comm]
  · rename_i s t
    by_cases h : s = t
    · subst h; rfl
    · rw [if_neg h, if_neg (fun e => h e.symm)]
theorem product_comm (a b : Datum) : a.product b = b.product a := by
  cases a <;> cases b <;> simp only [Datum.product, Bool.xor_comm, Nat.mul_comm, Int.add_comm]
theorem Res.opp_swap {x y r r' : Nat} (h : Res .sub x y r) (h' : Res .sub y x r') : Opp r r' := by
  refine opp_res (a := (single.read x).sum (single.read y).opposite) (b := (single.read y).sum (single.read x).opposite) ?_ rfl rfl h h'
  rw [sum_comm (single.read y)]
  exact opp_sum (opp_self _) (OppD.symm (opp_self _))
theorem Res.opp_sub {x y x' y' r r' : Nat} (hx : Opp x x') (hy : Opp y y') (h : Res .sub x y r) (h' : Res .sub x' y' r') : Opp r r' :=
  opp_res (a := (single.read x).sum (single.read y).opposite) (b := (single.read x').sum (single.read y').opposite) (opp_sum hx (opp_opp hy)) rfl rfl h h'
theorem Res.opp_mul {x x' y r r' : Nat} (hx : Opp x x') (h : Res .mul x y r) (h' : Res .mul x' y r') : Opp r r' :=
  opp_res (a := (single.read x).product (single.read y)) (b := (single.read x').product (single.read y)) (opp_product hx) rfl rfl h h'
theorem Res.mul_comm {x y r : Nat} (h : Res .mul x y r) : Res .mul y x r := by
  have e : floatBits .mul .f32 x y = floatBits .mul .f32 y x := by
    show single.mul x y = single.mul y x
    unfold Format.mul
    rw [product_comm]
  unfold Res at h ⊢
  rwa [← e]
theorem Res.add_comm {x y r : Nat} (h : Res .add x y r) : Res .add y x r := by
  unfold Res at h ⊢
  rwa [Flt.add_comm32]
/-- x is less than 0 exactly if its opposite is greater. -/
theorem Opp.lt {x y : Nat} (h : Opp x y) : (single.order x 0 == some .lt) = (single.order y 0 == some .gt) := by
  unfold Opp at h
  have h0 := Flt.read_zero
  unfold Format.order
  rw [h0]
  cases hx : single.read x <;> cases hy : single.read y <;> rw [hx, hy] at h <;> (try exact h.elim)
  · rename_i s m e t n e'
    obtain ⟨rfl, rfl, h3⟩ := h
    simp only [Datum.order, Flt.signed_sg]
    have z : Flt.sg false (0 * 2 ^ ((-149 : Int) - min e (-149)).toNat) = 0 := by simp [Flt.sg]
    rw [z]
    have o : Flt.sg t (m * 2 ^ (e - min e (-149)).toNat) = - Flt.sg s (m * 2 ^ (e - min e (-149)).toNat) := by
      rcases h3 with rfl | rfl
      · simp [Flt.sg]
      · exact Flt.sg_not _ _
    rw [o]
    generalize Flt.sg s (m * 2 ^ (e - min e (-149)).toNat) = k
    rcases (by omega : k < 0 ∨ k = 0 ∨ 0 < k) with hk | hk | hk
    · rw [Flt.cmp_lt hk, Flt.cmp_gt (by omega)]; rfl
    · subst hk; rfl
    · rw [Flt.cmp_gt hk, Flt.cmp_lt (by omega)]; rfl
  · rename_i s t
    have e : t = !s := h
    subst e
    cases s <;> rfl
  · rfl
theorem Res.nan {op : BinOp} {x y r : Nat} (h : isN x = true ∨ isN y = true) (hr : Res op x y r) : isN r = true := by
  rcases hr with hr | ⟨_, hr⟩
  · rw [op_nan h] at hr; cases hr
  · exact hr
theorem Res.opp_mul_sm {x x' y y' r r' : Nat} (hx : Opp x x') (hy : Sm y y') (h : Res .mul x y r) (h' : Res .mul x' y' r') : Opp r r' := by
  rcases hy with rfl | ⟨h1, h2⟩
  · exact Res.opp_mul hx h h'
  · exact opp_nan (Res.nan (.inr h1) h) (Res.nan (.inr h2) h')
/-- What is compared with 0 to tell which of two lines is odd: a + bi and c + di are the colours of their bursts. -/
def SwX (a b c d x : Nat) : Prop := ∃ d1 d2 s1 s2 m1 m2, Res .sub a c d1 ∧ Res .sub b d d2 ∧ Res .add a c s1 ∧ Res .add b d s2 ∧ Res .mul d2 s1 m1 ∧ Res .mul d1 s2 m2 ∧ Res .sub m1 m2 x
theorem SwX.same {a b c d x x' : Nat} (h : SwX a b c d x) (h' : SwX a b c d x') : Sm x x' := by
  obtain ⟨d1, d2, s1, s2, m1, m2, h1, h2, h3, h4, h5, h6, h7⟩ := h
  obtain ⟨e1, e2, t1, t2, n1, n2, g1, g2, g3, g4, g5, g6, g7⟩ := h'
  have k1 := Res.same (Sm.refl _) (Sm.refl _) h1 g1
  have k2 := Res.same (Sm.refl _) (Sm.refl _) h2 g2
  have k3 := Res.same (Sm.refl _) (Sm.refl _) h3 g3
  have k4 := Res.same (Sm.refl _) (Sm.refl _) h4 g4
  exact Res.same (Res.same k2 k3 h5 g5) (Res.same k1 k4 h6 g6) h7 g7
theorem SwX.turned {a b c d x x' : Nat} (h : SwX a b c d x) (h' : SwX c d a b x') : Opp x x' := by
  obtain ⟨d1, d2, s1, s2, m1, m2, h1, h2, h3, h4, h5, h6, h7⟩ := h
  obtain ⟨e1, e2, t1, t2, n1, n2, g1, g2, g3, g4, g5, g6, g7⟩ := h'
  have k1 := Res.opp_swap h1 g1
  have k2 := Res.opp_swap h2 g2
  have k3 := Res.same (Sm.refl _) (Sm.refl _) h3 g3.add_comm
  have k4 := Res.same (Sm.refl _) (Sm.refl _) h4 g4.add_comm
  exact Res.opp_sub (Res.opp_mul_sm k2 k3 h5 g5) (Res.opp_mul_sm k1 k4 h6 g6) h7 g7
/-- Which line is odd. -/
def swing (x : Nat) : Int := if (single.order x 0 == some .lt) = true then 1 else if (single.order x 0 == some .gt) = true then -1 else 0
theorem order_one (x : Nat) : ¬((single.order x 0 == some .lt) = true ∧ (single.order x 0 == some .gt) = true) := by
  rintro ⟨h1, h2⟩
  have e1 := eq_of_beq h1
  have e2 := eq_of_beq h2
  rw [e1] at e2; cases e2
theorem order_sm {x y : Nat} (h : Sm x y) : single.order x 0 = single.order y 0 := by
  rcases h with rfl | ⟨h1, h2⟩
  · rfl
  · rw [Flt.order_nan (.inl h1), Flt.order_nan (.inl h2)]
theorem swing_sm {x y : Nat} (h : Sm x y) : swing x = swing y := by unfold swing; rw [order_sm h]
theorem Opp.gt {x y : Nat} (h : Opp x y) : (single.order x 0 == some .gt) = (single.order y 0 == some .lt) := h.symm.lt.symm
theorem swing_opp {x y : Nat} (h : Opp x y) : swing x = - swing y := by
  unfold swing
  rw [h.lt, h.gt]
  have k := order_one y
  by_cases h1 : (single.order y 0 == some .lt) = true <;> by_cases h2 : (single.order y 0 == some .gt) = true
  · exact absurd ⟨h1, h2⟩ k
  · rw [if_neg h2, if_pos h1, if_pos h1]
  · rw [if_pos h2, if_neg h1, if_pos h2]; rfl
  · rw [if_neg h2, if_neg h1, if_neg h1, if_neg h2]; rfl
end Go.Proofs.Ytnedmhhodmmddaa
