/-
  What is proved: sums, differences and products of numbers of opposite signs have opposite signs.
  Conditions: none (two NaNs count as opposite, and so do two zeros).
-/
import Derived.Test.YtobpnoiienpipaaGreatPz02
import Derived.Test.YtobpnoiienpipaaGreatPz01
namespace Go.Proofs.YtobpnoiienpipaaGreat
set_option linter.unusedVariables false
open Ieee

/-- Two data that are each other's negatives; of zeros the signs may be any. -/
def OppD : Datum → Datum → Prop
  | .nan .., .nan .. => True
  | .infinity s, .infinity t => t = !s
  | .number s m e, .number t n e' => e = e' ∧ m = n ∧ (m = 0 ∨ t = !s)
  | _, _ => False
def Opp (x y : Nat) : Prop := OppD (single.read x) (single.read y)
theorem OppD.symm {a b : Datum} (h : OppD a b) : OppD b a := by
  cases a <;> cases b <;> (try exact h.elim)
  · obtain ⟨rfl, rfl, h3⟩ := h
    exact ⟨rfl, rfl, h3.imp id (fun e => by rw [e]; simp)⟩
  · have e : _ = !_ := h
    show _ = !_
    rw [e]; simp
  · trivial
theorem Opp.symm {x y : Nat} (h : Opp x y) : Opp y x := OppD.symm h
theorem product_comm (a b : Datum) : a.product b = b.product a := by
  cases a <;> cases b <;> simp only [Datum.product, Bool.xor_comm, Nat.mul_comm, Int.add_comm]
theorem Res.mul_comm {x y r : Nat} (h : Res .mul x y r) : Res .mul y x r := by
  have e : floatBits .mul .f32 x y = floatBits .mul .f32 y x := by
    show single.mul x y = single.mul y x
    unfold Format.mul
    rw [product_comm]
  unfold Res at h ⊢
  rwa [← e]
theorem Res.add_comm {x y r : Nat} (h : Res .add x y r) : Res .add y x r := by
  unfold Res at h ⊢
  rwa [Flt.add_comm32]
/-- x is less than 0 exactly if its opposite is greater. -/
theorem Opp.lt {x y : Nat} (h : Opp x y) : (single.order x 0 == some .lt) = (single.order y 0 == some .gt) := by
  unfold Opp at h
  have h0 := Flt.read_zero
  unfold Format.order
  rw [h0]
  cases hx : single.read x <;> cases hy : single.read y <;> rw [hx, hy] at h <;> (try exact h.elim)
  · rename_i s m e t n e'
    obtain ⟨rfl, rfl, h3⟩ := h
    simp only [Datum.order, Flt.signed_sg]
    have z : Flt.sg false (0 * 2 ^ ((-149 : Int) - min e (-149)).toNat) = 0 := by simp [Flt.sg]
    rw [z]
    have o : Flt.sg t (m * 2 ^ (e - min e (-149)).toNat) = - Flt.sg s (m * 2 ^ (e - min e (-149)).toNat) := by
      rcases h3 with rfl | rfl
      · simp [Flt.sg]
      · exact Flt.sg_not _ _
    rw [o]
    generalize Flt.sg s (m * 2 ^ (e - min e (-149)).toNat) = k
    rcases (by omega : k < 0 ∨ k = 0 ∨ 0 < k) with hk | hk | hk
    · rw [Flt.cmp_lt hk, Flt.cmp_gt (by omega)]; rfl
    · subst hk; rfl
    · rw [Flt.cmp_gt hk, Flt.cmp_lt (by omega)]; rfl
  · rename_i s t
    have e : t = !s := h
    subst e
    cases s <;> rfl
  · rfl
theorem Res.nan {op : BinOp} {x y r : Nat} (h : isN x = true ∨ isN y = true) (hr : Res op x y r) : isN r = true := by
  rcases hr with hr | ⟨_, hr⟩
  · rw [op_nan h] at hr; cases hr
  · exact hr
/-- What is compared with 0 to tell which of two lines is odd: a + bi and c + di are the colours of their bursts. -/
def SwX (a b c d x : Nat) : Prop := ∃ d1 d2 s1 s2 m1 m2, Res .sub a c d1 ∧ Res .sub b d d2 ∧ Res .add a c s1 ∧ Res .add b d s2 ∧ Res .mul d2 s1 m1 ∧ Res .mul d1 s2 m2 ∧ Res .sub m1 m2 x
theorem SwX.same {a b c d x x' : Nat} (h : SwX a b c d x) (h' : SwX a b c d x') : Sm x x' := by
  obtain ⟨d1, d2, s1, s2, m1, m2, h1, h2, h3, h4, h5, h6, h7⟩ := h
  obtain ⟨e1, e2, t1, t2, n1, n2, g1, g2, g3, g4, g5, g6, g7⟩ := h'
  have k1 := Res.same (Sm.refl _) (Sm.refl _) h1 g1
  have k2 := Res.same (Sm.refl _) (Sm.refl _) h2 g2
  have k3 := Res.same (Sm.refl _) (Sm.refl _) h3 g3
  have k4 := Res.same (Sm.refl _) (Sm.refl _) h4 g4
  exact Res.same (Res.same k2 k3 h5 g5) (Res.same k1 k4 h6 g6) h7 g7
/-- Which line is odd. -/
def swing (x : Nat) : Int := if (single.order x 0 == some .lt) = true then 1 else if (single.order x 0 == some .gt) = true then -1 else 0
theorem Opp.gt {x y : Nat} (h : Opp x y) : (single.order x 0 == some .gt) = (single.order y 0 == some .lt) := h.symm.lt.symm
end Go.Proofs.YtobpnoiienpipaaGreat

/-
  What is proved: sums, differences, products of single floats that are not too large are finite, and so are their quotients by 4 and by -32.
  Conditions: those that each fact names.
-/
namespace Go.Proofs.YtobpnoiienpipaaGreat.Flt
set_option linter.unusedVariables false
open Ieee

/-- A number of an amount of less than 2 to the k, counted in units of the least place. -/
def Mag (k : Nat) (x : Nat) : Prop := ∃ s m e, single.read x = .number s m e ∧ (m = 0 ∨ e + m.log2 + 150 ≤ (k : Int))
theorem Mag.mono {k l x : Nat} (h : Mag k x) (hkl : k ≤ l) : Mag l x := by
  obtain ⟨s, m, e, h1, h2⟩ := h
  exact ⟨s, m, e, h1, h2.imp id (fun h => by omega)⟩
theorem Mag.ok {k x : Nat} (h : Mag k x) : (single.read x).isNaN = false := by
  obtain ⟨s, m, e, h1, _⟩ := h
  rw [h1]; rfl
theorem scaled_lt {m a b : Nat} (h : m = 0 ∨ m.log2 + 1 + a ≤ b) : m * 2 ^ a < 2 ^ b := by
  rcases h with rfl | h
  · rw [Nat.zero_mul]; exact two_pos _
  · have h1 : m * 2 ^ a < 2 ^ (m.log2 + 1) * 2 ^ a := Nat.mul_lt_mul_of_pos_right (lt_log m) (two_pos a)
    rw [← Nat.pow_add] at h1
    exact Nat.lt_of_lt_of_le h1 (Nat.pow_le_pow_right (by decide) h)
theorem log_lt {m b : Nat} (h : m < 2 ^ b) (h0 : m ≠ 0) : m.log2 < b := (Nat.log2_lt h0).2 h
theorem mag_num {x u k : Nat} {s : Bool} (h : Num single x s u) (hu : u ≤ 2 ^ k) : Mag (k + 1) x := by
  obtain ⟨m, e, h1, h2, h3⟩ := h
  refine ⟨s, m, e, h1, ?_⟩
  by_cases h0 : m = 0
  · exact .inl h0
  · right
    rw [place32] at h2 h3
    have h4 : 2 ^ m.log2 ≤ m := Nat.log2_self_le h0
    have h5 : 2 ^ m.log2 * 2 ^ (e - -149).toNat ≤ 2 ^ k := Nat.le_trans (Nat.mul_le_mul_right _ h4) (by rw [← h3]; exact hu)
    rw [← Nat.pow_add] at h5
    have h6 := (Nat.pow_le_pow_iff_right (by decide : 1 < 2)).1 h5
    omega
theorem nearest_mag (s : Bool) (mag : Nat) (place : Int) (K : Nat) (hK : K ≤ 275) (h : mag = 0 ∨ place + mag.log2 + 150 ≤ (K : Int)) : Mag (K + 1) (single.nearest s mag place) := by
  by_cases hm : mag = 0
  · refine mag_num (s := s) (u := 0) ?_ (Nat.zero_le _)
    have e : single.nearest s mag place = single.word s 0 := by unfold Format.nearest; rw [if_pos hm]
    rw [e]
    exact num_zero single s (by rw [inf32]; decide)
  · have h := h.resolve_left hm
    obtain ⟨last, hl⟩ : ∃ last : Int, last = max (place + mag.log2 - 23) (-149) := ⟨_, rfl⟩
    obtain ⟨c, hc⟩ : ∃ c, c = (place - last).toNat := ⟨_, rfl⟩
    obtain ⟨d, hd⟩ : ∃ d, d = (last - place).toNat := ⟨_, rfl⟩
    have h1 : Toward.even.cut s (mag * 2 ^ c) d ≤ 2 ^ 24 := by
      apply cut_le
      rw [← Nat.pow_add]
      exact Nat.le_of_lt (scaled_lt (.inr (by omega)))
    have h2 : Toward.even.cut s (mag * 2 ^ c) d ≤ 2 ^ (K - (last + 149).toNat) := by
      apply cut_le
      rw [← Nat.pow_add]
      exact Nat.le_of_lt (scaled_lt (.inr (by omega)))
    have h3 := num_nearest single s mag place hm last (by rw [hl, frac32, place32]; rfl) c d hc hd (by
      rw [place32, inf32, bin32]
      have h4 : (last - -149).toNat ≤ 251 := by omega
      have h5 : (last - -149).toNat * 2 ^ 23 ≤ 251 * 2 ^ 23 := Nat.mul_le_mul_right _ h4
      omega)
    refine mag_num h3 ?_
    rw [place32]
    have h6 : Toward.even.cut s (mag * 2 ^ c) d * 2 ^ (last - -149).toNat ≤ 2 ^ (K - (last + 149).toNat) * 2 ^ (last - -149).toNat := Nat.mul_le_mul_right _ h2
    rw [← Nat.pow_add, show K - (last + 149).toNat + (last - -149).toNat = K by omega] at h6
    exact h6
theorem fin_mag {x : Nat} (h : fin x = true) : Mag 158 x := by
  obtain ⟨s, u, h1, h2⟩ := fin_of h
  exact mag_num h1 (by unfold LIM at h2; exact Nat.le_trans h2 (by decide))
theorem sum_mag {k : Nat} (hk : k ≤ 270) {s t : Bool} {m n : Nat} {i j : Int} (h1 : m = 0 ∨ i + m.log2 + 150 ≤ (k : Int)) (h2 : n = 0 ∨ j + n.log2 + 150 ≤ (k : Int)) :
    ∃ d, (Datum.number s m i).sum (.number t n j) = some d ∧ Mag (k + 2) (single.write d) := by
  refine ⟨_, rfl, ?_⟩
  show Mag (k + 2) (single.nearest _ _ _)
  refine nearest_mag _ _ _ (k + 1) (by omega) ?_
  rw [signed_sg, signed_sg]
  generalize hb : min i j = base
  by_cases h0 : (sg s (m * 2 ^ (i - base).toNat) + sg t (n * 2 ^ (j - base).toNat)).natAbs = 0
  · exact .inl h0
  · right
    have hle : (sg s (m * 2 ^ (i - base).toNat) + sg t (n * 2 ^ (j - base).toNat)).natAbs ≤ m * 2 ^ (i - base).toNat + n * 2 ^ (j - base).toNat := by
      have := Int.natAbs_add_le (sg s (m * 2 ^ (i - base).toNat)) (sg t (n * 2 ^ (j - base).toNat))
      rw [natAbs_sg, natAbs_sg] at this
      exact this
    generalize (sg s (m * 2 ^ (i - base).toNat) + sg t (n * 2 ^ (j - base).toNat)).natAbs = T at *
    have hE : ∃ E : Nat, (E : Int) = k - 149 - base := by
      rcases h1 with rfl | h1
      · rcases h2 with rfl | h2
        · simp at hle; omega
        · exact ⟨((k : Int) - 149 - base).toNat, by omega⟩
      · exact ⟨((k : Int) - 149 - base).toNat, by omega⟩
    obtain ⟨E, hE⟩ := hE
    have l1 : m * 2 ^ (i - base).toNat < 2 ^ E := scaled_lt (h1.imp id (fun h => by omega))
    have l2 : n * 2 ^ (j - base).toNat < 2 ^ E := scaled_lt (h2.imp id (fun h => by omega))
    have l3 : T < 2 ^ (E + 1) := by rw [Nat.pow_succ]; omega
    have l4 := log_lt l3 h0
    omega
def subv (x y : Nat) : Nat := (floatBits .sub .f32 x y).getD 0
def sumv (x y : Nat) : Nat := (floatBits .add .f32 x y).getD 0
def mulv (x y : Nat) : Nat := (floatBits .mul .f32 x y).getD 0
def quov (x y : Nat) : Nat := (floatBits .quo .f32 x y).getD 0
theorem Mag.add {k x y : Nat} (hx : Mag k x) (hy : Mag k y) (hk : k ≤ 270) : floatBits .add .f32 x y = some (sumv x y) ∧ Mag (k + 2) (sumv x y) := by
  obtain ⟨s, m, i, a1, a2⟩ := hx
  obtain ⟨t, n, j, b1, b2⟩ := hy
  obtain ⟨d, hd, hm⟩ := sum_mag hk (s := s) (t := t) a2 b2
  have e : floatBits .add .f32 x y = some (single.write d) := by
    show single.add x y = _
    unfold Format.add
    rw [a1, b1, hd]; rfl
  unfold sumv
  rw [e]
  exact ⟨rfl, hm⟩
theorem Mag.sub {k x y : Nat} (hx : Mag k x) (hy : Mag k y) (hk : k ≤ 270) : floatBits .sub .f32 x y = some (subv x y) ∧ Mag (k + 2) (subv x y) := by
  obtain ⟨s, m, i, a1, a2⟩ := hx
  obtain ⟨t, n, j, b1, b2⟩ := hy
  obtain ⟨d, hd, hm⟩ := sum_mag hk (s := s) (t := !t) a2 b2
  have e : floatBits .sub .f32 x y = some (single.write d) := by
    show single.sub x y = _
    unfold Format.sub
    rw [a1, b1]
    show ((Datum.number s m i).sum (.number (!t) n j)).map single.write = _
    rw [hd]; rfl
  unfold subv
  rw [e]
  exact ⟨rfl, hm⟩
theorem Mag.mul {k l x y : Nat} (hx : Mag k x) (hy : Mag l y) (hk : k + l ≤ 420) (hl : 149 ≤ k + l) : floatBits .mul .f32 x y = some (mulv x y) ∧ Mag (k + l - 148) (mulv x y) := by
  obtain ⟨s, m, i, a1, a2⟩ := hx
  obtain ⟨t, n, j, b1, b2⟩ := hy
  have e : floatBits .mul .f32 x y = some (single.nearest (s ^^ t) (m * n) (i + j)) := by
    show single.mul x y = _
    unfold Format.mul
    rw [a1, b1]; rfl
  unfold mulv
  rw [e]
  refine ⟨rfl, ?_⟩
  have := nearest_mag (s ^^ t) (m * n) (i + j) (k + l - 149) (by omega) (by
    by_cases h0 : m * n = 0
    · exact .inl h0
    · right
      have hm : m ≠ 0 := fun e => h0 (by rw [e, Nat.zero_mul])
      have hn : n ≠ 0 := fun e => h0 (by rw [e, Nat.mul_zero])
      have h1 := a2.resolve_left hm
      have h2 := b2.resolve_left hn
      have h3 : m * n < 2 ^ (m.log2 + 1 + (n.log2 + 1)) := by
        rw [Nat.pow_add]
        exact Nat.mul_lt_mul'' (lt_log m) (lt_log n)
      have h4 := log_lt h3 h0
      omega)
  exact this.mono (by omega)
theorem Mag.quo {k x c : Nat} {t : Bool} {j : Int} (hc : single.read c = .number t 8388608 j) (hj : -23 ≤ j) (hx : Mag k x) (hk : k ≤ 270) : floatBits .quo .f32 x c = some (quov x c) ∧ Mag (k + 1) (quov x c) := by
  obtain ⟨s, m, i, a1, a2⟩ := hx
  have hb := read_bound a1
  rw [frac32] at hb
  have e : floatBits .quo .f32 x c = some (single.nearest (s ^^ t) (2 * ((m <<< (25 + 23 - m.log2)) / 8388608) + ((m <<< (25 + 23 - m.log2)) % 8388608 != 0).toNat) (i - j - ((25 + 23 - m.log2 : Nat) : Int) - 1)) := by
    show single.div x c = _
    unfold Format.div
    rw [a1, hc]
    simp only [Datum.quotient, frac32, Option.map_some]
    rw [if_neg (by decide)]
    rfl
  unfold quov
  rw [e]
  refine ⟨rfl, nearest_mag _ _ _ k (by omega) ?_⟩
  rw [shl]
  by_cases h0 : m = 0
  · left; subst h0; simp
  · right
    have h1 := a2.resolve_left h0
    have h2 : m.log2 < 24 := log_lt hb h0
    have h3 : m * 2 ^ (25 + 23 - m.log2) < 2 ^ 49 := scaled_lt (.inr (by omega))
    generalize m * 2 ^ (25 + 23 - m.log2) = D at *
    have h4 : 2 * (D / 8388608) + (D % 8388608 != 0).toNat < 2 ^ 27 := by
      have : (D % 8388608 != 0).toNat ≤ 1 := by cases (D % 8388608 != 0) <;> decide
      omega
    generalize 2 * (D / 8388608) + (D % 8388608 != 0).toNat = q at *
    by_cases hq : q = 0
    · subst hq
      have : (0 : Nat).log2 = 0 := by decide
      rw [this]; omega
    · have h5 := log_lt h4 hq
      omega
theorem read_four' : single.read 1082130432 = .number false 8388608 (-21) := by decide +kernel
theorem read_n32 : single.read 3254779904 = .number true 8388608 (-18) := by decide +kernel
theorem Mag.quarter {k x : Nat} (hx : Mag k x) (hk : k ≤ 270) : floatBits .quo .f32 x 1082130432 = some (quov x 1082130432) ∧ Mag (k + 1) (quov x 1082130432) := Mag.quo read_four' (by decide) hx hk
theorem Mag.gain {k x : Nat} (hx : Mag k x) (hk : k ≤ 270) : floatBits .quo .f32 x 3254779904 = some (quov x 3254779904) ∧ Mag (k + 1) (quov x 3254779904) := Mag.quo read_n32 (by decide) hx hk
end Go.Proofs.YtobpnoiienpipaaGreat.Flt

/-
  What is proved: sums, differences, halves and quarters of single floats that are whole numbers of sixteenths are exact.
  Conditions: the numbers are small.
-/
namespace Go.Proofs.YtobpnoiienpipaaGreat.Flt
set_option linter.unusedVariables false
open Ieee

theorem div_pow {x c p : Nat} {s : Bool} {u : Nat} (hc : single.read c = .number false 8388608 (-23 + (p : Int))) (h : Num single x s (2 ^ p * u)) (hu : 4 * u < 2 ^ cap single) (hr : Rep single u) : ∃ q, single.div x c = some q ∧ Num single q s u := by
  obtain ⟨m, i, h1, h2, h3⟩ := h
  have hm := read_bound h1
  rw [frac32] at hm
  rw [place32] at h2 h3
  unfold Format.div
  rw [h1, hc]
  have hn : Nat.log2 8388608 = 23 := by decide +kernel
  have hlog : m.log2 ≤ 23 := by
    by_cases h0 : m = 0
    · subst h0; decide
    · have := (Nat.log2_lt h0).2 hm; omega
  obtain ⟨k, hk⟩ : ∃ k, single.fractionBits + 2 + Nat.log2 8388608 - m.log2 = k + 23 := ⟨single.fractionBits + 2 + Nat.log2 8388608 - m.log2 - 23, by rw [hn, frac32]; omega⟩
  have hdiv : m * 2 ^ (k + 23) / 8388608 = m * 2 ^ k := by
    rw [show (8388608 : Nat) = 2 ^ 23 from rfl, Nat.pow_add, ← Nat.mul_assoc, Nat.mul_div_cancel _ (two_pos 23)]
  have hmod : m * 2 ^ (k + 23) % 8388608 = 0 := by
    rw [show (8388608 : Nat) = 2 ^ 23 from rfl, Nat.pow_add, ← Nat.mul_assoc, Nat.mul_mod_left]
  simp only [Datum.quotient, show (8388608 : Nat) ≠ 0 by decide, if_false, Option.map_some, Format.write, hk, shl, hdiv, hmod, bne_self_eq_false, Bool.toNat_false, Nat.add_zero, Bool.bne_false]
  refine ⟨_, rfl, num_of fine32 s _ u _ ?_ hr (by omega)⟩
  rw [place32]
  have h4 : 2 ^ p * u = m * 2 ^ (i + 149).toNat := by rw [h3]; congr 2
  have ha : 2 * (m * 2 ^ k) = m * 2 ^ (k + 1) := by rw [Nat.pow_succ]; ac_rfl
  rw [ha]
  rcases Int.le_total (-149) (i - (-23 + (p : Int)) - ((k + 23 : Nat) : Int) - 1) with hp | hp
  · rw [show (-149 - (i - (-23 + (p : Int)) - ((k + 23 : Nat) : Int) - 1)).toNat = 0 by omega, Nat.pow_zero, Nat.mul_one, Nat.mul_assoc, ← Nat.pow_add]
    apply Nat.eq_of_mul_eq_mul_left (two_pos p)
    rw [h4, show (i + 149).toNat = p + (k + 1 + (i - (-23 + (p : Int)) - ((k + 23 : Nat) : Int) - 1 - -149).toNat) by omega, Nat.pow_add 2 p]
    ac_rfl
  · rw [show (i - (-23 + (p : Int)) - ((k + 23 : Nat) : Int) - 1 - -149).toNat = 0 by omega, Nat.pow_zero, Nat.mul_one]
    apply Nat.eq_of_mul_eq_mul_left (two_pos p)
    rw [← Nat.mul_assoc (2 ^ p) u, h4, Nat.mul_assoc m, ← Nat.pow_add, show (i + 149).toNat + (-149 - (i - (-23 + (p : Int)) - ((k + 23 : Nat) : Int) - 1)).toNat = p + (k + 1) by omega, Nat.pow_add 2 p]
    ac_rfl
/-- The number of k sixteenths. -/
def Sx (x : Nat) (k : Int) : Prop := x < 2 ^ 32 ∧ ∃ s u, Num single x s u ∧ sg s u = k * 2 ^ 145
theorem sx_abs {s : Bool} {u : Nat} {k : Int} (h : sg s u = k * 2 ^ 145) : u = k.natAbs * 2 ^ 145 := by
  have h1 := congrArg Int.natAbs h
  rw [natAbs_sg, Int.natAbs_mul] at h1
  rw [h1]
  rfl
theorem pow145 : (2 : Int) ^ 145 = ((2 ^ 145 : Nat) : Int) := by decide +kernel
theorem abs145 (k : Int) : (k * 2 ^ 145).natAbs = k.natAbs * 2 ^ 145 := by rw [pow145, Int.natAbs_mul]; rfl
theorem rep145 {n : Nat} (h : n < 2 ^ 24) : Rep single (n * 2 ^ 145) := rep_mul (rep_small (by rw [frac32]; exact h)) 145
theorem cap145 {n : Nat} (h : n < 2 ^ 24) : n * 2 ^ 145 < 2 ^ cap single := by
  obtain ⟨C, hC, hC2⟩ : ∃ C, cap single = C ∧ C = 277 := ⟨_, rfl, cap32⟩
  rw [hC]
  have h1 : n * 2 ^ 145 < 2 ^ 24 * 2 ^ 145 := Nat.mul_lt_mul_of_pos_right h (two_pos 145)
  rw [← Nat.pow_add] at h1
  exact Nat.lt_of_lt_of_le h1 (Nat.pow_le_pow_right (by decide) (by omega))
theorem cap145' {n : Nat} (h : n < 2 ^ 24) : 4 * (n * 2 ^ 145) < 2 ^ cap single := by
  obtain ⟨C, hC, hC2⟩ : ∃ C, cap single = C ∧ C = 277 := ⟨_, rfl, cap32⟩
  rw [hC]
  have h1 : n * 2 ^ 145 < 2 ^ 24 * 2 ^ 145 := Nat.mul_lt_mul_of_pos_right h (two_pos 145)
  rw [← Nat.pow_add] at h1
  have h2 : 4 * 2 ^ (24 + 145) ≤ 2 ^ C := by
    rw [show (4 : Nat) = 2 ^ 2 from rfl, ← Nat.pow_add]
    exact Nat.pow_le_pow_right (by decide) (by omega)
  exact Nat.lt_of_lt_of_le (Nat.mul_lt_mul_of_pos_left h1 (by decide)) h2
theorem Sx.add {x y : Nat} {a b : Int} (hx : Sx x a) (hy : Sx y b) (h : (a + b).natAbs < 2 ^ 24) : ∃ r, floatBits .add .f32 x y = some r ∧ Sx r (a + b) := by
  obtain ⟨_, s, u, hx, ha⟩ := hx
  obtain ⟨_, t, v, hy, hb⟩ := hy
  have hs : sg s u + sg t v = (a + b) * 2 ^ 145 := by rw [ha, hb, Int.add_mul]
  obtain ⟨r, hr, hn⟩ := add_num fine32 hx hy (by rw [hs, abs145]; exact rep145 h) (by rw [hs, abs145]; exact cap145 h)
  rw [hs] at hn
  refine ⟨r, hr, ?_, _, _, hn, sg_self _ _⟩
  have := floatBits_wf (op := .add) (k := .f32) (show floatBits .add .f32 x y = some r from hr)
  simpa [Lit.wf] using this
theorem Sx.sub {x y : Nat} {a b : Int} (hx : Sx x a) (hy : Sx y b) (h : (a - b).natAbs < 2 ^ 24) : ∃ r, floatBits .sub .f32 x y = some r ∧ Sx r (a - b) := by
  obtain ⟨_, s, u, hx, ha⟩ := hx
  obtain ⟨_, t, v, hy, hb⟩ := hy
  have hs : sg s u - sg t v = (a - b) * 2 ^ 145 := by rw [ha, hb, Int.sub_mul]
  obtain ⟨r, hr, hn⟩ := sub_num fine32 hx hy (by rw [hs, abs145]; exact rep145 h) (by rw [hs, abs145]; exact cap145 h)
  rw [hs] at hn
  refine ⟨r, hr, ?_, _, _, hn, sg_self _ _⟩
  have := floatBits_wf (op := .sub) (k := .f32) (show floatBits .sub .f32 x y = some r from hr)
  simpa [Lit.wf] using this
theorem Sx.neg {x : Nat} {a : Int} (hx : Sx x a) : Sx (Op.negFloat .f32 x) (-a) := by
  obtain ⟨h0, s, u, hx, ha⟩ := hx
  exact ⟨neg_lt32 h0, !s, u, num_neg32 h0 hx, by rw [sg_not, ha, Int.neg_mul]⟩
theorem sg_mul (s : Bool) (n u : Nat) : sg s (n * u) = n * sg s u := by
  unfold sg
  cases s <;> simp [Int.natCast_mul, Int.mul_neg]
theorem Sx.quo {x c p : Nat} {a : Int} (hc : single.read c = .number false 8388608 (-23 + (p : Int))) (hx : Sx x ((2 ^ p : Nat) * a)) (h : a.natAbs < 2 ^ 24) : ∃ r, floatBits .quo .f32 x c = some r ∧ Sx r a := by
  obtain ⟨h0, s, u, hx, ha⟩ := hx
  have hu : u = 2 ^ p * (a.natAbs * 2 ^ 145) := by
    have h1 := sx_abs ha
    rw [Int.natAbs_mul] at h1
    rw [h1, Int.natAbs_natCast, Nat.mul_assoc]
  rw [hu] at hx ha
  obtain ⟨r, hr, hn⟩ := div_pow hc hx (cap145' h) (rep145 h)
  refine ⟨r, hr, ?_, s, _, hn, ?_⟩
  · have := floatBits_wf (op := .quo) (k := .f32) (show floatBits .quo .f32 x c = some r from hr)
    simpa [Lit.wf] using this
  · rw [sg_mul, Int.mul_assoc] at ha
    exact Int.eq_of_mul_eq_mul_left (by have := two_pos p; omega) ha
theorem Sx.eq {x y : Nat} {a : Int} (hx : Sx x a) (hy : Sx y a) : single.order x y = some .eq := by
  obtain ⟨_, s, u, hx, ha⟩ := hx
  obtain ⟨_, t, v, hy, hb⟩ := hy
  rw [order_num hx hy, ha, hb, cmp_eq rfl]
theorem Sx.zero : Sx 0 0 := ⟨by decide, false, 0, by
  have h := read_num read_zero
  rwa [Nat.zero_mul] at h, by unfold sg; simp⟩
theorem Sx.fin {x : Nat} {a : Int} (hx : Sx x a) (h : a.natAbs ≤ 4096) : Flt.fin x = true := by
  obtain ⟨_, s, u, hx, ha⟩ := hx
  rw [fin_num hx, decide_eq_true_iff, sx_abs ha]
  have h1 : a.natAbs * 2 ^ 145 ≤ 4096 * 2 ^ 145 := Nat.mul_le_mul_right _ h
  have h2 : (4096 * 2 ^ 145 : Nat) = LIM := by unfold LIM; decide +kernel
  omega
theorem Sx.ofInt {n : Int} (h : n.natAbs < 2 ^ 20) : Sx (floatOfInt .f32 n) (16 * n) := by
  have h1 : Num single (single.nearest (n < 0) n.natAbs 0) (decide (n < 0)) (n.natAbs * 2 ^ unit single) := int_num fine32 _ _ (rep_small (by rw [frac32]; exact Nat.lt_of_lt_of_le h (by decide))) (by
    obtain ⟨C, hC, hC2⟩ : ∃ C, cap single = C ∧ C = 277 := ⟨_, rfl, cap32⟩
    rw [unit32, hC]
    have h2 : n.natAbs * 2 ^ 149 < 2 ^ 20 * 2 ^ 149 := Nat.mul_lt_mul_of_pos_right h (two_pos 149)
    rw [← Nat.pow_add] at h2
    exact Nat.lt_of_lt_of_le h2 (Nat.pow_le_pow_right (by decide) (by omega)))
  refine ⟨by have := floatOfInt_wf .f32 n; simpa [Lit.wf] using this, _, _, h1, ?_⟩
  rw [unit32]
  have h3 : sg (decide (n < 0)) (n.natAbs * 2 ^ 149) = n * 2 ^ 149 := by
    unfold sg
    have e : (2 : Int) ^ 149 = ((2 ^ 149 : Nat) : Int) := by decide +kernel
    by_cases hn : n < 0
    · rw [decide_eq_true hn, if_pos rfl, Int.natCast_mul, Int.ofNat_natAbs_of_nonpos (by omega), e, Int.neg_mul, Int.neg_neg]
    · rw [decide_eq_false hn, if_neg (by decide), Int.natCast_mul, Int.natAbs_of_nonneg (by omega), e]
  rw [h3]
  have h4 : (2 : Int) ^ 149 = 16 * 2 ^ 145 := by decide +kernel
  rw [h4, ← Int.mul_assoc, Int.mul_comm n 16]
end Go.Proofs.YtobpnoiienpipaaGreat.Flt
