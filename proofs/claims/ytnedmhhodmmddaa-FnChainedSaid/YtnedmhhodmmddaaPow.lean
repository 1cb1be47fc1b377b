/-
  What is proved: sums of squares of singles: they are not negative, are 0 only if both squares are, and do not depend on signs or on order.
  Conditions: none of the numbers is NaN.
-/
import Derived.Test.YtnedmhhodmmddaaTimes
namespace Go.Proofs.Ytnedmhhodmmddaa
set_option linter.unusedVariables false
open Ieee
open Flt (Mag sumv subv mulv quov Q)

/-- Not negative, and no NaN. -/
def NN (x : Nat) : Prop := (∃ m e, single.read x = .number false m e) ∨ single.read x = .infinity false
def Nul (x : Nat) : Prop := ∃ s e, single.read x = .number s 0 e
theorem NN.ok {x : Nat} (h : NN x) : isN x = false := by
  unfold isN
  rcases h with ⟨m, e, h⟩ | h <;> rw [h] <;> rfl
theorem nn_word (r : Nat) (h : r ≤ single.infRung) : NN (single.word false r) := by
  have h2 : r < single.signWeight := Nat.lt_of_le_of_lt h single.infRung_lt
  have hr := Flt.read_word single false r h2
  by_cases h1 : r < single.binade
  · rw [if_pos h1] at hr; exact .inl ⟨_, _, hr⟩
  · rw [if_neg h1] at hr
    by_cases h3 : r < single.infRung
    · rw [if_pos h3] at hr; exact .inl ⟨_, _, hr⟩
    · rw [if_neg h3, if_pos (by omega)] at hr; exact .inr hr
theorem word_nul {s : Bool} {r : Nat} (h : r ≤ single.infRung) : Nul (single.word s r) ↔ r = 0 := by
  have h2 : r < single.signWeight := Nat.lt_of_le_of_lt h single.infRung_lt
  have hr := Flt.read_word single s r h2
  have hb : 0 < single.binade := Flt.two_pos _
  constructor
  · rintro ⟨t, e, h0⟩
    by_cases h1 : r < single.binade
    · rw [if_pos h1, h0] at hr; cases hr; rfl
    · rw [if_neg h1] at hr
      by_cases h3 : r < single.infRung
      · rw [if_pos h3, h0] at hr
        injection hr with _ h4 _
        omega
      · rw [if_neg h3, if_pos (by omega), h0] at hr; cases hr
  · rintro rfl
    rw [if_pos hb] at hr
    exact ⟨_, _, hr⟩
/-- Rounding takes no number of units to 0. -/
theorem nearest_nul (s : Bool) (mag : Nat) (place : Int) (hp : -149 ≤ place) : Nul (single.nearest s mag place) ↔ mag = 0 := by
  unfold Format.nearest
  by_cases h : mag = 0
  · rw [if_pos h]
    exact ⟨fun _ => h, fun _ => (word_nul (Nat.zero_le _)).2 rfl⟩
  · rw [if_neg h]
    refine ⟨fun h1 => ?_, fun h1 => absurd h1 h⟩
    exfalso
    have h2 := (word_nul (Nat.min_le_right _ _)).1 h1
    simp only [Flt.shl, Flt.place32, Flt.frac32] at h2
    obtain ⟨last, hl⟩ : ∃ last : Int, last = max (place + mag.log2 - ((23 : Nat) : Int)) (-149) := ⟨_, rfl⟩
    rw [← hl] at h2
    have hi : 0 < single.infRung := by rw [Flt.inf32]; decide
    have h4 : 1 ≤ Toward.even.cut s (mag * 2 ^ (place - last).toNat) (last - place).toNat := by
      apply Flt.le_cut
      have h5 : 2 ^ mag.log2 ≤ mag := Nat.log2_self_le h
      have h6 : (2 : Nat) ^ (last - place).toNat ≤ 2 ^ mag.log2 := Nat.pow_le_pow_right (by decide) (by omega)
      have h7 : mag * 1 ≤ mag * 2 ^ (place - last).toNat := Nat.mul_le_mul_left _ (Flt.two_pos _)
      omega
    omega
theorem nn_nearest (mag : Nat) (place : Int) : NN (single.nearest false mag place) := by
  unfold Format.nearest
  by_cases h : mag = 0
  · rw [if_pos h]; exact nn_word 0 (Nat.zero_le _)
  · rw [if_neg h]; exact nn_word _ (Nat.min_le_right _ _)
theorem place_ge {x m : Nat} {s : Bool} {e : Int} (h : single.read x = .number s m e) : -149 ≤ e := by
  obtain ⟨m', e', h', hle, _⟩ := Flt.read_num h
  rw [h] at h'
  cases h'
  rw [Flt.place32] at hle
  exact hle
theorem sq_nn {x : Nat} (h : isN x = false) : ∃ r, floatBits .mul .f32 x x = some r ∧ NN r := by
  have e : floatBits .mul .f32 x x = ((single.read x).product (single.read x)).map single.write := rfl
  unfold isN at h
  cases hx : single.read x with
  | nan s p => rw [hx] at h; cases h
  | infinity s =>
    refine ⟨single.word false single.infRung, ?_, nn_word _ (Nat.le_refl _)⟩
    rw [e, hx]
    show some (single.write (.infinity (s ^^ s))) = _
    rw [Bool.xor_self]; rfl
  | number s m i =>
    refine ⟨single.nearest false (m * m) (i + i), ?_, nn_nearest _ _⟩
    rw [e, hx]
    show some (single.nearest (s ^^ s) (m * m) (i + i)) = _
    rw [Bool.xor_self]
theorem sum_nn {x y : Nat} (hx : NN x) (hy : NN y) : ∃ r, floatBits .add .f32 x y = some r ∧ NN r ∧ (Nul r ↔ Nul x ∧ Nul y) := by
  have e : floatBits .add .f32 x y = ((single.read x).sum (single.read y)).map single.write := rfl
  have hni : ∀ z, single.read z = .infinity false → ¬ Nul z := by rintro z hz ⟨s, k, hk⟩; rw [hz] at hk; cases hk
  have hinf : NN (single.word false single.infRung) ∧ ¬ Nul (single.word false single.infRung) := by
    refine ⟨nn_word _ (Nat.le_refl _), fun h => ?_⟩
    have := (word_nul (Nat.le_refl _)).1 h
    rw [Flt.inf32] at this
    exact absurd this (by decide)
  rcases hx with ⟨m, i, hx⟩ | hx
  · rcases hy with ⟨n, j, hy⟩ | hy
    · have p1 := place_ge hx
      have p2 := place_ge hy
      have ez : ∀ (z a : Nat) (k : Int), single.read z = .number false a k → (Nul z ↔ a = 0) := by
        intro z a k hz
        constructor
        · rintro ⟨s, l, h⟩; rw [hz] at h; cases h; rfl
        · rintro rfl; exact ⟨_, _, hz⟩
      rw [ez x m i hx, ez y n j hy]
      have es : (single.read x).sum (single.read y) = some (.number (if signed false m (i - min i j).toNat + signed false n (j - min i j).toNat = 0 then false && false else decide (signed false m (i - min i j).toNat + signed false n (j - min i j).toNat < 0)) (signed false m (i - min i j).toNat + signed false n (j - min i j).toNat).natAbs (min i j)) := by rw [hx, hy]; rfl
      rw [Flt.signed_sg, Flt.signed_sg] at es
      have a1 : Flt.sg false (m * 2 ^ (i - min i j).toNat) = ((m * 2 ^ (i - min i j).toNat : Nat) : Int) := rfl
      have a2 : Flt.sg false (n * 2 ^ (j - min i j).toNat) = ((n * 2 ^ (j - min i j).toNat : Nat) : Int) := rfl
      rw [a1, a2] at es
      have hz : (m * 2 ^ (i - min i j).toNat + n * 2 ^ (j - min i j).toNat = 0) ↔ (m = 0 ∧ n = 0) := by
        have q1 := Flt.two_pos (i - min i j).toNat
        have q2 := Flt.two_pos (j - min i j).toNat
        constructor
        · intro h
          have h1 : m * 2 ^ (i - min i j).toNat = 0 := by omega
          have h2 : n * 2 ^ (j - min i j).toNat = 0 := by omega
          exact ⟨(Nat.mul_eq_zero.1 h1).resolve_right (by omega), (Nat.mul_eq_zero.1 h2).resolve_right (by omega)⟩
        · rintro ⟨rfl, rfl⟩; simp
      generalize m * 2 ^ (i - min i j).toNat = M at *
      generalize n * 2 ^ (j - min i j).toNat = N at *
      have hsign : (if (M : Int) + (N : Int) = 0 then false && false else decide ((M : Int) + (N : Int) < 0)) = false := by
        split
        · rfl
        · exact decide_eq_false (by omega)
      rw [hsign, show ((M : Int) + (N : Int)).natAbs = M + N by omega] at es
      refine ⟨single.nearest false (M + N) (min i j), by rw [e, es]; rfl, nn_nearest _ _, ?_⟩
      rw [nearest_nul false _ _ (by omega), hz]
    · refine ⟨_, by rw [e, hx, hy]; rfl, hinf.1, ⟨fun h => absurd h hinf.2, fun h => absurd h.2 (hni y hy)⟩⟩
  · rcases hy with ⟨n, j, hy⟩ | hy
    · refine ⟨_, by rw [e, hx, hy]; rfl, hinf.1, ⟨fun h => absurd h hinf.2, fun h => absurd h.1 (hni x hx)⟩⟩
    · refine ⟨_, by rw [e, hx, hy]; rfl, hinf.1, ⟨fun h => absurd h hinf.2, fun h => absurd h.1 (hni x hx)⟩⟩
theorem nul_eq {x : Nat} : single.order x 0 = some .eq ↔ Nul x := by
  constructor
  · intro h
    obtain ⟨s, i, h1⟩ := Flt.eq_zero Flt.read_zero h
    exact ⟨s, i, h1⟩
  · rintro ⟨s, e, h⟩
    have h1 := Flt.read_num h
    rw [Nat.zero_mul] at h1
    rw [Flt.order_num h1 num_zero0]
    cases s <;> rfl
theorem NN.ge {x : Nat} (h : NN x) : (single.order x 0 == some .gt || single.order x 0 == some .eq) = true := by
  rcases h with ⟨m, e, h⟩ | h
  · have h1 := Flt.read_num h
    rw [Flt.order_num h1 num_zero0]
    have e1 : Flt.sg false (m * 2 ^ (e - single.leastPlace).toNat) = ((m * 2 ^ (e - single.leastPlace).toNat : Nat) : Int) := rfl
    have e2 : Flt.sg false 0 = 0 := rfl
    rw [e1, e2]
    generalize m * 2 ^ (e - single.leastPlace).toNat = k
    rcases (by omega : k = 0 ∨ 0 < k) with rfl | hk
    · rw [show ((0 : Nat) : Int) = 0 from rfl, Flt.cmp_eq rfl]; rfl
    · rw [Flt.cmp_gt (by omega)]; rfl
  · unfold Format.order
    rw [h, Flt.read_zero]; rfl
/-- What the power of x + yi may be. -/
def PowR (x y p : Nat) : Prop := ∃ m n, Res .mul x x m ∧ Res .mul y y n ∧ Res .add m n p
theorem PowR.nan {x y p : Nat} (h : PowR x y p) (hn : isN x = true ∨ isN y = true) : isN p = true := by
  obtain ⟨m, n, h1, h2, h3⟩ := h
  rcases hn with hn | hn
  · exact Res.nan (.inl (Res.nan (.inl hn) h1)) h3
  · exact Res.nan (.inr (Res.nan (.inl hn) h2)) h3
theorem PowR.swap {x y p p' : Nat} (h : PowR x y p) (h' : PowR y x p') : Sm p p' := by
  obtain ⟨m, n, h1, h2, h3⟩ := h
  obtain ⟨m', n', g1, g2, g3⟩ := h'
  have k1 := Res.same (Sm.refl _) (Sm.refl _) h1 g2
  have k2 := Res.same (Sm.refl _) (Sm.refl _) h2 g1
  exact Res.same k1 k2 h3 g3.add_comm
theorem PowR.same {x y p p' : Nat} (h : PowR x y p) (h' : PowR x y p') : Sm p p' := by
  obtain ⟨m, n, h1, h2, h3⟩ := h
  obtain ⟨m', n', g1, g2, g3⟩ := h'
  exact Res.same (Res.same (Sm.refl _) (Sm.refl _) h1 g1) (Res.same (Sm.refl _) (Sm.refl _) h2 g2) h3 g3
theorem PowR.nn {x y p : Nat} (h : PowR x y p) (hx : isN x = false) (hy : isN y = false) : NN p ∧ ∃ m n, floatBits .mul .f32 x x = some m ∧ floatBits .mul .f32 y y = some n ∧ (Nul p ↔ Nul m ∧ Nul n) := by
  obtain ⟨m, n, h1, h2, h3⟩ := h
  obtain ⟨a, ea, na⟩ := sq_nn hx
  obtain ⟨b, eb, nb⟩ := sq_nn hy
  obtain rfl := res_some h1 ea
  obtain rfl := res_some h2 eb
  obtain ⟨r, er, nr, hz⟩ := sum_nn na nb
  obtain rfl := res_some h3 er
  exact ⟨nr, m, n, ea, eb, hz⟩
theorem read_neg {x : Nat} (h : x < 2 ^ 32) : single.read (Go.Op.negFloat .f32 x) = (single.read x).opposite := by
  obtain ⟨s, r, rfl, hr⟩ := Flt.word_parts32 x h
  rw [Flt.neg_word32 s r hr, Flt.read_word single _ r (by rw [Flt.sw32]; exact hr), Flt.read_word single s r (by rw [Flt.sw32]; exact hr)]
  split
  · rfl
  · split
    · rfl
    · split
      · rfl
      · rfl
theorem sq_neg {x : Nat} (h : x < 2 ^ 32) : floatBits .mul .f32 (Go.Op.negFloat .f32 x) (Go.Op.negFloat .f32 x) = floatBits .mul .f32 x x := by
  show ((single.read _).product (single.read _)).map single.write = ((single.read x).product (single.read x)).map single.write
  rw [read_neg h]
  cases single.read x with
  | nan s p => rfl
  | infinity s => cases s <;> rfl
  | number s m i => cases s <;> rfl
theorem PowR.neg {x y p p' : Nat} (hy : y < 2 ^ 32) (h : PowR x y p) (h' : PowR x (Go.Op.negFloat .f32 y) p') : Sm p p' := by
  refine h.same ?_
  obtain ⟨m, n, h1, h2, h3⟩ := h'
  refine ⟨m, n, h1, ?_, h3⟩
  unfold Res at h2 ⊢
  rwa [sq_neg hy] at h2
end Go.Proofs.Ytnedmhhodmmddaa
