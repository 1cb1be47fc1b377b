/-
  What is proved: sums, differences, products of single floats that are not too large are finite, and so are their quotients by 4 and by -32.
  Conditions: those that each fact names.
-/
import Derived.Test.YtnedmhhodmmddaaFl
import Derived.Test.YtnedmhhodmmddaaF32
namespace Go.Proofs.Ytnedmhhodmmddaa.Flt
set_option linter.unusedVariables false
open Ieee

/-- A number of an amount of less than 2 to the k, counted in units of the least place. -/
def Mag (k : Nat) (x : Nat) : Prop := ∃ s m e, single.read x = .number s m e ∧ (m = 0 ∨ e + m.log2 + 150 ≤ (k : Int))
theorem Mag.mono {k l x : Nat} (h : Mag k x) (hkl : k ≤ l) : Mag l x := by
  obtain ⟨s, m, e, h1, h2⟩ := h
  exact ⟨s, m, e, h1, h2.imp id (fun h => by omega)⟩
theorem Mag.ok {k x : Nat} (h : Mag k x) : (single.read x).isNaN = false := by
  obtain ⟨s, m, e, h1, _⟩ := h
  rw [h1]; rfl
theorem scaled_lt {m a b : Nat} (h : m = 0 ∨ m.log2 + 1 + a ≤ b) : m * 2 ^ a < 2 ^ b := by
  rcases h with rfl | h
  · rw [Nat.zero_mul]; exact two_pos _
  · have h1 : m * 2 ^ a < 2 ^ (m.log2 + 1) * 2 ^ a := Nat.mul_lt_mul_of_pos_right (lt_log m) (two_pos a)
    rw [← Nat.pow_add] at h1
    exact Nat.lt_of_lt_of_le h1 (Nat.pow_le_pow_right (by decide) h)
theorem log_lt {m b : Nat} (h : m < 2 ^ b) (h0 : m ≠ 0) : m.log2 < b := (Nat.log2_lt h0).2 h
theorem mag_num {x u k : Nat} {s : Bool} (h : Num single x s u) (hu : u ≤ 2 ^ k) : Mag (k + 1) x := by
  obtain ⟨m, e, h1, h2, h3⟩ := h
  refine ⟨s, m, e, h1, ?_⟩
  by_cases h0 : m = 0
  · exact .inl h0
  · right
    rw [place32] at h2 h3
    have h4 : 2 ^ m.log2 ≤ m := Nat.log2_self_le h0
    have h5 : 2 ^ m.log2 * 2 ^ (e - -149).toNat ≤ 2 ^ k := Nat.le_trans (Nat.mul_le_mul_right _ h4) (by rw [← h3]; exact hu)
    rw [← Nat.pow_add] at h5
    have h6 := (Nat.pow_le_pow_iff_right (by decide : 1 < 2)).1 h5
    omega
theorem nearest_mag (s : Bool) (mag : Nat) (place : Int) (K : Nat) (hK : K ≤ 275) (h : mag = 0 ∨ place + mag.log2 + 150 ≤ (K : Int)) : Mag (K + 1) (single.nearest s mag place) := by
  by_cases hm : mag = 0
  · refine mag_num (s := s) (u := 0) ?_ (Nat.zero_le _)
    have e : single.nearest s mag place = single.word s 0 := by unfold Format.nearest; rw [if_pos hm]
    rw [e]
    exact num_zero single s (by rw [inf32]; decide)
  · have h := h.resolve_left hm
    obtain ⟨last, hl⟩ : ∃ last : Int, last = max (place + mag.log2 - 23) (-149) := ⟨_, rfl⟩
    obtain ⟨c, hc⟩ : ∃ c, c = (place - last).toNat := ⟨_, rfl⟩
    obtain ⟨d, hd⟩ : ∃ d, d = (last - place).toNat := ⟨_, rfl⟩
    have h1 : Toward.even.cut s (mag * 2 ^ c) d ≤ 2 ^ 24 := by
      apply cut_le
      rw [← Nat.pow_add]
      exact Nat.le_of_lt (scaled_lt (.inr (by omega)))
    have h2 : Toward.even.cut s (mag * 2 ^ c) d ≤ 2 ^ (K - (last + 149).toNat) := by
      apply cut_le
      rw [← Nat.pow_add]
      exact Nat.le_of_lt (scaled_lt (.inr (by omega)))
    have h3 := num_nearest single s mag place hm last (by rw [hl, frac32, place32]; rfl) c d hc hd (by
      rw [place32, inf32, bin32]
      have h4 : (last - -149).toNat ≤ 251 := by omega
      have h5 : (last - -149).toNat * 2 ^ 23 ≤ 251 * 2 ^ 23 := Nat.mul_le_mul_right _ h4
      omega)
    refine mag_num h3 ?_
    rw [place32]
    have h6 : Toward.even.cut s (mag * 2 ^ c) d * 2 ^ (last - -149).toNat ≤ 2 ^ (K - (last + 149).toNat) * 2 ^ (last - -149).toNat := Nat.mul_le_mul_right _ h2
    rw [← Nat.pow_add, show K - (last + 149).toNat + (last - -149).toNat = K by omega] at h6
    exact h6
theorem fin_mag {x : Nat} (h : fin x = true) : Mag 158 x := by
  obtain ⟨s, u, h1, h2⟩ := fin_of h
  exact mag_num h1 (by unfold LIM at h2; exact Nat.le_trans h2 (by decide))
theorem sum_mag {k : Nat} (hk : k ≤ 270) {s t : Bool} {m n : Nat} {i j : Int} (h1 : m = 0 ∨ i + m.log2 + 150 ≤ (k : Int)) (h2 : n = 0 ∨ j + n.log2 + 150 ≤ (k : Int)) :
    ∃ d, (Datum.number s m i).sum (.number t n j) = some d ∧ Mag (k + 2) (single.write d) := by
  refine ⟨_, rfl, ?_⟩
  show Mag (k + 2) (single.nearest _ _ _)
  refine nearest_mag _ _ _ (k + 1) (by omega) ?_
  rw [signed_sg, signed_sg]
  generalize hb : min i j = base
  by_cases h0 : (sg s (m * 2 ^ (i - base).toNat) + sg t (n * 2 ^ (j - base).toNat)).natAbs = 0
  · exact .inl h0
  · right
    have hle : (sg s (m * 2 ^ (i - base).toNat) + sg t (n * 2 ^ (j - base).toNat)).natAbs ≤ m * 2 ^ (i - base).toNat + n * 2 ^ (j - base).toNat := by
      have := Int.natAbs_add_le (sg s (m * 2 ^ (i - base).toNat)) (sg t (n * 2 ^ (j - base).toNat))
      rw [natAbs_sg, natAbs_sg] at this
      exact this
    generalize (sg s (m * 2 ^ (i - base).toNat) + sg t (n * 2 ^ (j - base).toNat)).natAbs = T at *
    have hE : ∃ E : Nat, (E : Int) = k - 149 - base := by
      rcases h1 with rfl | h1
      · rcases h2 with rfl | h2
        · simp at hle; omega
        · exact ⟨((k : Int) - 149 - base).toNat, by omega⟩
      · exact ⟨((k : Int) - 149 - base).toNat, by omega⟩
    obtain ⟨E, hE⟩ := hE
    have l1 : m * 2 ^ (i - base).toNat < 2 ^ E := scaled_lt (h1.imp id (fun h => by omega))
    have l2 : n * 2 ^ (j - base).toNat < 2 ^ E := scaled_lt (h2.imp id (fun h => by omega))
    have l3 : T < 2 ^ (E + 1) := by rw [Nat.pow_succ]; omega
    have l4 := log_lt l3 h0
    omega
def subv (x y : Nat) : Nat := (floatBits .sub .f32 x y).getD 0
def sumv (x y : Nat) : Nat := (floatBits .add .f32 x y).getD 0
def mulv (x y : Nat) : Nat := (floatBits .mul .f32 x y).getD 0
def quov (x y : Nat) : Nat := (floatBits .quo .f32 x y).getD 0
theorem Mag.add {k x y : Nat} (hx : Mag k x) (hy : Mag k y) (hk : k ≤ 270) : floatBits .add .f32 x y = some (sumv x y) ∧ Mag (k + 2) (sumv x y) := by
  obtain ⟨s, m, i, a1, a2⟩ := hx
  obtain ⟨t, n, j, b1, b2⟩ := hy
  obtain ⟨d, hd, hm⟩ := sum_mag hk (s := s) (t := t) a2 b2
  have e : floatBits .add .f32 x y = some (single.write d) := by
    show single.add x y = _
    unfold Format.add
    rw [a1, b1, hd]; rfl
  unfold sumv
  rw [e]
  exact ⟨rfl, hm⟩
theorem Mag.sub {k x y : Nat} (hx : Mag k x) (hy : Mag k y) (hk : k ≤ 270) : floatBits .sub .f32 x y = some (subv x y) ∧ Mag (k + 2) (subv x y) := by
  obtain ⟨s, m, i, a1, a2⟩ := hx
  obtain ⟨t, n, j, b1, b2⟩ := hy
  obtain ⟨d, hd, hm⟩ := sum_mag hk (s := s) (t := !t) a2 b2
  have e : floatBits .sub .f32 x y = some (single.write d) := by
    show single.sub x y = _
    unfold Format.sub
    rw [a1, b1]
    show ((Datum.number s m i).sum (.number (!t) n j)).map single.write = _
    rw [hd]; rfl
  unfold subv
  rw [e]
  exact ⟨rfl, hm⟩
theorem Mag.mul {k l x y : Nat} (hx : Mag k x) (hy : Mag l y) (hk : k + l ≤ 420) (hl : 149 ≤ k + l) : floatBits .mul .f32 x y = some (mulv x y) ∧ Mag (k + l - 148) (mulv x y) := by
  obtain ⟨s, m, i, a1, a2⟩ := hx
  obtain ⟨t, n, j, b1, b2⟩ := hy
  have e : floatBits .mul .f32 x y = some (single.nearest (s ^^ t) (m * n) (i + j)) := by
    show single.mul x y = _
    unfold Format.mul
    rw [a1, b1]; rfl
  unfold mulv
  rw [e]
  refine ⟨rfl, ?_⟩
  have := nearest_mag (s ^^ t) (m * n) (i + j) (k + l - 149) (by omega) (by
    by_cases h0 : m * n = 0
    · exact .inl h0
    · right
      have hm : m ≠ 0 := fun e => h0 (by rw [e, Nat.zero_mul])
      have hn : n ≠ 0 := fun e => h0 (by rw [e, Nat.mul_zero])
      have h1 := a2.resolve_left hm
      have h2 := b2.resolve_left hn
      have h3 : m * n < 2 ^ (m.log2 + 1 + (n.log2 + 1)) := by
        rw [Nat.pow_add]
        exact Nat.mul_lt_mul'' (lt_log m) (lt_log n)
      have h4 := log_lt h3 h0
      omega)
  exact this.mono (by omega)
theorem Mag.quo {k x c : Nat} {t : Bool} {j : Int} (hc : single.read c = .number t 8388608 j) (hj : -23 ≤ j) (hx : Mag k x) (hk : k ≤ 270) : floatBits .quo .f32 x c = some (quov x c) ∧ Mag (k + 1) (quov x c) := by
  obtain ⟨s, m, i, a1, a2⟩ := hx
  have hb := read_bound a1
  rw [frac32] at hb
  have e : floatBits .quo .f32 x c = some (single.nearest (s ^^ t) (2 * ((m <<< (25 + 23 - m.log2)) / 8388608) + ((m <<< (25 + 23 - m.log2)) % 8388608 != 0).toNat) (i - j - ((25 + 23 - m.log2 : Nat) : Int) - 1)) := by
    show single.div x c = _
    unfold Format.div
    rw [a1, hc]
    simp only [Datum.quotient, frac32, Option.map_some]
    rw [if_neg (by decide)]
    rfl
  unfold quov
  rw [e]
  refine ⟨rfl, nearest_mag _ _ _ k (by omega) ?_⟩
  rw [shl]
  by_cases h0 : m = 0
  · left; subst h0; simp
  · right
    have h1 := a2.resolve_left h0
    have h2 : m.log2 < 24 := log_lt hb h0
    have h3 : m * 2 ^ (25 + 23 - m.log2) < 2 ^ 49 := scaled_lt (.inr (by omega))
    generalize m * 2 ^ (25 + 23 - m.log2) = D at *
    have h4 : 2 * (D / 8388608) + (D % 8388608 != 0).toNat < 2 ^ 27 := by
      have : (D % 8388608 != 0).toNat ≤ 1 := by cases (D % 8388608 != 0) <;> decide
      omega
    generalize 2 * (D / 8388608) + (D % 8388608 != 0).toNat = q at *
    by_cases hq : q = 0
    · subst hq
      have : (0 : Nat).log2 = 0 := by decide
      rw [this]; omega
    · have h5 := log_lt h4 hq
      omega
theorem read_four' : single.read 1082130432 = .number false 8388608 (-21) := by decide +kernel
theorem read_n32 : single.read 3254779904 = .number true 8388608 (-18) := by decide +kernel
theorem Mag.quarter {k x : Nat} (hx : Mag k x) (hk : k ≤ 270) : floatBits .quo .f32 x 1082130432 = some (quov x 1082130432) ∧ Mag (k + 1) (quov x 1082130432) := Mag.quo read_four' (by decide) hx hk
theorem Mag.gain {k x : Nat} (hx : Mag k x) (hk : k ≤ 270) : floatBits .quo .f32 x 3254779904 = some (quov x 3254779904) ∧ Mag (k + 1) (quov x 3254779904) := Mag.quo read_n32 (by decide) hx hk
end Go.Proofs.Ytnedmhhodmmddaa.Flt
