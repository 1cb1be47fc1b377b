/-
  What is proved: a sum of two single floats of amounts of at most a power of two has an amount of at most the next one.
  Conditions: those that each fact names.
-/
import Derived.Test.YtgecclccmmcdoaaPkCell
namespace Go.Proofs.Ytgecclccmmcdoaa.Flt
set_option linter.unusedVariables false
open Ieee

/-- A number of an amount of at most 2 to the k, counted in units of the least place. -/
def Le (k : Nat) (x : Nat) : Prop := ∃ s u, Num single x s u ∧ u ≤ 2 ^ k
theorem Le.mag {k x : Nat} (h : Le k x) : Mag (k + 1) x := by
  obtain ⟨s, u, h1, h2⟩ := h
  exact mag_num h1 h2
theorem Le.mono {k l x : Nat} (h : Le k x) (hkl : k ≤ l) : Le l x := by
  obtain ⟨s, u, h1, h2⟩ := h
  exact ⟨s, u, h1, Nat.le_trans h2 (Nat.pow_le_pow_right (by decide) hkl)⟩
theorem Mag.le {k x : Nat} (h : Mag k x) : Le k x := by
  obtain ⟨s, m, e, h1, h2⟩ := h
  have hn := read_num h1
  obtain ⟨m', e', h3, h4, h5⟩ := hn
  rw [h1] at h3
  injection h3 with _ e1 e2
  subst e1; subst e2
  refine ⟨s, _, read_num h1, ?_⟩
  rw [place32] at h4 ⊢
  exact Nat.le_of_lt (scaled_lt (h2.imp id (fun h => by omega)))
theorem nearest_le (s : Bool) (mag : Nat) (place : Int) (K : Nat) (hK : K ≤ 273) (hp : -149 ≤ place) (h : mag * 2 ^ (place + 149).toNat ≤ 2 ^ K) : Le K (single.nearest s mag place) := by
  by_cases hm : mag = 0
  · refine ⟨s, 0, ?_, Nat.zero_le _⟩
    have e : single.nearest s mag place = single.word s 0 := by unfold Format.nearest; rw [if_pos hm]
    rw [e]
    exact num_zero single s (by rw [inf32]; decide)
  · have hl2 : 2 ^ mag.log2 ≤ mag := Nat.log2_self_le hm
    have hlg : mag.log2 + (place + 149).toNat ≤ K := by
      have h5 : 2 ^ mag.log2 * 2 ^ (place + 149).toNat ≤ 2 ^ K := Nat.le_trans (Nat.mul_le_mul_right _ hl2) h
      rw [← Nat.pow_add] at h5
      exact (Nat.pow_le_pow_iff_right (by decide : 1 < 2)).1 h5
    obtain ⟨last, hl⟩ : ∃ last : Int, last = max (place + mag.log2 - 23) (-149) := ⟨_, rfl⟩
    obtain ⟨c, hc⟩ : ∃ c, c = (place - last).toNat := ⟨_, rfl⟩
    obtain ⟨d, hd⟩ : ∃ d, d = (last - place).toNat := ⟨_, rfl⟩
    have h1 : Toward.even.cut s (mag * 2 ^ c) d ≤ 2 ^ 24 := by
      apply cut_le
      rw [← Nat.pow_add]
      exact Nat.le_of_lt (scaled_lt (.inr (by omega)))
    have h2 : Toward.even.cut s (mag * 2 ^ c) d ≤ 2 ^ (K - (last + 149).toNat) := by
      apply cut_le
      rw [← Nat.pow_add]
      have hp2 : 0 < 2 ^ (last + 149).toNat := two_pos _
      refine (Nat.mul_le_mul_right_iff hp2).1 ?_
      rw [← Nat.pow_add, Nat.mul_assoc, ← Nat.pow_add]
      by_cases hpl : last ≤ place
      · rw [show c + (last + 149).toNat = (place + 149).toNat by omega, show K - (last + 149).toNat + d + (last + 149).toNat = K by omega]
        exact h
      · rw [show c + (last + 149).toNat = (place + 149).toNat + d by omega, show K - (last + 149).toNat + d + (last + 149).toNat = K + d by omega, Nat.pow_add, Nat.pow_add, ← Nat.mul_assoc]
        exact Nat.mul_le_mul_right _ h
    have h3 := num_nearest single s mag place hm last (by rw [hl, frac32, place32]; rfl) c d hc hd (by
      rw [place32, inf32, bin32]
      have h4 : (last - -149).toNat ≤ 251 := by omega
      have h5 : (last - -149).toNat * 2 ^ 23 ≤ 251 * 2 ^ 23 := Nat.mul_le_mul_right _ h4
      omega)
    refine ⟨s, _, h3, ?_⟩
    rw [place32]
    have h6 : Toward.even.cut s (mag * 2 ^ c) d * 2 ^ (last - -149).toNat ≤ 2 ^ (K - (last + 149).toNat) * 2 ^ (last - -149).toNat := Nat.mul_le_mul_right _ h2
    rw [← Nat.pow_add, show K - (last + 149).toNat + (last - -149).toNat = K by omega] at h6
    exact h6
theorem Le.add {k x y : Nat} (hx : Le k x) (hy : Le k y) (hk : k ≤ 260) : floatBits .add .f32 x y = some (sumv x y) ∧ Le (k + 1) (sumv x y) := by
  refine ⟨(Mag.add hx.mag hy.mag (by omega)).1, ?_⟩
  obtain ⟨s, u, ⟨m, i, a1, a2, a3⟩, hu⟩ := hx
  obtain ⟨t, v, ⟨n, j, b1, b2, b3⟩, hv⟩ := hy
  rw [place32] at a2 a3 b2 b3
  have e : floatBits .add .f32 x y = some (single.write (Datum.number (if signed s m (i - min i j).toNat + signed t n (j - min i j).toNat = 0 then s && t else decide (signed s m (i - min i j).toNat + signed t n (j - min i j).toNat < 0)) (signed s m (i - min i j).toNat + signed t n (j - min i j).toNat).natAbs (min i j))) := by
    show single.add x y = _
    unfold Format.add
    rw [a1, b1]
    rfl
  unfold sumv
  rw [e]
  show Le (k + 1) (single.nearest _ _ _)
  refine nearest_le _ _ _ (k + 1) (by omega) (by omega) ?_
  rw [signed_sg, signed_sg]
  have hle : (sg s (m * 2 ^ (i - min i j).toNat) + sg t (n * 2 ^ (j - min i j).toNat)).natAbs ≤ m * 2 ^ (i - min i j).toNat + n * 2 ^ (j - min i j).toNat := by
    have := Int.natAbs_add_le (sg s (m * 2 ^ (i - min i j).toNat)) (sg t (n * 2 ^ (j - min i j).toNat))
    rw [natAbs_sg, natAbs_sg] at this
    exact this
  refine Nat.le_trans (Nat.mul_le_mul_right _ hle) ?_
  rw [Nat.add_mul, Nat.mul_assoc, Nat.mul_assoc, ← Nat.pow_add, ← Nat.pow_add, Nat.pow_succ]
  rw [show (i - min i j).toNat + (min i j + 149).toNat = (i - -149).toNat by omega, show (j - min i j).toNat + (min i j + 149).toNat = (j - -149).toNat by omega, ← a3, ← b3]
  omega
end Go.Proofs.Ytgecclccmmcdoaa.Flt
