/-
  What is proved: a number of thousandths, narrowed to a single, is a number.
  Conditions: none.
-/
import Derived.Test.YtobpnoiienpipaaDoorBack
import Derived.Test.YtobpnoiienpipaaDoorPkNum
namespace Go.Proofs.YtobpnoiienpipaaDoor
set_option linter.unusedVariables false
open Go.RowKit

theorem nar_read {x : Nat} {s : Bool} {m : Nat} {e : Int} (h : Ieee.double.read x = .number s m e) (hb : m = 0 ∨ e + m.log2 ≤ 60) : floatToFloatBits .f64 x .f32 = some (Ieee.single.nearest s m e) ∧
    ∃ u, Flt.Num Ieee.single (Ieee.single.nearest s m e) s u := by
  have hnum : ∃ u, Flt.Num Ieee.single (Ieee.single.nearest s m e) s u := by
    by_cases hm : m = 0
    · refine ⟨0, ?_⟩
      have e1 : Ieee.single.nearest s m e = Ieee.single.word s 0 := by
        unfold Ieee.Format.nearest
        rw [if_pos hm]
      rw [e1]
      exact Flt.num_zero Ieee.single s (by rw [Flt.inf32]; decide)
    · have hb := hb.resolve_left hm
      obtain ⟨last, hlast⟩ : ∃ last : Int, last = max (e + m.log2 - Ieee.single.fractionBits) Ieee.single.leastPlace := ⟨_, rfl⟩
      have hf : Ieee.single.fractionBits = 23 := rfl
      have hp : Ieee.single.leastPlace = -149 := by decide
      obtain ⟨c, hc⟩ : ∃ c, c = (e - last).toNat := ⟨_, rfl⟩
      obtain ⟨d, hd⟩ : ∃ d, d = (last - e).toNat := ⟨_, rfl⟩
      refine ⟨_, Flt.num_nearest Ieee.single s m e hm last hlast c d hc hd ?_⟩
      rw [hf, hp] at hlast
      have hcut : Ieee.Toward.even.cut s (m * 2 ^ c) d ≤ 2 ^ 24 := by
        apply Flt.cut_le
        have h3 : m * 2 ^ c ≤ 2 ^ (m.log2 + 1) * 2 ^ c := Nat.mul_le_mul_right _ (Nat.le_of_lt (Flt.lt_log m))
        rw [← Nat.pow_add] at h3 ⊢
        exact Nat.le_trans h3 (Nat.pow_le_pow_right (by decide) (by omega))
      have hq : (last - Ieee.single.leastPlace).toNat ≤ 186 := by rw [hp]; omega
      have hmul : (last - Ieee.single.leastPlace).toNat * Ieee.single.binade ≤ 186 * Ieee.single.binade := Nat.mul_le_mul_right _ hq
      rw [Flt.bin32] at hmul ⊢
      rw [Flt.inf32]
      have h24 : (2 : Nat) ^ 24 = 2 * 2 ^ 23 := by decide
      have hpos : 0 < (2 : Nat) ^ 23 := by decide
      generalize (2 : Nat) ^ 23 = B at *
      omega
  refine ⟨?_, hnum⟩
  obtain ⟨u, m', e', hr, _⟩ := hnum
  unfold floatToFloatBits
  rw [if_neg (by decide)]
  have hdec : FloatKind.f64.decode x = .number s m e := h
  have henc : FloatKind.f32.encode (.number s m e) = Ieee.single.nearest s m e := rfl
  have hdec2 : FloatKind.f32.decode (Ieee.single.nearest s m e) = .number s m' e' := hr
  simp only [hdec, henc, hdec2, Ieee.Datum.isInfinity]
  rfl
theorem pow_gen (k : Nat) : (2 : Nat) ^ (k + 21) < 2 ^ (k + 22) := Nat.pow_lt_pow_right (by decide) (by omega)
theorem nar_ff (n : Int) : ∃ s m e, Ieee.double.read (ffBits n) = .number s m e ∧ (m = 0 ∨ e + m.log2 ≤ 60) := by
  obtain ⟨s, u, ⟨m, e, hr, he, hu⟩, hb⟩ := ffBits_num n
  refine ⟨s, m, e, hr, ?_⟩
  rw [Flt.place64] at he hu
  by_cases hm : m = 0
  · exact .inl hm
  · right
    have hl : 2 ^ m.log2 ≤ m := Nat.log2_self_le hm
    have h1 : 2 ^ (m.log2 + (e - -1074).toNat) ≤ Flt.ONE * 2097152 := by
      rw [Nat.pow_add]
      exact Nat.le_trans (Nat.mul_le_mul_right _ hl) (by rw [← hu]; exact hb)
    rw [show (2097152 : Nat) = 2 ^ 21 from by decide, Flt.one_pow 21] at h1
    have h4 := Flt.pow_lt (Nat.lt_of_le_of_lt h1 (pow_gen (Flt.E73 + 1)))
    have h5 := Flt.e73
    omega
end Go.Proofs.YtobpnoiienpipaaDoor
