/-
  What is proved: plain channels and their chains are valid, and of small numbers.
  Conditions: those that each fact names.
-/
import Derived.Test.YtgecclccmmcdoaaChanOk
import Derived.Test.YtgecclccmmcdoaaOnCell
import Derived.Test.YtgecclccmmcdoaaPkCh
namespace Go.Proofs.Ytgecclccmmcdoaa
set_option linter.unusedVariables false
open Go.RowKit
open Flt (Q Mag sumv subv mulv quov)

theorem leb_e {e x y : Nat} {a b : Int} (hx : Q e x a) (hy : Q e y b) (h : a ≤ b) : leb x y = true :=
  leb_q hx hy (by
    have h0 : (0 : Int) ≤ 2 ^ e := by rw [Flt.pow_cast]; exact Int.natCast_nonneg _
    exact Int.mul_le_mul_of_nonneg_right h h0)
theorem q_16 : Q 149 1098907648 16 := Flt.q_word (by decide) (show Ieee.single.read 1098907648 = .number false 8388608 (-19) by decide +kernel) (by decide +kernel)
theorem q_n16 : Q 149 3246391296 (-16) := Flt.q_word (by decide) (show Ieee.single.read 3246391296 = .number true 8388608 (-19) by decide +kernel) (by decide +kernel)
theorem q_c64 : Q 149 1115684864 64 := Flt.q_word (by decide) (show Ieee.single.read 1115684864 = .number false 8388608 (-17) by decide +kernel) (by decide +kernel)
theorem q_cn64 : Q 149 3263168512 (-64) := Flt.q_word (by decide) (show Ieee.single.read 3263168512 = .number true 8388608 (-17) by decide +kernel) (by decide +kernel)
theorem q_magn {e k x : Nat} {a : Int} (h : Q e x a) (hl : a.natAbs * 2 ^ e ≤ 2 ^ k) : Mag (k + 1) x := by
  obtain ⟨_, s, u, hx, ha⟩ := h
  exact Flt.mag_num hx (by rw [Flt.q_abs ha]; exact hl)
theorem mul_lim {n m e k : Nat} (h : n ≤ m) (hm : m * 2 ^ e ≤ 2 ^ k) : n * 2 ^ e ≤ 2 ^ k := Nat.le_trans (Nat.mul_le_mul_right _ h) hm
theorem pos_q {e x : Nat} {a : Int} (h : Q e x a) (h1 : 1 ≤ a) : Ieee.single.order 0 x = some .lt := by
  rw [(Q.zero e).order h, Flt.cmp_lt (by omega)]
theorem plain_valid {h : Chn} {α ω ξ η : Int} (hp : PlainH h α ω ξ η) : ChOk h ∧ MagH h := by
  obtain ⟨⟨qA, qO, qX, qY⟩, ⟨a1, a2⟩, hω, hξ, hη⟩ := hp
  have s1 := q_16.lift 2 (by decide)
  have s2 := q_n16.lift 2 (by decide)
  have s3 := q_c64.lift 3 (by decide)
  have s4 := q_cn64.lift 3 (by decide)
  exact ⟨⟨pos_q qA a1, leb_e qA s1 (by omega), leb_e s4 qO (by omega), leb_e qO s3 (by omega), leb_e s2 qX (by omega), leb_e qX s1 (by omega), leb_e s2 qY (by omega), leb_e qY s1 (by omega)⟩,
    ⟨(q_magn (k := 150) qA (mul_lim (m := 8) (by omega) (by decide +kernel))).mono (by decide), (q_magn (k := 151) qO (mul_lim (m := 32) (by omega) (by decide +kernel))).mono (by decide), (q_magn (k := 150) qX (mul_lim (m := 8) (by omega) (by decide +kernel))).mono (by decide), (q_magn (k := 150) qY (mul_lim (m := 8) (by omega) (by decide +kernel))).mono (by decide)⟩⟩
theorem chain_valid {h : Chn} {α ω ξ η : Int} (hq : QH 145 144 h α ω ξ η) (hα : 1 ≤ α ∧ α ≤ 64) (hω : ω.natAbs ≤ 384) (hξ : ξ.natAbs ≤ 128) (hη : η.natAbs ≤ 128) : ChOk h ∧ MagH h := by
  obtain ⟨qA, qO, qX, qY⟩ := hq
  obtain ⟨a1, a2⟩ := hα
  have s1 := q_16.lift 4 (by decide)
  have s2 := q_n16.lift 4 (by decide)
  have s3 := q_c64.lift 5 (by decide)
  have s4 := q_cn64.lift 5 (by decide)
  exact ⟨⟨pos_q qA a1, leb_e qA s1 (by omega), leb_e s4 qO (by omega), leb_e qO s3 (by omega), leb_e s2 qX (by omega), leb_e qX s1 (by omega), leb_e s2 qY (by omega), leb_e qY s1 (by omega)⟩,
    ⟨(q_magn (k := 151) qA (mul_lim (m := 64) (by omega) (by decide +kernel))).mono (by decide), (q_magn (k := 153) qO (mul_lim (m := 512) (by omega) (by decide +kernel))).mono (by decide), (q_magn (k := 152) qX (mul_lim (m := 128) (by omega) (by decide +kernel))).mono (by decide), (q_magn (k := 152) qY (mul_lim (m := 128) (by omega) (by decide +kernel))).mono (by decide)⟩⟩
end Go.Proofs.Ytgecclccmmcdoaa
