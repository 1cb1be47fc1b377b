/-
  What is proved: a plain channel that turns by quarters, and its undoing, are together no channel at all; a plain channel with no gain changes nothing.
  Conditions: none beyond plainness.
-/
import Derived.Test.YtnedmhhodmmddaaPow
namespace Go.Proofs.Ytnedmhhodmmddaa
set_option linter.unusedVariables false
open Ieee
open Flt (Mag sumv subv mulv quov Q)

theorem res_addv {x y r v : Nat} (h : Res .add x y r) (e : ∃ v, floatBits .add .f32 x y = some v) : r = sumv x y := by
  obtain ⟨v, e⟩ := e
  rw [res_some h e]; unfold sumv; rw [e]; rfl
theorem res_mulv {x y r : Nat} (h : Res .mul x y r) (e : ∃ v, floatBits .mul .f32 x y = some v) : r = mulv x y := by
  obtain ⟨v, e⟩ := e
  rw [res_some h e]; unfold mulv; rw [e]; rfl
theorem res_quov {x y r : Nat} (h : Res .quo x y r) (e : ∃ v, floatBits .quo .f32 x y = some v) : r = quov x y := by
  obtain ⟨v, e⟩ := e
  rw [res_some h e]; unfold quov; rw [e]; rfl
/-- The gains of brightness of a plain channel, their exponents, and their reciprocals. -/
def plainA : List (Nat × Int × Nat × Nat) := [(1048576000, -25, 1082130432, 2), (1056964608, -24, 1073741824, 1), (1065353216, -23, 1065353216, 0), (1073741824, -22, 1056964608, 0)]
theorem q_one : Q 149 1065353216 1 := Flt.q_word (by decide) (show single.read 1065353216 = .number false 8388608 (-23) by decide +kernel) (by decide +kernel)
/-- What is moved back, exactly: A' times Offset, and the quotient of -Offset and A, are opposite. -/
theorem undo_offset {A A' O : Nat} {ω : Int} (hA : A = 1048576000 ∧ A' = 1082130432 ∨ A = 1056964608 ∧ A' = 1073741824 ∨ A = 1065353216 ∧ A' = 1065353216 ∨ A = 1073741824 ∧ A' = 1056964608) (hO : Q 146 O ω) (hω : ω.natAbs ≤ 32) :
    (∃ v, floatBits .quo .f32 (Go.Op.negFloat .f32 O) A = some v) ∧ (∃ v, floatBits .mul .f32 A' O = some v) ∧ ∃ e k, Q e (quov (Go.Op.negFloat .f32 O) A) (-k) ∧ Q e (mulv A' O) k ∧ k.natAbs ≤ 128 ∧ k.natAbs * 2 ^ e ≤ 2 ^ 153 ∧ e ≤ 240 := by
  have hn := hO.neg
  rcases hA with ⟨rfl, rfl⟩ | ⟨rfl, rfl⟩ | ⟨rfl, rfl⟩ | ⟨rfl, rfl⟩
  · have r1 : single.read 1048576000 = .number false 8388608 (-25) := by decide +kernel
    have q4 : Q 149 1082130432 4 := Flt.q_word (by decide) (show single.read 1082130432 = .number false 8388608 (-21) by decide +kernel) (by decide +kernel)
    obtain ⟨a, a1, a2⟩ := hn.quo (f := 148) r1 (by omega) (by decide) (by decide)
    obtain ⟨b, b1, b2⟩ := q4.mul hO (by omega) (by decide) (by decide)
    refine ⟨⟨a, a1⟩, ⟨b, b1⟩, 146, 4 * ω, ?_, ?_, by omega, ?_, by decide⟩
    · have := a2.lift 2 (by decide)
      unfold quov; rw [a1]
      rw [show -(4 * ω) = -ω * 2 ^ 2 by omega]
      exact this
    · unfold mulv; rw [b1]; exact b2
    · exact Nat.le_trans (Nat.mul_le_mul_right (2 ^ 146) (show (4 * ω).natAbs ≤ 128 by omega)) (by decide)
  · have r1 : single.read 1056964608 = .number false 8388608 (-24) := by decide +kernel
    have q4 : Q 149 1073741824 2 := Flt.q_word (by decide) (show single.read 1073741824 = .number false 8388608 (-22) by decide +kernel) (by decide +kernel)
    obtain ⟨a, a1, a2⟩ := hn.quo (f := 147) r1 (by omega) (by decide) (by decide)
    obtain ⟨b, b1, b2⟩ := q4.mul hO (by omega) (by decide) (by decide)
    refine ⟨⟨a, a1⟩, ⟨b, b1⟩, 146, 2 * ω, ?_, ?_, by omega, ?_, by decide⟩
    · have := a2.lift 1 (by decide)
      unfold quov; rw [a1]
      rw [show -(2 * ω) = -ω * 2 ^ 1 by omega]
      exact this
    · unfold mulv; rw [b1]; exact b2
    · exact Nat.le_trans (Nat.mul_le_mul_right (2 ^ 146) (show (2 * ω).natAbs ≤ 128 by omega)) (by decide)
  · have r1 : single.read 1065353216 = .number false 8388608 (-23) := by decide +kernel
    obtain ⟨a, a1, a2⟩ := hn.quo (f := 146) r1 (by omega) (by decide) (by decide)
    obtain ⟨b, b1, b2⟩ := q_one.mul hO (by omega) (by decide) (by decide)
    refine ⟨⟨a, a1⟩, ⟨b, b1⟩, 146, 1 * ω, ?_, ?_, by omega, ?_, by decide⟩
    · unfold quov; rw [a1]
      rw [show -(1 * ω) = -ω by omega]
      exact a2
    · unfold mulv; rw [b1]; exact b2
    · exact Nat.le_trans (Nat.mul_le_mul_right (2 ^ 146) (show (1 * ω).natAbs ≤ 128 by omega)) (by decide)
  · have r1 : single.read 1073741824 = .number false 8388608 (-22) := by decide +kernel
    have q4 : Q 148 1056964608 1 := Flt.q_word (by decide) (show single.read 1056964608 = .number false 8388608 (-24) by decide +kernel) (by decide +kernel)
    obtain ⟨a, a1, a2⟩ := hn.quo (f := 145) r1 (by omega) (by decide) (by decide)
    obtain ⟨b, b1, b2⟩ := q4.mul hO (by omega) (by decide) (by decide)
    refine ⟨⟨a, a1⟩, ⟨b, b1⟩, 145, 1 * ω, ?_, ?_, by omega, ?_, by decide⟩
    · unfold quov; rw [a1]
      rw [show -(1 * ω) = -ω by omega]
      exact a2
    · unfold mulv; rw [b1]; exact b2
    · exact Nat.le_trans (Nat.mul_le_mul_right (2 ^ 145) (show (1 * ω).natAbs ≤ 128 by omega)) (by decide)
theorem undo_zero {A A' O s : Nat} {ω : Int} (hA : A = 1048576000 ∧ A' = 1082130432 ∨ A = 1056964608 ∧ A' = 1073741824 ∨ A = 1065353216 ∧ A' = 1065353216 ∨ A = 1073741824 ∧ A' = 1056964608) (hO : Q 146 O ω) (hω : ω.natAbs ≤ 32)
    (hs : Res .add (mulv A' O) (quov (Go.Op.negFloat .f32 O) A) s) : single.order s 0 = some .eq := by
  obtain ⟨_, _, e, k, k1, k2, k3, _, he⟩ := undo_offset hA hO hω
  obtain ⟨r, h1, h2⟩ := k2.add k1 (by omega) he
  obtain rfl := res_some hs h1
  rw [show k + -k = 0 by omega] at h2
  exact h2.eq (Q.zero e)
/-- A times its reciprocal. -/
theorem undo_gain {A A' : Nat} (hA : A = 1048576000 ∧ A' = 1082130432 ∨ A = 1056964608 ∧ A' = 1073741824 ∨ A = 1065353216 ∧ A' = 1065353216 ∨ A = 1073741824 ∧ A' = 1056964608) : floatBits .quo .f32 1065353216 A = some A' ∧ floatBits .mul .f32 A A' = some 1065353216 ∧ floatBits .mul .f32 A' A = some 1065353216 := by
  rcases hA with ⟨rfl, rfl⟩ | ⟨rfl, rfl⟩ | ⟨rfl, rfl⟩ | ⟨rfl, rfl⟩ <;> decide +kernel
/-- A channel without gain: the samples of plain rows stay. -/
theorem plain_through {cs : List C3} (hp : PlainR cs) : (∀ x ∈ txs ⟨1065353216, 0, 1065353216, 0⟩ (enc cs), fin1 x = true) ∧ EqL (txs ⟨1065353216, 0, 1065353216, 0⟩ (enc cs)) (enc cs) := by
  have q1 : Q 147 1065353216 4 := q_one.lift 2 (by decide)
  have hh : PlainH ⟨1065353216, 0, 1065353216, 0⟩ 4 0 4 0 := ⟨⟨q1, Q.zero _, q1, Q.zero _⟩, ⟨by decide, by decide⟩, by decide, by decide, by decide⟩
  have key : ∀ c ∈ cs, ∃ y a b : Int, QC 143 (txC ⟨1065353216, 0, 1065353216, 0⟩ (back c)) y a b ∧ QC 143 c y a b ∧ y.natAbs ≤ 8448 ∧ a.natAbs ≤ 8192 ∧ b.natAbs ≤ 8192 := by
    intro c hc
    obtain ⟨y, a, b, hpc⟩ := hp c hc
    obtain ⟨b1, b2, b3⟩ := hpc.2.2.2
    obtain ⟨k1, c1, c2, c3⟩ := one_tx hh hpc.qc b1 b2 b3
    refine ⟨_, _, _, k1, ?_, c1, c2, c3⟩
    obtain ⟨p1, p2, p3⟩ := hpc.qc
    refine ⟨?_, ?_, ?_⟩
    · have := p1.lift 2 (by decide)
      rwa [show y * 2 ^ 2 = 4 * y + 0 * 2 ^ 3 by omega] at this
    · have := p2.lift 2 (by decide)
      rwa [show a * 2 ^ 2 = a * 4 - b * 0 by omega] at this
    · have := p3.lift 2 (by decide)
      rwa [show b * 2 ^ 2 = a * 0 + b * 4 by omega] at this
  rw [txs_enc]
  refine ⟨all_enc fun c hc => ?_, ?_⟩
  · obtain ⟨y, a, b, k1, _, d1, d2, d3⟩ := key c hc
    exact k1.fins (by decide) (by omega) (by omega) (by omega) (lim_ok _ 143 (by omega) (by decide)) (lim_ok _ 143 (by omega) (by decide))
  · have := EqL.enc (f := fun c => txC ⟨1065353216, 0, 1065353216, 0⟩ (back c)) (g := id) (cs := cs) fun c hc => by
      obtain ⟨y, a, b, k1, k2, d1, d2, d3⟩ := key c hc
      exact ⟨rfl, fun i hi hi' => k1.same k2 (by decide) (by omega) (by omega) (by omega) i hi hi'⟩
    rwa [List.map_id] at this
end Go.Proofs.Ytnedmhhodmmddaa
