/-
  What is proved: samples of plain rows come through two plain channels as through their chain; no sample is too large on the way.
  Conditions: none beyond plainness.
-/
import Derived.Test.YtnedmhhodmmddaaTxQ
import Derived.Test.YtnedmhhodmmddaaPlain
namespace Go.Proofs.Ytnedmhhodmmddaa
set_option linter.unusedVariables false
open Go.RowKit
open Flt (Mag sumv subv mulv quov Q)

/-- Lists of equal numbers. -/
def EqL (xs ys : List Nat) : Prop := xs.length = ys.length ∧ ∀ i (h : i < xs.length) (h' : i < ys.length), Ieee.single.order xs[i] ys[i] = some .eq
theorem EqL.append {a b c d : List Nat} (h : EqL a b) (h' : EqL c d) : EqL (a ++ c) (b ++ d) := by
  obtain ⟨l1, e1⟩ := h
  obtain ⟨l2, e2⟩ := h'
  refine ⟨by rw [List.length_append, List.length_append, l1, l2], fun i hi hi' => ?_⟩
  by_cases hlt : i < a.length
  · rw [List.getElem_append_left hlt, List.getElem_append_left (by omega)]
    exact e1 i hlt (by omega)
  · rw [List.length_append] at hi hi'
    rw [List.getElem_append_right (by omega), List.getElem_append_right (by omega)]
    have := e2 (i - a.length) (by omega) (by omega)
    simp only [l1] at this ⊢
    exact this
theorem EqL.enc {f g : C3 → C3} : ∀ {cs : List C3}, (∀ c ∈ cs, EqL (enc4 (f c)) (enc4 (g c))) → EqL (enc (cs.map f)) (enc (cs.map g))
  | [], _ => ⟨rfl, fun i hi => absurd hi (by simp [Proofs.Ytnedmhhodmmddaa.enc])⟩
  | c :: cs, h => by
    show EqL (enc4 (f c) ++ Proofs.Ytnedmhhodmmddaa.enc (cs.map f)) (enc4 (g c) ++ Proofs.Ytnedmhhodmmddaa.enc (cs.map g))
    exact EqL.append (h c (by simp)) (EqL.enc fun d hd => h d (by simp [hd]))
theorem all_enc {p : Nat → Prop} {f : C3 → C3} {cs : List C3} (h : ∀ c ∈ cs, ∀ x ∈ enc4 (f c), p x) : ∀ x ∈ enc (cs.map f), p x := by
  intro x hx
  obtain ⟨d, hd, hx⟩ := List.mem_flatMap.1 hx
  obtain ⟨c, hc, rfl⟩ := List.mem_map.1 hd
  exact h c hc x hx
/-- A plain channel. -/
def PlainH (h : Chn) (α ω ξ η : Int) : Prop := QH 147 146 h α ω ξ η ∧ (1 ≤ α ∧ α ≤ 8) ∧ ω.natAbs ≤ 32 ∧ ξ.natAbs ≤ 8 ∧ η.natAbs ≤ 8
theorem PC.qc {c : C3} {a b d : Int} (h : PC c a b d) : QC 145 c a b d := ⟨h.1.q, h.2.1.q, h.2.2.1.q⟩
/-- The chain of two channels. -/
def chainH (a b : Chn) : Chn := ⟨mulv a.A b.A, sumv (mulv b.A a.O) b.O, timesRe a.X a.Y b.X b.Y, timesIm a.X a.Y b.X b.Y⟩
theorem lim_ok (n e : Nat) (h : n ≤ 2 ^ (159 - e)) (he : e ≤ 159) : n * 2 ^ e ≤ 2 ^ 159 := by
  have := Nat.mul_le_mul_right (2 ^ e) h
  rwa [← Nat.pow_add, Nat.sub_add_cancel he] at this
theorem one_tx {h : Chn} {α ω ξ η : Int} (hh : PlainH h α ω ξ η) {c : C3} {y a b : Int} (hc : QC 145 c y a b) (hy : y.natAbs ≤ 1024) (ha : a.natAbs ≤ 512) (hb : b.natAbs ≤ 512) :
    QC 143 (txC h (back c)) (α * y + ω * 2 ^ 3) (a * ξ - b * η) (a * η + b * ξ) ∧ (α * y + ω * 2 ^ 3).natAbs ≤ 8448 ∧ (a * ξ - b * η).natAbs ≤ 8192 ∧ (a * η + b * ξ).natAbs ≤ 8192 := by
  obtain ⟨hq, hα, hω, hξ, hη⟩ := hh
  have m1 := mul_le (a := α) (b := y) (m := 8) (n := 1024) (by omega) hy
  have m2 := mul_le (a := ω) (b := 2 ^ 3) (m := 32) (n := 8) hω (by decide)
  have m3 := mul_le (n := 8) ha hξ
  have m4 := mul_le (n := 8) hb hη
  have m5 := mul_le (n := 8) ha hη
  have m6 := mul_le (n := 8) hb hξ
  have hk := hc.back (by decide) (by decide) (by omega) (by omega) (by omega)
  have r := q_tx (e := 145) (g := 147) (o := 146) (j := 3) hq hk (by decide) (by decide) (by decide) (by omega) (by omega) (by omega) (by omega) (by omega) (by omega)
  exact ⟨r, by omega, by omega, by omega⟩
theorem two_tx {h : Chn} {α ω ξ η : Int} (hh : PlainH h α ω ξ η) {c : C3} {y a b : Int} (hc : QC 143 c y a b) (hy : y.natAbs ≤ 8448) (ha : a.natAbs ≤ 8192) (hb : b.natAbs ≤ 8192) :
    QC 141 (txC h (back c)) (α * y + ω * 2 ^ 5) (a * ξ - b * η) (a * η + b * ξ) ∧ (α * y + ω * 2 ^ 5).natAbs ≤ 68608 ∧ (a * ξ - b * η).natAbs ≤ 131072 ∧ (a * η + b * ξ).natAbs ≤ 131072 := by
  obtain ⟨hq, hα, hω, hξ, hη⟩ := hh
  have m1 := mul_le (a := α) (b := y) (m := 8) (n := 8448) (by omega) hy
  have m2 := mul_le (a := ω) (b := 2 ^ 5) (m := 32) (n := 32) hω (by decide)
  have m3 := mul_le (n := 8) ha hξ
  have m4 := mul_le (n := 8) hb hη
  have m5 := mul_le (n := 8) ha hη
  have m6 := mul_le (n := 8) hb hξ
  have hk := hc.back (by decide) (by decide) (by omega) (by omega) (by omega)
  have r := q_tx (e := 143) (g := 147) (o := 146) (j := 5) hq hk (by decide) (by decide) (by decide) (by omega) (by omega) (by omega) (by omega) (by omega) (by omega)
  exact ⟨r, by omega, by omega, by omega⟩
theorem chain_q {h k : Chn} {α ω ξ η α' ω' ξ' η' : Int} (hh : PlainH h α ω ξ η) (hk : PlainH k α' ω' ξ' η') :
    QH 145 144 (chainH h k) (α * α') (α' * ω + ω' * 2 ^ 2) (ξ * ξ' - η * η') (ξ * η' + η * ξ') ∧ (1 ≤ α * α' ∧ α * α' ≤ 64) ∧ (α' * ω + ω' * 2 ^ 2).natAbs ≤ 384 ∧ (ξ * ξ' - η * η').natAbs ≤ 128 ∧ (ξ * η' + η * ξ').natAbs ≤ 128 := by
  obtain ⟨⟨qA, qO, qX, qY⟩, ⟨a1, a2⟩, hω, hξ, hη⟩ := hh
  obtain ⟨⟨rA, rO, rX, rY⟩, ⟨b1, b2⟩, hω', hξ', hη'⟩ := hk
  have m1 := mul_le (a := α) (b := α') (m := 8) (n := 8) (by omega) (by omega)
  have m2 := mul_le (a := α') (b := ω) (m := 8) (n := 32) (by omega) hω
  have m3 := mul_le (a := ω') (b := 2 ^ 2) (m := 32) (n := 4) hω' (by decide)
  have m4 := mul_le (n := 8) hξ hξ'
  have m5 := mul_le (n := 8) hη hη'
  have m6 := mul_le (n := 8) hξ hη'
  have m7 := mul_le (n := 8) hη hξ'
  have hp : 1 ≤ α * α' := by
    have := Int.mul_pos (show 0 < α by omega) (show 0 < α' by omega)
    omega
  have k1 := q_mulv qA rA (by omega) (by decide) (by decide)
  have k2 := q_mulv rA qO (by omega) (by decide) (by decide)
  have k3 := rO.lift 2 (by decide)
  have f1 := q_mulv qX rX (by omega) (by decide) (by decide)
  have f2 := q_mulv qY rY (by omega) (by decide) (by decide)
  have f3 := q_mulv qX rY (by omega) (by decide) (by decide)
  have f4 := q_mulv qY rX (by omega) (by decide) (by decide)
  exact ⟨⟨k1, q_sumv k2 k3 (by omega) (by decide), q_subv f1 f2 (by omega) (by decide), q_sumv f3 f4 (by omega) (by decide)⟩, ⟨hp, by omega⟩, by omega, by omega, by omega⟩
theorem chain_tx {h : Chn} {α ω ξ η : Int} (hq : QH 145 144 h α ω ξ η) (hα : α.natAbs ≤ 64) (hω : ω.natAbs ≤ 384) (hξ : ξ.natAbs ≤ 128) (hη : η.natAbs ≤ 128) {c : C3} {y a b : Int} (hc : QC 145 c y a b) (hy : y.natAbs ≤ 1024) (ha : a.natAbs ≤ 512) (hb : b.natAbs ≤ 512) :
    QC 141 (txC h (back c)) (α * y + ω * 2 ^ 3) (a * ξ - b * η) (a * η + b * ξ) := by
  have m1 := mul_le (n := 1024) hα hy
  have m2 := mul_le (a := ω) (b := 2 ^ 3) (m := 384) (n := 8) hω (by decide)
  have m3 := mul_le (n := 128) ha hξ
  have m4 := mul_le (n := 128) hb hη
  have m5 := mul_le (n := 128) ha hη
  have m6 := mul_le (n := 128) hb hξ
  have hk := hc.back (by decide) (by decide) (by omega) (by omega) (by omega)
  have r := q_tx (e := 145) (g := 145) (o := 144) (j := 3) hq hk (by decide) (by decide) (by decide) (by omega) (by omega) (by omega) (by omega) (by omega) (by omega)
  exact r
theorem chain_y (α α' y ω ω' : Int) : α' * (α * y + ω * 2 ^ 3) + ω' * 2 ^ 5 = (α * α') * y + (α' * ω + ω' * 2 ^ 2) * 2 ^ 3 := by
  have e1 : α' * (α * y + ω * 2 ^ 3) = (α * α') * y + α' * ω * 2 ^ 3 := by rw [Int.mul_add]; congr 1 <;> ac_rfl
  rw [e1, Int.add_mul, Int.add_assoc, Int.mul_assoc ω']
  rfl
theorem chain_re (a b ξ η ξ' η' : Int) : (a * ξ - b * η) * ξ' - (a * η + b * ξ) * η' = a * (ξ * ξ' - η * η') - b * (ξ * η' + η * ξ') := by
  rw [Int.sub_mul, Int.add_mul, Int.mul_sub, Int.mul_add, Int.mul_assoc, Int.mul_assoc, Int.mul_assoc, Int.mul_assoc]; omega
theorem chain_im (a b ξ η ξ' η' : Int) : (a * ξ - b * η) * η' + (a * η + b * ξ) * ξ' = a * (ξ * η' + η * ξ') + b * (ξ * ξ' - η * η') := by
  rw [Int.sub_mul, Int.add_mul, Int.mul_sub, Int.mul_add, Int.mul_assoc, Int.mul_assoc, Int.mul_assoc, Int.mul_assoc]; omega
/-- Plain rows through two plain channels, and through their chain. -/
theorem chained {h k : Chn} {α ω ξ η α' ω' ξ' η' : Int} (hh : PlainH h α ω ξ η) (hk : PlainH k α' ω' ξ' η') {cs : List C3} (hp : PlainR cs) :
    (∀ x ∈ txs h (enc cs), fin1 x = true) ∧ (∀ x ∈ txs k (txs h (enc cs)), fin1 x = true) ∧ (∀ x ∈ txs (chainH h k) (enc cs), fin1 x = true) ∧ EqL (txs k (txs h (enc cs))) (txs (chainH h k) (enc cs)) := by
  rw [txs_enc h, txs_enc k, txs_enc (chainH h k), List.map_map]
  obtain ⟨hq, hA, hO, hX, hY⟩ := chain_q hh hk
  have key : ∀ c ∈ cs, (∀ x ∈ enc4 (txC h (back c)), fin1 x = true) ∧ ∃ y a b : Int, QC 141 (txC k (back (txC h (back c)))) y a b ∧ QC 141 (txC (chainH h k) (back c)) y a b ∧ y.natAbs ≤ 68608 ∧ a.natAbs ≤ 131072 ∧ b.natAbs ≤ 131072 := by
    intro c hc
    obtain ⟨y, a, b, hpc⟩ := hp c hc
    obtain ⟨b1, b2, b3⟩ := hpc.2.2.2
    obtain ⟨k1, c1, c2, c3⟩ := one_tx hh hpc.qc b1 b2 b3
    obtain ⟨k2, d1, d2, d3⟩ := two_tx hk k1 c1 c2 c3
    have k3 := chain_tx hq (by omega) hO hX hY hpc.qc b1 b2 b3
    refine ⟨k1.fins (by decide) (by omega) (by omega) (by omega) (lim_ok _ 143 (by omega) (by decide)) (lim_ok _ 143 (by omega) (by decide)), _, _, _, k2, ?_, d1, d2, d3⟩
    rw [chain_y, chain_re, chain_im]
    exact k3
  refine ⟨all_enc fun c hc => (key c hc).1, all_enc fun c hc => ?_, all_enc fun c hc => ?_, EqL.enc fun c hc => ?_⟩
  · obtain ⟨_, y, a, b, k2, k3, d1, d2, d3⟩ := key c hc
    exact k2.fins (by decide) (by omega) (by omega) (by omega) (lim_ok _ 141 (by omega) (by decide)) (lim_ok _ 141 (by omega) (by decide))
  · obtain ⟨_, y, a, b, k2, k3, d1, d2, d3⟩ := key c hc
    exact k3.fins (by decide) (by omega) (by omega) (by omega) (lim_ok _ 141 (by omega) (by decide)) (lim_ok _ 141 (by omega) (by decide))
  · obtain ⟨_, y, a, b, k2, k3, d1, d2, d3⟩ := key c hc
    exact ⟨rfl, fun i hi hi' => k2.same k3 (by decide) (by omega) (by omega) (by omega) i hi hi'⟩
end Go.Proofs.Ytnedmhhodmmddaa
