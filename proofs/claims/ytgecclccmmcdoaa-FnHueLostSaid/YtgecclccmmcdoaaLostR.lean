/-
  What is proved: two plain lines of the same colours, one of them odd, that came through a plain channel, are decoded to these colours times the real part of its gain.
  Conditions: those that each fact names.
-/
import Derived.Test.YtgecclccmmcdoaaLostQ
import Derived.Test.YtgecclccmmcdoaaPkLe
namespace Go.Proofs.Ytgecclccmmcdoaa
set_option linter.unusedVariables false
open Go.RowKit
open Flt

theorem sgo_not (o : Bool) : sgo (!o) = - sgo o := by cases o <;> rfl
theorem sgo_two (o : Bool) : (o = false ∧ sgo o = 1) ∨ (o = true ∧ sgo o = -1) := by cases o <;> simp [sgo]
theorem sq_pos {ξ η : Int} (h : ¬(ξ = 0 ∧ η = 0)) : 0 < ξ * ξ + η * η := by
  have h1 : 0 ≤ ξ * ξ := by rw [← Int.natAbs_mul_self]; exact Int.natCast_nonneg _
  have h2 : 0 ≤ η * η := by rw [← Int.natAbs_mul_self]; exact Int.natCast_nonneg _
  by_cases e : ξ = 0
  · have e2 : η ≠ 0 := fun e2 => h ⟨e, e2⟩
    have : η * η ≠ 0 := Int.mul_ne_zero e2 e2
    omega
  · have : ξ * ξ ≠ 0 := Int.mul_ne_zero e e
    omega
/-- The swing of two lines that came through a channel. -/
theorem swingT {h : Chn} {α ω ξ η : Int} (hh : PlainH h α ω ξ η) (h0 : ¬(ξ = 0 ∧ η = 0)) {cs ds : List C3} (hp : PlainR cs) (h1 : 1 ≤ cs.length) (h2 : cs.length ≤ 64) (hq : PlainR ds) (k1 : 1 ≤ ds.length) (k2 : ds.length ≤ 64) (o : Bool) {n : Int}
    (hs : SwingR (txs h (lineL cs o)) (txs h (lineL ds (!o))) n) : n = sgo o := by
  obtain ⟨p, q, p', q', o1, o2, b1, b2, rfl⟩ := hs
  obtain ⟨rfl, p1, q1⟩ := burstT hh hp h1 h2 o b1
  obtain ⟨rfl, p2, q2⟩ := burstT hh hq k1 k2 (!o) b2
  rw [sgo_not] at p2 q2
  have hξ := hh.2.2.2.1
  have hη := hh.2.2.2.2
  rw [if_pos (show (true && true) = true from rfl)]
  have hsq := sq_pos h0
  have l1 : (ξ * ξ).natAbs ≤ 64 := mul_le hξ hξ
  have l2 : (η * η).natAbs ≤ 64 := mul_le hη hη
  rcases sgo_two o with ⟨rfl, hs⟩ | ⟨rfl, hs⟩
  · rw [hs] at p1 q1 p2 q2
    have d1 := q_subv q1 q2 (by omega) (by decide)
    have d2 := q_subv p1 p2 (by omega) (by decide)
    have s1 := q_sumv p1 p2 (by omega) (by decide)
    have s2 := q_sumv q1 q2 (by omega) (by decide)
    have e1 : (-η + 1 * ξ - (-η + -1 * ξ)) * (-ξ - 1 * η + (-ξ - -1 * η)) = -4 * (ξ * ξ) := by grind
    have e2 : (-ξ - 1 * η - (-ξ - -1 * η)) * (-η + 1 * ξ + (-η + -1 * ξ)) = 4 * (η * η) := by grind
    have m1 := q_mulv d1 s1 (by rw [e1]; omega) (by decide) (by decide)
    have m2 := q_mulv d2 s2 (by rw [e2]; omega) (by decide) (by decide)
    rw [e1] at m1
    rw [e2] at m2
    have x1 := q_subv m1 m2 (by omega) (by decide)
    have ho := Q.order x1 (Q.zero 153)
    refine (if_pos ?_).trans hs.symm
    show (Ieee.single.order (swingX p q p' q') 0 == some .lt) = true
    unfold swingX
    rw [ho, Int.compare_eq_lt.2 (by omega)]
    rfl
  · rw [hs] at p1 q1 p2 q2
    have d1 := q_subv q1 q2 (by omega) (by decide)
    have d2 := q_subv p1 p2 (by omega) (by decide)
    have s1 := q_sumv p1 p2 (by omega) (by decide)
    have s2 := q_sumv q1 q2 (by omega) (by decide)
    have e1 : (-η + -1 * ξ - (-η + - -1 * ξ)) * (-ξ - -1 * η + (-ξ - - -1 * η)) = 4 * (ξ * ξ) := by grind
    have e2 : (-ξ - -1 * η - (-ξ - - -1 * η)) * (-η + -1 * ξ + (-η + - -1 * ξ)) = -4 * (η * η) := by grind
    have m1 := q_mulv d1 s1 (by rw [e1]; omega) (by decide) (by decide)
    have m2 := q_mulv d2 s2 (by rw [e2]; omega) (by decide) (by decide)
    rw [e1] at m1
    rw [e2] at m2
    have x1 := q_subv m1 m2 (by omega) (by decide)
    have ho := Q.order x1 (Q.zero 153)
    have hgt : (Ieee.single.order (swingX p q p' q') 0) = some .gt := by
      unfold swingX
      rw [ho, Int.compare_eq_gt.2 (by omega)]
    rw [hs]
    unfold swing
    rw [hgt]
    rfl
/-- The decoded rows of two lines that came through a channel. -/
structure Lost (α ω ξ : Int) (cs r0 r1 : List C3) : Prop where
  l0 : r0.length = cs.length
  l1 : r1.length = cs.length
  at0 : ∀ i (h : i < r0.length) (h' : i < cs.length) (y a b : Int), PC cs[i] y a b → QC 143 r0[i] (α * y + ω * 2 ^ 3) (a * ξ) (b * ξ) ∧ (α * y + ω * 2 ^ 3).natAbs ≤ 8448
  at1 : ∀ i (h : i < r1.length) (h' : i < cs.length) (y a b : Int), PC cs[i] y a b → Q 143 r1[i].2.1 (a * ξ) ∧ Q 143 r1[i].2.2 (b * ξ)
theorem pairT {h : Chn} {α ω ξ η : Int} (hh : PlainH h α ω ξ η) (h0 : ¬(ξ = 0 ∧ η = 0)) {cs ds : List C3} (hp : PlainR cs) (h1 : 1 ≤ cs.length) (h2 : cs.length ≤ 64) (hq : PlainR ds) (hl : ds.length = cs.length)
    (hc : ∀ i (h : i < cs.length) (h' : i < ds.length), cs[i].2 = ds[i].2) (o : Bool) {rows : List (List C3)} {ok : Bool} (hr : PairR (txs h (lineL cs o)) (txs h (lineL ds (!o))) rows ok) :
    ok = true ∧ ∃ r0 r1, rows = [r0, r1] ∧ Lost α ω ξ cs r0 r1 := by
  obtain ⟨ps, qs, o1, o2, a1, a2, ho, hy, _⟩ := hr
  obtain ⟨rfl, l1, f1⟩ := aloneT hh hp h1 h2 o a1
  obtain ⟨rfl, l2, f2⟩ := aloneT hh hq (by omega) (by omega) (!o) a2
  have hok : ok = true := by rw [ho]; simp; omega
  obtain ⟨n, hs, rfl⟩ := hy hok
  obtain rfl := swingT hh h0 hp h1 h2 hq (by omega) (by omega) o hs
  have la : (rowA (sgo o) ps qs).length = cs.length := by unfold rowA; rw [List.length_zipWith]; omega
  have lb : (rowB (sgo o) ps qs).length = cs.length := by unfold rowB; rw [List.length_zipWith]; omega
  have key : ∀ i (h : i < cs.length) (y a b : Int), PC cs[i] y a b → (QC 143 (ps[i]'(by omega)) (α * y + ω * 2 ^ 3) (a * ξ - sgo o * b * η) (a * η + sgo o * b * ξ) ∧ (α * y + ω * 2 ^ 3).natAbs ≤ 8448) ∧ Q 143 (sh (sgo o) (ps[i]'(by omega)).2 (qs[i]'(by omega)).2).1 (a * ξ) ∧ Q 143 (sh (sgo o) (ps[i]'(by omega)).2 (qs[i]'(by omega)).2).2 (b * ξ) := by
    intro i hi y a b hpc
    obtain ⟨k1, b1⟩ := f1 i (by omega) hi y a b hpc
    obtain ⟨y2, a2', b2', hqc⟩ := hq (ds[i]'(by omega)) (List.getElem_mem _)
    have hqc2 : PC (ds[i]'(by omega)) y2 a b := by
      have e := hc i hi (by omega)
      obtain ⟨_, c2, c3, d1, d2, d3⟩ := hpc
      rw [e] at c2 c3
      exact ⟨hqc.1, c2, c3, hqc.2.2.2.1, d2, d3⟩
    obtain ⟨k2, b2⟩ := f2 i (by omega) (by omega) y2 a b hqc2
    rw [sgo_not] at k2 b2
    refine ⟨⟨k1, b1.1⟩, ?_⟩
    obtain ⟨_, u1, v1⟩ := k1
    obtain ⟨_, u2, v2⟩ := k2
    have c1 := b1.2.1
    have c2 := b1.2.2
    have c3 := b2.2.1
    have c4 := b2.2.2
    rcases sgo_two o with ⟨rfl, hs⟩ | ⟨rfl, hs⟩
    · rw [hs] at u1 v1 u2 v2 c1 c2 c3 c4 ⊢
      unfold sh
      rw [if_pos rfl]
      refine ⟨half_q u1 u2 (by grind) (by omega) (by decide) (by decide), half_q v1 v2.neg (by grind) (by omega) (by decide) (by decide)⟩
    · rw [hs] at u1 v1 u2 v2 c1 c2 c3 c4 ⊢
      unfold sh
      rw [if_neg (by decide), if_pos rfl]
      refine ⟨half_q u1 u2 (by grind) (by omega) (by decide) (by decide), half_q v1.neg v2 (by grind) (by omega) (by decide) (by decide)⟩
  refine ⟨hok, _, _, rfl, la, lb, fun i h3 h4 y a b hpc => ?_, fun i h3 h4 y a b hpc => ?_⟩
  · obtain ⟨⟨k1, k2⟩, k3, k4⟩ := key i h4 y a b hpc
    have e : (rowA (sgo o) ps qs)[i] = mixA (sgo o) (ps[i]'(by omega)) (qs[i]'(by omega)) := List.getElem_zipWith
    rw [e]
    exact ⟨⟨k1.1, k3, k4⟩, k2⟩
  · obtain ⟨_, k3, k4⟩ := key i h4 y a b hpc
    have e : (rowB (sgo o) ps qs)[i] = mixB (sgo o) (ps[i]'(by omega)) (qs[i]'(by omega)) := List.getElem_zipWith
    rw [e]
    exact ⟨k3, k4⟩
theorem Lost.rok {α ω ξ : Int} {cs r0 r1 : List C3} (h : Lost α ω ξ cs r0 r1) (hp : PlainR cs) (hx : ξ.natAbs ≤ 8) (h1 : 1 ≤ cs.length) (h2 : cs.length ≤ 64) : Proofs.Ytgecclccmmcdoaa.rok r0 = true := by
  refine rok_iff.2 ⟨by rw [h.l0]; omega, fun d hd => ?_⟩
  obtain ⟨i, hi, rfl⟩ := List.mem_iff_getElem.1 hd
  have hi' : i < cs.length := by rw [← h.l0]; exact hi
  obtain ⟨y, a, b, hc⟩ := hp cs[i] (List.getElem_mem _)
  obtain ⟨k1, k2⟩ := h.at0 i hi hi' y a b hc
  have m1 := mul_le (n := 8) hc.2.2.2.2.1 hx
  have m2 := mul_le (n := 8) hc.2.2.2.2.2 hx
  exact k1.finc ⟨k2, by omega, by omega⟩
/-- The colours are not turned. -/
theorem Lost.turn {α ω ξ : Int} {cs r0 r1 : List C3} (h : Lost α ω ξ cs r0 r1) (hp : PlainR cs) (hx : ξ.natAbs ≤ 8) : ∀ k, k ≤ cs.length → Q 139 (tsum cs r0 k) 0
  | 0, _ => Q.zero 139
  | k + 1, hk => by
    have ih := h.turn hp hx k (by omega)
    have hk' : k < cs.length := by omega
    have hk0 : k < r0.length := by rw [h.l0]; exact hk'
    obtain ⟨y, a, b, hc⟩ := hp cs[k] (List.getElem_mem _)
    obtain ⟨k1, _⟩ := h.at0 k hk0 hk' y a b hc
    have m1 := mul_le (n := 8) hc.2.2.2.2.1 hx
    have m2 := mul_le (n := 8) hc.2.2.2.2.2 hx
    have m3 := mul_le hc.2.2.2.2.1 m2
    have m4 := mul_le hc.2.2.2.2.2 m1
    have q1 := q_mulv hc.2.1.q k1.2.2 (by omega) (by decide) (by decide)
    have q2 := q_mulv hc.2.2.1.q k1.2.1 (by omega) (by decide) (by decide)
    have e : a * (b * ξ) - b * (a * ξ) = 0 := by grind
    have q3 := q_subv q1 q2 (by rw [e]; decide) (by decide)
    rw [e] at q3
    have q4 := q_sumv ih q3 (by decide) (by decide)
    show Q 139 (sumv (tsum cs r0 k) (tterm (cs.getD k (0, 0, 0)) (r0.getD k (0, 0, 0)))) 0
    rw [List.getD_eq_getElem?_getD, List.getElem?_eq_getElem hk', List.getD_eq_getElem?_getD, List.getElem?_eq_getElem hk0]
    exact q4
theorem Lost.turnV {α ω ξ : Int} {cs r0 r1 : List C3} (h : Lost α ω ξ cs r0 r1) (hp : PlainR cs) (hx : ξ.natAbs ≤ 8) (h1 : 1 ≤ cs.length) (h2 : cs.length ≤ 64) : meanOk cs r0 = true ∧ Ieee.single.order (Proofs.Ytgecclccmmcdoaa.turnV cs r0) 0 = some .eq := by
  have hm : meanOk cs r0 = true := by
    unfold meanOk
    rw [hp.rok h1 h2, h.rok hp hx h1 h2]
    simp [h.l0]
  refine ⟨hm, ?_⟩
  unfold Proofs.Ytgecclccmmcdoaa.turnV
  rw [if_pos hm]
  exact Q.eq (h.turn hp hx _ (Nat.le_refl _)) (Q.zero 139)
/-- The colours that are due, and the brightness. -/
theorem Lost.due {h : Chn} {α ω ξ η : Int} {cs r0 r1 : List C3} (hl : Lost α ω ξ cs r0 r1) (hp : PlainR cs) (hh : PlainH h α ω ξ η) {i : Nat} (hi : i < cs.length) (h3 : i < r0.length) (h4 : i < r1.length) :
    (floatBits .mul .f32 h.X cs[i].2.1 = some (mulv h.X cs[i].2.1) ∧ floatBits .mul .f32 h.X cs[i].2.2 = some (mulv h.X cs[i].2.2) ∧ floatBits .mul .f32 h.A cs[i].1 = some (mulv h.A cs[i].1) ∧ floatBits .add .f32 (mulv h.A cs[i].1) h.O = some (sumv (mulv h.A cs[i].1) h.O)) ∧
    (Ieee.single.order r0[i].2.1 (mulv h.X cs[i].2.1) = some .eq ∧ Ieee.single.order r0[i].2.2 (mulv h.X cs[i].2.2) = some .eq) ∧ (Ieee.single.order r1[i].2.1 (mulv h.X cs[i].2.1) = some .eq ∧ Ieee.single.order r1[i].2.2 (mulv h.X cs[i].2.2) = some .eq) ∧ Ieee.single.order r0[i].1 (sumv (mulv h.A cs[i].1) h.O) = some .eq := by
  obtain ⟨y, a, b, hc⟩ := hp cs[i] (List.getElem_mem _)
  obtain ⟨k1, k2⟩ := hl.at0 i h3 hi y a b hc
  obtain ⟨k3, k4⟩ := hl.at1 i h4 hi y a b hc
  obtain ⟨⟨hA, hO, hX, hY⟩, hα, hω, hξ, hη⟩ := hh
  obtain ⟨b1, b2, b3⟩ := hc.2.2.2
  have m1 := mul_le (n := 512) hξ b2
  have m2 := mul_le (n := 512) hξ b3
  have m3 := mul_le (a := α) (m := 8) (n := 1024) (by omega) b1
  obtain ⟨x1, e1, q1⟩ := hX.mul hc.2.1.q (by omega) (by decide) (by decide)
  obtain ⟨x2, e2, q2⟩ := hX.mul hc.2.2.1.q (by omega) (by decide) (by decide)
  obtain ⟨x3, e3, q3⟩ := hA.mul hc.1.q (by omega) (by decide) (by decide)
  have hO3 := hO.lift 3 (by decide)
  obtain ⟨x4, e4, q4⟩ := Q.add q3 hO3 (by omega) (by decide)
  have v1 : mulv h.X cs[i].2.1 = x1 := by unfold mulv; rw [e1]; rfl
  have v2 : mulv h.X cs[i].2.2 = x2 := by unfold mulv; rw [e2]; rfl
  have v3 : mulv h.A cs[i].1 = x3 := by unfold mulv; rw [e3]; rfl
  have v4 : sumv x3 h.O = x4 := by unfold sumv; rw [e4]; rfl
  rw [v1, v2, v3, v4]
  rw [Int.mul_comm ξ a] at q1
  rw [Int.mul_comm ξ b] at q2
  exact ⟨⟨e1, e2, e3, e4⟩, ⟨Q.eq k1.2.1 q1, Q.eq k1.2.2 q2⟩, ⟨Q.eq k3 q1, Q.eq k4 q2⟩, Q.eq k1.1 q4⟩
end Go.Proofs.Ytgecclccmmcdoaa
