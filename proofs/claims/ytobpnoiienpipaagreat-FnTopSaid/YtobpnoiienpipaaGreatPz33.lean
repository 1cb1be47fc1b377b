/-
  What is proved: two lines of a link, behind its channel and brought to level, are taken as the rows that were sent.
  Conditions: those that each fact names.
-/
import Derived.Test.YtobpnoiienpipaaGreatPz29
import Derived.Test.YtobpnoiienpipaaGreatPz32
import Derived.Test.YtobpnoiienpipaaGreatPz19
import Derived.Test.YtobpnoiienpipaaGreatPz04
import Derived.Test.YtobpnoiienpipaaGreatPz15
import Derived.Test.YtobpnoiienpipaaGreatPz05
import Derived.Deep.RegionHeld3
import Derived.IntWalk
namespace Go.Proofs.YtobpnoiienpipaaGreat
set_option linter.unusedVariables false
open Go.RowKit
open Flt

theorem swingZ {ξ η : Int} (hξ : FourG ξ) (hη : η.natAbs ≤ 4) {ks ls : List I3} {xs ys : List Nat} {o : Bool} (hx : LineZ ξ η ks o xs) (hy : LineZ ξ η ls (!o) ys) {n : Int} (hs : SwingR xs ys n) : n = sgo o := by
  obtain ⟨p, q, p', q', o1, o2, b1, b2, rfl⟩ := hs
  obtain ⟨rfl, p1, q1⟩ := hx.burst _ _ _ b1
  obtain ⟨rfl, p2, q2⟩ := hy.burst _ _ _ b2
  rw [sgo_not] at p2 q2
  have hρ : (2 * ξ).natAbs ≤ 4 := by have := hξ.le; omega
  have h0 : ¬(2 * ξ = 0 ∧ η = 0) := by rcases hξ with e | e | e | e <;> rw [e] <;> omega
  generalize 2 * ξ = ρ at *
  rw [if_pos (show (true && true) = true from rfl)]
  have hsq := sq_pos h0
  have l1 : (ρ * ρ).natAbs ≤ 16 := mul_le hρ hρ
  have l2 : (η * η).natAbs ≤ 16 := mul_le hη hη
  rcases sgo_two o with ⟨rfl, hs⟩ | ⟨rfl, hs⟩
  · rw [hs] at p1 q1 p2 q2
    have d1 := q_subv q1 q2 (by omega) (by decide)
    have d2 := q_subv p1 p2 (by omega) (by decide)
    have s1 := q_sumv p1 p2 (by omega) (by decide)
    have s2 := q_sumv q1 q2 (by omega) (by decide)
    have e1 : (-η + 1 * ρ - (-η + -1 * ρ)) * (-ρ - 1 * η + (-ρ - -1 * η)) = -4 * (ρ * ρ) := by grind
    have e2 : (-ρ - 1 * η - (-ρ - -1 * η)) * (-η + 1 * ρ + (-η + -1 * ρ)) = 4 * (η * η) := by grind
    have m1 := q_mulv d1 s1 (by rw [e1]; omega) (by decide) (by decide)
    have m2 := q_mulv d2 s2 (by rw [e2]; omega) (by decide) (by decide)
    rw [e1] at m1
    rw [e2] at m2
    have x1 := q_subv m1 m2 (by omega) (by decide)
    have ho := Q.order x1 (Q.zero 153)
    refine (if_pos ?_).trans hs.symm
    show (Ieee.single.order (swingX p q p' q') 0 == some .lt) = true
    unfold swingX
    rw [ho, Int.compare_eq_lt.2 (by omega)]
    rfl
  · rw [hs] at p1 q1 p2 q2
    have d1 := q_subv q1 q2 (by omega) (by decide)
    have d2 := q_subv p1 p2 (by omega) (by decide)
    have s1 := q_sumv p1 p2 (by omega) (by decide)
    have s2 := q_sumv q1 q2 (by omega) (by decide)
    have e1 : (-η + -1 * ρ - (-η + - -1 * ρ)) * (-ρ - -1 * η + (-ρ - - -1 * η)) = 4 * (ρ * ρ) := by grind
    have e2 : (-ρ - -1 * η - (-ρ - - -1 * η)) * (-η + -1 * ρ + (-η + - -1 * ρ)) = -4 * (η * η) := by grind
    have m1 := q_mulv d1 s1 (by rw [e1]; omega) (by decide) (by decide)
    have m2 := q_mulv d2 s2 (by rw [e2]; omega) (by decide) (by decide)
    rw [e1] at m1
    rw [e2] at m2
    have x1 := q_subv m1 m2 (by omega) (by decide)
    have ho := Q.order x1 (Q.zero 153)
    have hgt : (Ieee.single.order (swingX p q p' q') 0) = some .gt := by
      unfold swingX
      rw [ho, Int.compare_eq_gt.2 (by omega)]
    rw [hs]
    unfold swing
    rw [hgt]
    rfl
theorem hueZ {ξ η : Int} (hξ : FourG ξ) (hη : η.natAbs ≤ 4) {ks ls : List I3} {xs ys : List Nat} {o : Bool} (hx : LineZ ξ η ks o xs) (hy : LineZ ξ η ls (!o) ys) {u z : Nat} {f : Bool} (hs : HueR xs ys u z f) : Q 148 u ξ := by
  obtain ⟨p, q, p', q', o1, o2, b1, b2, hf, hyes, _⟩ := hs
  obtain ⟨rfl, p1, q1⟩ := hx.burst _ _ _ b1
  obtain ⟨rfl, p2, q2⟩ := hy.burst _ _ _ b2
  obtain ⟨rfl, _⟩ := hyes hf
  rw [sgo_not] at p2
  have hx := hξ.le
  have hs : sgo o = 1 ∨ sgo o = -1 := by cases o <;> simp [sgo]
  have s1 := q_sumv p1 p2 (by rcases hs with h | h <;> rw [h] <;> omega) (by decide)
  rw [show -(2 * ξ) - sgo o * η + (-(2 * ξ) - -sgo o * η) = -4 * ξ by grind] at s1
  obtain ⟨r, e1, e2⟩ := Q.quo (f := 146) read_n32 s1 (by omega) (by decide) (by decide)
  rw [if_pos rfl, show -(-4 * ξ) = ξ * 2 ^ 2 by omega] at e2
  have e3 : hueOf p p' = r := by
    unfold hueOf quov
    rw [e1]; rfl
  rw [e3]
  exact q_drop e2
theorem gain_bits4 {ξ : Int} (h : FourG ξ) {u : Nat} (hu : Q 148 u ξ) : feq0 u = false ∧ ltb (amt u) 1040187392 = false ∧ ∃ q κ, floatBits .quo .f32 1065353216 u = some q ∧ Q 148 q κ ∧ ξ * κ = 4 ∧ κ.natAbs ≤ 4 := by
  have a1 : Q 148 1056964608 1 := Flt.q_word (by decide) (show Ieee.single.read 1056964608 = .number false 8388608 (-24) by decide +kernel) (by decide +kernel)
  have a2 : Q 148 1065353216 2 := Flt.q_word (by decide) (show Ieee.single.read 1065353216 = .number false 8388608 (-23) by decide +kernel) (by decide +kernel)
  have a4 : Q 148 1073741824 4 := Flt.q_word (by decide) (show Ieee.single.read 1073741824 = .number false 8388608 (-22) by decide +kernel) (by decide +kernel)
  have n1 : Q 148 3204448256 (-1) := Flt.q_word (by decide) (show Ieee.single.read 3204448256 = .number true 8388608 (-24) by decide +kernel) (by decide +kernel)
  have n2 : Q 148 3212836864 (-2) := Flt.q_word (by decide) (show Ieee.single.read 3212836864 = .number true 8388608 (-23) by decide +kernel) (by decide +kernel)
  have n4 : Q 148 3221225472 (-4) := Flt.q_word (by decide) (show Ieee.single.read 3221225472 = .number true 8388608 (-22) by decide +kernel) (by decide +kernel)
  rcases h with rfl | rfl | rfl | rfl
  · have := hu.unique a1 (by decide); subst this
    exact ⟨by decide +kernel, by decide +kernel, 1073741824, 4, by decide +kernel, a4, by decide, by decide⟩
  · have := hu.unique a2 (by decide); subst this
    exact ⟨by decide +kernel, by decide +kernel, 1065353216, 2, by decide +kernel, a2, by decide, by decide⟩
  · have := hu.unique n1 (by decide); subst this
    exact ⟨by decide +kernel, by decide +kernel, 3221225472, -4, by decide +kernel, n4, by decide, by decide⟩
  · have := hu.unique n2 (by decide); subst this
    exact ⟨by decide +kernel, by decide +kernel, 3212836864, -2, by decide +kernel, n2, by decide, by decide⟩

/-- Cells that are whole numbers of 128ths. -/
def ZL (ds : List C3) (ks : List I3) : Prop := ds.length = ks.length ∧ ∀ i (h : i < ds.length) (h' : i < ks.length), QC 142 ds[i] ks[i].1 ks[i].2.1 ks[i].2.2
def KZ (ks : List I3) : Prop := ∀ k ∈ ks, k.1.natAbs ≤ 8192 ∧ k.2.1.natAbs ≤ 8192 ∧ k.2.2.natAbs ≤ 8192
theorem lim142 {n : Nat} (h : n ≤ 8192) : n * 2 ^ 142 ≤ LIM := Nat.le_trans (Nat.mul_le_mul_left n (show 2 ^ 142 ≤ 2 ^ 143 by decide)) (lim143 (by omega))
theorem ZL.rok {ds : List C3} {ks : List I3} (h : ZL ds ks) (hb : KZ ks) (h1 : 1 ≤ ks.length) (h2 : ks.length ≤ 64) : Proofs.YtobpnoiienpipaaGreat.rok ds = true :=
  rok_iff.2 ⟨by rw [h.1]; omega, fun d hd => by
    obtain ⟨i, hi, rfl⟩ := List.mem_iff_getElem.1 hd
    obtain ⟨b1, b2, b3⟩ := hb _ (List.getElem_mem (show i < ks.length by rw [← h.1]; exact hi))
    obtain ⟨q1, q2, q3⟩ := h.2 i hi (by rw [← h.1]; exact hi)
    exact ⟨q_fin q1 (lim142 b1), q_fin q2 (lim142 b2), q_fin q3 (lim142 b3)⟩⟩
/-- Rows of whole numbers whose colours are multiplied by a power of two. -/
theorem scale_z {cs l : List C3} {ks ls : List I3} {q : Nat} {κ : Int} {ok : Bool} (h : ScaleRR cs q l ok) (hz : ZL cs ks) (hq : Q 148 q κ) (hκ : κ.natAbs ≤ 4) (h1 : 1 ≤ ks.length) (h2 : ks.length ≤ 64) (hl : ls.length = ks.length)
    (hls : ∀ i (h : i < ks.length) (h' : i < ls.length), ls[i].1 = ks[i].1 ∧ ks[i].2.1 * κ = ls[i].2.1 * 2 ^ 1 ∧ ks[i].2.2 * κ = ls[i].2.2 * 2 ^ 1) (hb : KZ ks) (hb' : KZ ls) : ok = true ∧ ZL l ls := by
  have hr := hz.rok hb h1 h2
  rcases h with ⟨_, ds, hs, rfl, rfl⟩ | ⟨h0, _⟩
  · have hlen := hs.1
    have hzl := hz.1
    have hds : ZL ds ls := by
      refine ⟨by omega, fun i hi hi' => ?_⟩
      obtain ⟨e1, ⟨r1, r2⟩, _⟩ := hs.2 i hi (by omega)
      obtain ⟨q1, q2, q3⟩ := hz.2 i (by omega) (by omega)
      obtain ⟨f1, f2, f3⟩ := hls i (by omega) hi'
      obtain ⟨b1, b2, b3⟩ := hb' _ (List.getElem_mem hi')
      obtain ⟨x2, g2, k2⟩ := q2.mul hq (by rw [f2]; omega) (by decide) (by decide)
      obtain ⟨x3, g3, k3⟩ := q3.mul hq (by rw [f3]; omega) (by decide) (by decide)
      rw [f2] at k2
      rw [f3] at k3
      rw [f1]
      refine ⟨by rw [e1]; exact q1, ?_, ?_⟩
      · rw [r1.is g2]; exact q_drop k2
      · rw [r2.is g3]; exact q_drop k3
    have hrd := hds.rok hb' (by omega) (by omega)
    rw [hrd]
    exact ⟨rfl, hds⟩
  · rw [hr] at h0; cases h0
/-- Two rows of whole numbers, multiplied. -/
theorem sat_z {r0 r1 : List C3} {K0 K1 L0 L1 : List I3} {q : Nat} {κ : Int} {out : List (List C3)} {ok : Bool} (h : SatRR [r0, r1] q out ok) (hz0 : ZL r0 K0) (hz1 : ZL r1 K1) (hq : Q 148 q κ) (hκ : κ.natAbs ≤ 4)
    (h1 : 1 ≤ K0.length ∧ 1 ≤ K1.length) (h2 : K0.length ≤ 64 ∧ K1.length ≤ 64) (hl0 : L0.length = K0.length) (hl1 : L1.length = K1.length)
    (e0 : ∀ i (h : i < K0.length) (h' : i < L0.length), L0[i].1 = K0[i].1 ∧ K0[i].2.1 * κ = L0[i].2.1 * 2 ^ 1 ∧ K0[i].2.2 * κ = L0[i].2.2 * 2 ^ 1)
    (e1 : ∀ i (h : i < K1.length) (h' : i < L1.length), L1[i].1 = K1[i].1 ∧ K1[i].2.1 * κ = L1[i].2.1 * 2 ^ 1 ∧ K1[i].2.2 * κ = L1[i].2.2 * 2 ^ 1)
    (b0 : KZ K0) (b1 : KZ K1) (c0 : KZ L0) (c1 : KZ L1) : ok = true ∧ ∃ d0 d1, out = [d0, d1] ∧ ZL d0 L0 ∧ ZL d1 L1 := by
  rcases h with ⟨rfl, hlen, hs⟩ | ⟨_, rfl, i, hi, hs⟩
  · have hlen : out.length = 2 := hlen
    match out, hlen, hs with
    | [d0, d1], _, hs =>
      exact ⟨rfl, d0, d1, rfl, (scale_z (hs 0 (by simp) (by simp)) hz0 hq hκ h1.1 h2.1 hl0 e0 b0 c0).2, (scale_z (hs 1 (by simp) (by simp)) hz1 hq hκ h1.2 h2.2 hl1 e1 b1 c1).2⟩
  · have hi : i < 2 := hi
    rcases (by omega : i = 0 ∨ i = 1) with rfl | rfl
    · cases (scale_z hs hz0 hq hκ h1.1 h2.1 hl0 e0 b0 c0).1
    · cases (scale_z hs hz1 hq hκ h1.2 h2.2 hl1 e1 b1 c1).1
def m8 (s : Int) (k : I3) : I3 := (8 * k.1, s * k.2.1, s * k.2.2)
theorem m8_kz {ks : List I3} (hk : KB ks) {s : Int} (hs : s.natAbs ≤ 16) : KZ (ks.map (m8 s)) := by
  intro k hk'
  obtain ⟨k0, h0, rfl⟩ := List.mem_map.1 hk'
  obtain ⟨b1, b2, b3⟩ := hk k0 h0
  have m1 := mul_le hs b2
  have m2 := mul_le hs b3
  unfold m8
  refine ⟨?_, ?_, ?_⟩ <;> simp only <;> omega
theorem pairZ {ξ η : Int} (hξ : FourG ξ) (hη : η.natAbs ≤ 4) {ks ls : List I3} {xs ys : List Nat} {o : Bool} (hx : LineZ ξ η ks o xs) (hy : LineZ ξ η ls (!o) ys) (hk : KB ks) (hl : KB ls) (hlen : ls.length = ks.length)
    (hc : ∀ i (h : i < ks.length) (h' : i < ls.length), ks[i].2 = ls[i].2) {rows : List (List C3)} {ok : Bool} (hr : PairR xs ys rows ok) :
    ok = true ∧ ∃ r0 r1, rows = [r0, r1] ∧ ZL r0 (ks.map (m8 (4 * ξ))) ∧ ZL r1 (ls.map (m8 (4 * ξ))) := by
  obtain ⟨ps, qs, o1, o2, a1, a2, ho, hyes, _⟩ := hr
  obtain ⟨rfl, l1, f1⟩ := hx.alone _ _ a1
  obtain ⟨rfl, l2, f2⟩ := hy.alone _ _ a2
  have hok : ok = true := by rw [ho]; simp; omega
  obtain ⟨n, hs, rfl⟩ := hyes hok
  obtain rfl := swingZ hξ hη hx hy hs
  have hξ2 := hξ.le
  have key : ∀ i (h : i < ks.length) (h' : i < ls.length), (Q 142 (ps[i]'(by omega)).1 (8 * ks[i].1) ∧ Q 142 (qs[i]'(by omega)).1 (8 * ls[i].1)) ∧ Q 142 (sh (sgo o) (ps[i]'(by omega)).2 (qs[i]'(by omega)).2).1 (4 * ξ * ks[i].2.1) ∧ Q 142 (sh (sgo o) (ps[i]'(by omega)).2 (qs[i]'(by omega)).2).2 (4 * ξ * ks[i].2.2) := by
    intro i hi hi'
    obtain ⟨y1, u1, v1⟩ := f1 i (by omega) hi
    obtain ⟨y2, u2, v2⟩ := f2 i (by omega) hi'
    rw [← hc i hi hi', sgo_not] at u2 v2
    obtain ⟨b1, b2, b3⟩ := hk _ (List.getElem_mem hi)
    have w1 := y1.lift 1 (by decide)
    have w2 := y2.lift 1 (by decide)
    rw [show 4 * ks[i].1 * 2 ^ 1 = 8 * ks[i].1 by omega] at w1
    rw [show 4 * ls[i].1 * 2 ^ 1 = 8 * ls[i].1 by omega] at w2
    refine ⟨⟨w1, w2⟩, ?_⟩
    generalize ks[i].2.1 = a at *
    generalize ks[i].2.2 = b at *
    have c1 := mul_le (n := 4) b2 (show (2 * ξ).natAbs ≤ 4 by omega)
    have c2 := mul_le (n := 4) b3 (show (2 * ξ).natAbs ≤ 4 by omega)
    have c3 := mul_le b2 hη
    have c4 := mul_le b3 hη
    rcases sgo_two o with ⟨rfl, hs⟩ | ⟨rfl, hs⟩
    · rw [hs] at u1 v1 u2 v2 ⊢
      unfold sh
      rw [if_pos rfl]
      have g1 := half_q (c := a * (2 * ξ)) u1 u2 (by grind) (by rw [show a * (2 * ξ) - 1 * b * η + (a * (2 * ξ) - -1 * b * η) = 2 * (a * (2 * ξ)) by grind]; omega) (by decide) (by decide)
      have g2 := half_q (c := b * (2 * ξ)) v1 v2.neg (by grind) (by rw [show a * η + 1 * b * (2 * ξ) + -(a * η + -1 * b * (2 * ξ)) = 2 * (b * (2 * ξ)) by grind]; omega) (by decide) (by decide)
      have k1 := g1.lift 1 (by decide)
      have k2 := g2.lift 1 (by decide)
      rw [show a * (2 * ξ) * 2 ^ 1 = 4 * ξ * a by grind] at k1
      rw [show b * (2 * ξ) * 2 ^ 1 = 4 * ξ * b by grind] at k2
      exact ⟨k1, k2⟩
    · rw [hs] at u1 v1 u2 v2 ⊢
      unfold sh
      rw [if_neg (by decide), if_pos rfl]
      have g1 := half_q (c := a * (2 * ξ)) u1 u2 (by grind) (by rw [show a * (2 * ξ) - -1 * b * η + (a * (2 * ξ) - - -1 * b * η) = 2 * (a * (2 * ξ)) by grind]; omega) (by decide) (by decide)
      have g2 := half_q (c := b * (2 * ξ)) v1.neg v2 (by grind) (by rw [show -(a * η + -1 * b * (2 * ξ)) + (a * η + - -1 * b * (2 * ξ)) = 2 * (b * (2 * ξ)) by grind]; omega) (by decide) (by decide)
      have k1 := g1.lift 1 (by decide)
      have k2 := g2.lift 1 (by decide)
      rw [show a * (2 * ξ) * 2 ^ 1 = 4 * ξ * a by grind] at k1
      rw [show b * (2 * ξ) * 2 ^ 1 = 4 * ξ * b by grind] at k2
      exact ⟨k1, k2⟩
  have la : (rowA (sgo o) ps qs).length = ks.length := by unfold rowA; rw [List.length_zipWith]; omega
  have lb : (rowB (sgo o) ps qs).length = ls.length := by unfold rowB; rw [List.length_zipWith]; omega
  refine ⟨hok, _, _, rfl, ⟨by rw [List.length_map]; exact la, fun i h3 h4 => ?_⟩, ⟨by rw [List.length_map]; exact lb, fun i h3 h4 => ?_⟩⟩
  · have hi : i < ks.length := by simpa using h4
    obtain ⟨⟨k1, _⟩, k3, k4⟩ := key i hi (by omega)
    have e : (rowA (sgo o) ps qs)[i] = mixA (sgo o) (ps[i]'(by omega)) (qs[i]'(by omega)) := List.getElem_zipWith
    rw [e, List.getElem_map]
    exact ⟨k1, k3, k4⟩
  · have hi : i < ls.length := by simpa using h4
    obtain ⟨⟨_, k1⟩, k3, k4⟩ := key i (by omega) hi
    have e : (rowB (sgo o) ps qs)[i] = mixB (sgo o) (ps[i]'(by omega)) (qs[i]'(by omega)) := List.getElem_zipWith
    rw [e, List.getElem_map]
    rw [hc i (by omega) hi] at k3 k4
    exact ⟨k1, k3, k4⟩
/-- What is taken of two lines of a link: the rows that were sent, in 128ths. -/
theorem takeZ {ξ η : Int} (hξ : FourG ξ) (hη : η.natAbs ≤ 4) {ks ls : List I3} {xs ys : List Nat} {o : Bool} (hx : LineZ ξ η ks o xs) (hy : LineZ ξ η ls (!o) ys) (hk : KB ks) (hl : KB ls) (hlen : ls.length = ks.length) (h1 : 1 ≤ ks.length) (h2 : ks.length ≤ 64)
    (hc : ∀ i (h : i < ks.length) (h' : i < ls.length), ks[i].2 = ls[i].2) {out : List (List C3)} {ok : Bool} (h : TakeRR xs ys 1040187392 1065353216 out ok) :
    ok = true ∧ ∃ d0 d1, out = [d0, d1] ∧ ZL d0 (ks.map (m8 8)) ∧ ZL d1 (ls.map (m8 8)) := by
  obtain ⟨rows, ok1, hp, h⟩ := h
  obtain ⟨rfl, r0, r1, rfl, z0, z1⟩ := pairZ hξ hη hx hy hk hl hlen hc hp
  rcases h with ⟨e, _⟩ | ⟨_, b, hkill, h⟩
  · cases e
  · obtain ⟨u, z, f, n, hu, hs, hb⟩ := hkill
    obtain rfl := swingZ hξ hη hx hy hs
    obtain ⟨g1, g2, q, κ, hq, hqκ, hξκ, hκ⟩ := gain_bits4 hξ (hueZ hξ hη hx hy hu)
    have hsn : ¬ sgo o = 0 := by cases o <;> decide
    rw [decide_eq_false hsn, g2] at hb
    have hb : b = false := hb
    rcases h with ⟨e, _⟩ | ⟨_, u', z', f', hu', sz, o2, hsz, h⟩
    · rw [hb] at e; cases e
    · obtain ⟨_, rfl, rfl⟩ := hu.same hu'
      have h64 : (4 * ξ).natAbs ≤ 16 := by have := hξ.le; omega
      rcases hsz with ⟨e, _⟩ | ⟨_, q', hq', hsat⟩
      · rw [g1] at e; cases e
      · rw [hq'.is hq] at hsat
        have me : ∀ (k : I3), (m8 8 k).1 = (m8 (4 * ξ) k).1 ∧ (m8 (4 * ξ) k).2.1 * κ = (m8 8 k).2.1 * 2 ^ 1 ∧ (m8 (4 * ξ) k).2.2 * κ = (m8 8 k).2.2 * 2 ^ 1 := fun k => by
          unfold m8
          refine ⟨rfl, ?_, ?_⟩ <;> simp only
          · rw [show 4 * ξ * k.2.1 * κ = 4 * (ξ * κ) * k.2.1 by grind, hξκ]; omega
          · rw [show 4 * ξ * k.2.2 * κ = 4 * (ξ * κ) * k.2.2 by grind, hξκ]; omega
        obtain ⟨rfl, d0, d1, rfl, y0, y1⟩ := sat_z (L0 := ks.map (m8 8)) (L1 := ls.map (m8 8)) hsat z0 z1 hqκ hκ (by simp; omega) (by simp; omega) (by simp) (by simp)
          (fun i hi hi' => by rw [List.getElem_map, List.getElem_map]; exact me _) (fun i hi hi' => by rw [List.getElem_map, List.getElem_map]; exact me _) (m8_kz hk h64) (m8_kz hl h64) (m8_kz hk (by decide)) (m8_kz hl (by decide))
        rcases h with ⟨e, _⟩ | ⟨_, hs2⟩
        · cases e
        · have a2 : Q 148 1065353216 2 := Flt.q_word (by decide) (show Ieee.single.read 1065353216 = .number false 8388608 (-23) by decide +kernel) (by decide +kernel)
          exact sat_z hs2 y0 y1 a2 (by decide) (by simp; omega) (by simp; omega) rfl rfl (fun i hi hi' => ⟨rfl, rfl, rfl⟩) (fun i hi hi' => ⟨rfl, rfl, rfl⟩) (m8_kz hk (by decide)) (m8_kz hl (by decide)) (m8_kz hk (by decide)) (m8_kz hl (by decide))
/-- Rows of whole numbers are equal, cell by cell, to the row that was sent. -/
theorem ZL.alike {cs ds : List C3} {ks : List I3} (h : ZL ds (ks.map (m8 8))) (hc : CellsQ cs ks) : Alike cs ds := by
  have hl := hc.len
  have hd := h.1
  rw [List.length_map] at hd
  refine ⟨by omega, fun i hi hi' => ?_⟩
  obtain ⟨p1, p2, p3, _⟩ := hc.get i hi (by omega)
  obtain ⟨q1, q2, q3⟩ := h.2 i hi' (by rw [List.length_map]; omega)
  rw [List.getElem_map] at q1 q2 q3
  have f : ∀ {x y : Nat} {a b : Int}, Sx x a → Q 142 y b → b = 8 * a → feq x y = true := by
    intro x y a b hx hy e
    have h3 := hx.q.lift 3 (by decide)
    rw [e, show 8 * a = a * 2 ^ 3 by omega] at hy
    unfold feq
    rw [show FloatKind.f32.format = Ieee.single from rfl, Q.eq h3 hy]
    rfl
  rw [f p1 q1 rfl, f p2 q2 rfl, f p3 q3 rfl]
  rfl
end Go.Proofs.YtobpnoiienpipaaGreat

/-
  What is proved: the walk of the model's Lows.
  Conditions: the stream can be read.
-/
namespace Go.Proofs.YtobpnoiienpipaaGreat
set_option linter.unusedVariables false
open Go.RowKit
attribute [local go_sem] run_store_float run_store_complex unary_negf neg256

/-- Whether there is a low sample at place k. -/
def low (xs : List Nat) (s k : Nat) : Bool := decide (k < xs.length) && leb (xs.getD k 0) s
def cutRun (rs : List R2) (i n : Nat) : List R2 := if 5 ≤ n then rs ++ [(i - n, n)] else rs
/-- The runs that are at an end ahead of place k, and how many low samples there are just ahead of it. -/
def lowsK (xs : List Nat) (s : Nat) : Nat → List R2 × Nat
  | 0 => ([], 0)
  | k + 1 => if low xs s k = true then ((lowsK xs s k).1, (lowsK xs s k).2 + 1) else (cutRun (lowsK xs s k).1 k (lowsK xs s k).2, 0)
def lows (xs : List Nat) (s : Nat) : List R2 := if xs.length ≤ 20000 then (lowsK xs s (xs.length + 1)).1 else []
theorem cutRun_len (rs : List R2) (i n : Nat) : (cutRun rs i n).length ≤ rs.length + 1 := by
  unfold cutRun; split <;> simp
theorem lowsK_le (xs : List Nat) (s : Nat) : ∀ k, (lowsK xs s k).2 ≤ k ∧ (lowsK xs s k).1.length ≤ k
  | 0 => ⟨Nat.le_refl _, Nat.le_refl _⟩
  | k + 1 => by
    have h := lowsK_le xs s k
    have h2 := cutRun_len (lowsK xs s k).1 k (lowsK xs s k).2
    unfold lowsK
    split
    · exact ⟨by show _ + 1 ≤ _; omega, by show (lowsK xs s k).1.length ≤ _; omega⟩
    · exact ⟨Nat.zero_le _, by show (cutRun _ _ _).length ≤ _; omega⟩
theorem lowsK_low {xs : List Nat} {s k : Nat} (h : low xs s k = true) : lowsK xs s (k + 1) = ((lowsK xs s k).1, (lowsK xs s k).2 + 1) := by
  rw [lowsK, if_pos h]
theorem lowsK_cut {xs : List Nat} {s k : Nat} (h : low xs s k = false) (h5 : 5 ≤ (lowsK xs s k).2) : lowsK xs s (k + 1) = ((lowsK xs s k).1 ++ [(k - (lowsK xs s k).2, (lowsK xs s k).2)], 0) := by
  rw [lowsK, if_neg (by rw [h]; decide), cutRun, if_pos h5]
theorem lowsK_none {xs : List Nat} {s k : Nat} (h : low xs s k = false) (h5 : ¬ 5 ≤ (lowsK xs s k).2) : lowsK xs s (k + 1) = ((lowsK xs s k).1, 0) := by
  rw [lowsK, if_neg (by rw [h]; decide), cutRun, if_neg h5]
theorem lows_len (xs : List Nat) (s : Nat) : (lows xs s).length ≤ 20001 := by
  unfold lows
  split
  · have := (lowsK_le xs s (xs.length + 1)).2; omega
  · simp
end Go.Proofs.YtobpnoiienpipaaGreat

/-
  What is proved: the walk of the model's Starts.
  Conditions: the stream can be read; the numbers are those of an int.
-/
namespace Go.Proofs.YtobpnoiienpipaaGreat
set_option linter.unusedVariables false
open Go.RowKit
attribute [local go_sem] run_store_float run_store_complex unary_negf neg256

theorem lowsK_end (xs : List Nat) (s : Nat) : ∀ k, ∀ r ∈ (lowsK xs s k).1, 5 ≤ r.2 ∧ r.1 + r.2 < k
  | 0 => fun r hr => by cases hr
  | k + 1 => by
    have h := lowsK_end xs s k
    have hle := (lowsK_le xs s k).1
    intro r hr
    unfold lowsK at hr
    split at hr
    · have := h r hr; omega
    · replace hr : r ∈ cutRun (lowsK xs s k).1 k (lowsK xs s k).2 := hr
      unfold cutRun at hr
      split at hr
      · rename_i h5
        rcases List.mem_append.1 hr with hr | hr
        · have := h r hr; omega
        · obtain rfl := List.mem_singleton.1 hr
          exact ⟨h5, show k - (lowsK xs s k).2 + (lowsK xs s k).2 < k + 1 by omega⟩
      · have := h r hr; omega
theorem lows_end {xs : List Nat} {s : Nat} : ∀ r ∈ lows xs s, 5 ≤ r.2 ∧ r.1 + r.2 ≤ xs.length := by
  intro r hr
  unfold lows at hr
  split at hr
  · have := lowsK_end xs s _ r hr; omega
  · cases hr
/-- Whether a run begins near a place. -/
def near (want : Nat) (r : R2) : Bool := decide (want ≤ r.1 + 3) && decide (r.1 ≤ want + 3)
def nearR (rs : List R2) (want : Nat) : Option Nat := (rs.find? (near want)).map (·.1)
theorem nearR_snoc {rs : List R2} {want k : Nat} (h : k < rs.length) (hn : nearR (rs.take k) want = none) : nearR (rs.take (k + 1)) want = if near want rs[k] = true then some rs[k].1 else none := by
  have h0 : (rs.take k).find? (near want) = none := by
    unfold nearR at hn
    cases hf : (rs.take k).find? (near want) with
    | none => rfl
    | some r => rw [hf] at hn; cases hn
  unfold nearR
  rw [List.take_succ_eq_append_getElem h, List.find?_append, h0]
  cases hb : near want rs[k] <;> simp [hb]
theorem nearR_some {rs : List R2} {want k b : Nat} (hn : nearR (rs.take k) want = some b) : nearR rs want = some b := by
  unfold nearR at hn ⊢
  cases hf : (rs.take k).find? (near want) with
  | none => rw [hf] at hn; cases hn
  | some r =>
    rw [hf] at hn
    have e : rs = rs.take k ++ rs.drop k := (List.take_append_drop k rs).symm
    rw [e, List.find?_append, hf]
    exact hn
theorem nearR_near {rs : List R2} {want b : Nat} (hn : nearR rs want = some b) : want ≤ b + 3 ∧ b ≤ want + 3 ∧ ∃ r ∈ rs, r.1 = b := by
  unfold nearR at hn
  cases hf : rs.find? (near want) with
  | none => rw [hf] at hn; cases hn
  | some r =>
    rw [hf] at hn
    have h1 := List.find?_some hf
    have h2 := List.mem_of_find?_eq_some hf
    have h3 : r.1 = b := Option.some.inj hn
    unfold near at h1
    simp only [Bool.and_eq_true, decide_eq_true_eq] at h1
    rw [h3] at h1
    exact ⟨h1.1, h1.2, r, h2, h3⟩
/-- The places behind one, and those that are told already. -/
def startsGo (rs : List R2) (N len gap : Nat) : Nat → Nat → Nat → List Int → List Int
  | 0, _, _, out => out
  | f + 1, at_, missed, out =>
    if at_ + 2 * len ≤ N then
      match nearR rs (at_ + len) with
      | some b => startsGo rs N len gap f b 0 (out ++ [(b : Int)])
      | none => if gap < missed + 1 then out else startsGo rs N len gap f (at_ + len) (missed + 1) (out ++ [((at_ + len : Nat) : Int)])
    else out
theorem startsGo_end {rs : List R2} {N len gap f p m : Nat} {out : List Int} (h : ¬ p + 2 * len ≤ N) : startsGo rs N len gap f p m out = out := by
  cases f with
  | zero => rfl
  | succ f => rw [startsGo, if_neg h]
theorem startsGo_found {rs : List R2} {N len gap f p m b : Nat} {out : List Int} (h : p + 2 * len ≤ N) (hb : nearR rs (p + len) = some b) : startsGo rs N len gap (f + 1) p m out = startsGo rs N len gap f b 0 (out ++ [(b : Int)]) := by
  rw [startsGo, if_pos h, hb]
theorem startsGo_stop {rs : List R2} {N len gap f p m : Nat} {out : List Int} (h : p + 2 * len ≤ N) (hb : nearR rs (p + len) = none) (hg : gap < m + 1) : startsGo rs N len gap (f + 1) p m out = out := by
  rw [startsGo, if_pos h, hb]
  exact if_pos hg
theorem startsGo_missed {rs : List R2} {N len gap f p m : Nat} {out : List Int} (h : p + 2 * len ≤ N) (hb : nearR rs (p + len) = none) (hg : ¬ gap < m + 1) : startsGo rs N len gap (f + 1) p m out = startsGo rs N len gap f (p + len) (m + 1) (out ++ [((p + len : Nat) : Int)]) := by
  rw [startsGo, if_pos h, hb]
  exact if_neg hg
def startsOk (n g : Int) : Bool := (decide (28 ≤ n) && decide (n ≤ 280)) && (decide (0 ≤ g) && decide (g ≤ 10))
/-- What Starts answers. -/
def starts (xs : List Nat) (s : Nat) (n g : Int) : List Int :=
  match lows xs s with
  | [] => []
  | r :: rs => if startsOk n g = true ∧ r.1 + n.toNat ≤ xs.length then startsGo (r :: rs) xs.length n.toNat g.toNat (xs.length + 1) r.1 0 [(r.1 : Int)] else []
theorem li_lit (z : Int) (W : World) (j : Nat) (u : Value) (hu : (LI.enc z)[j]? = some u) : (W.alloc (.cells #[.int .i64 z] 3)).cell? ⟨W.heap.size, 0 + j, none⟩ = some u :=
  lit_cells W [.int .i64 z] _ j u hu
theorem runs_any {w : World} {v : Value} {rs : List R2} (h : LR.Row w v rs) : ∃ a c, v = .slice a rs.length c ∧ ∀ k (hk : k < rs.length), ∃ g o, a = some ⟨g, o, none⟩ ∧ rs.length ≤ c ∧ w.cell? ⟨g, o + k * 2, none⟩ = some (.int .i64 (rs[k].1 : Int)) ∧ w.cell? ⟨g, o + k * 2 + 1, none⟩ = some (.int .i64 (rs[k].2 : Int)) := by
  obtain ⟨a, c, h1, h2⟩ := h.any LR_ok
  refine ⟨a, c, h1, fun k hk => ?_⟩
  obtain ⟨g, o, e, hc, hcell⟩ := h2 k hk
  refine ⟨g, o, e, hc, hcell 0 _ rfl, ?_⟩
  have := hcell 1 _ rfl
  rw [← Nat.add_assoc] at this
  exact this
theorem starts_yes {xs : List Nat} {s len gap : Nat} {R : List R2} (hR : lows xs s = R) (h0 : 0 < R.length) (ho : startsOk (len : Int) (gap : Int) = true) (hb : R[0].1 + len ≤ xs.length) : starts xs s (len : Int) (gap : Int) = startsGo R xs.length len gap (xs.length + 1) R[0].1 0 [(R[0].1 : Int)] := by
  unfold starts
  rw [hR]
  cases R with
  | nil => cases h0
  | cons r rs => exact if_pos ⟨ho, hb⟩
theorem starts_no {xs : List Nat} {s : Nat} {n g : Int} {R : List R2} (hR : lows xs s = R) (h0 : 0 < R.length) (h : startsOk n g = false ∨ ¬ R[0].1 + n.toNat ≤ xs.length) : starts xs s n g = [] := by
  unfold starts
  rw [hR]
  cases R with
  | nil => rfl
  | cons r rs => exact if_neg fun hh => h.elim (fun e => by rw [hh.1] at e; cases e) (fun e => e hh.2)
theorem starts_none {xs : List Nat} {s : Nat} {n g : Int} (hR : lows xs s = []) : starts xs s n g = [] := by
  unfold starts; rw [hR]
end Go.Proofs.YtobpnoiienpipaaGreat

/-
  What is proved: what the runs of low samples are.
  Conditions: none.
-/
namespace Go.Proofs.YtobpnoiienpipaaGreat
set_option linter.unusedVariables false
open Go.RowKit

end Go.Proofs.YtobpnoiienpipaaGreat

/-
  What is proved: the walk of the model's CutLines.
  Conditions: the stream and the places can be read; the numbers are those of an int.
-/
namespace Go.Proofs.YtobpnoiienpipaaGreat
set_option linter.unusedVariables false
open Go.RowKit
attribute [local go_sem] run_store_float run_store_complex unary_negf neg256

end Go.Proofs.YtobpnoiienpipaaGreat
