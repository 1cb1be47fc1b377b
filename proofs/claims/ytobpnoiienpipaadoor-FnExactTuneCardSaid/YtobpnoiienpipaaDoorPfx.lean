/-
  What is proved: plain facts on the texts of thousandths: which numbers they stand for.
  Conditions: none.
-/
import Derived.Test.YtobpnoiienpipaaDoorFixed
namespace Go.Proofs.YtobpnoiienpipaaDoor
set_option linter.unusedVariables false

/-- The amount that a text without a sign stands for. -/
def core (t : List UInt8) : Option Nat :=
  if 4 ≤ t.length ∧ t.getD (t.length - 4) 0 = 46 ∧ puB (t.take (t.length - 4)) = true ∧ (t.drop (t.length - 3)).all isDig = true ∧ 1000 * puV (t.take (t.length - 4)) + nv (t.drop (t.length - 3)) ≤ 1000000000
  then some (1000 * puV (t.take (t.length - 4)) + nv (t.drop (t.length - 3))) else none
/-- The number that a text stands for. -/
def fxP (l : List UInt8) : Option Int :=
  if l.head? = some 45 then (core (l.drop 1)).bind fun n => if n = 0 then none else some (-(n : Int)) else (core l).map Int.ofNat

theorem nv_append (l r : List UInt8) : nv (l ++ r) = nv l * 10 ^ r.length + nv r := by
  generalize hn : r.length = n
  induction n generalizing r with
  | zero => have := List.eq_nil_of_length_eq_zero hn; subst this; simp [nv_nil]
  | succ n ih =>
    rcases List.eq_nil_or_concat r with e | ⟨r', c, e⟩
    · subst e; simp at hn
    · rw [List.concat_eq_append] at e
      subst e
      have h1 := ih r' (by simp at hn; omega)
      rw [← List.append_assoc, nv_snoc, nv_snoc, h1, Nat.pow_succ, Nat.mul_add]
      have e2 : 10 * (nv l * 10 ^ n) = nv l * (10 ^ n * 10) := by rw [Nat.mul_comm 10, Nat.mul_assoc]
      omega
theorem part3_val (a : Nat) : ∃ d1 d2 d3, part3 a = [d1, d2, d3] ∧ isDig d1 = true ∧ isDig d2 = true ∧ isDig d3 = true ∧ nv [d1, d2, d3] = a % 1000 ∧ Lib.decDigits (1000 + a % 1000) = 49 :: [d1, d2, d3] := by
  obtain ⟨d0, d1, d2, d3, hd⟩ := list4 (four_digits a)
  have hc := digits_canon (1000 + a % 1000)
  have hv := nv_digits (1000 + a % 1000)
  rw [hd] at hc hv
  have g0 := isDig_iff.1 (hc.dig d0 (by simp))
  have g1 := hc.dig d1 (by simp)
  have g2 := hc.dig d2 (by simp)
  have g3 := hc.dig d3 (by simp)
  have k1 := isDig_iff.1 g1
  have k2 := isDig_iff.1 g2
  have k3 := isDig_iff.1 g3
  simp only [nv, List.foldl_cons, List.foldl_nil] at hv
  have e0 : d0 = 49 := UInt8.toNat_inj.1 (by show d0.toNat = 49; omega)
  subst e0
  have e49 : (49 : UInt8).toNat = 49 := rfl
  refine ⟨d1, d2, d3, by unfold part3; rw [hd]; rfl, g1, g2, g3, ?_, hd⟩
  simp only [nv, List.foldl_cons, List.foldl_nil]
  omega
theorem body_parts (a : Nat) : ∃ d1 d2 d3, body a = Lib.decDigits (a / 1000) ++ [46, d1, d2, d3] ∧ isDig d1 = true ∧ isDig d2 = true ∧ isDig d3 = true ∧ nv [d1, d2, d3] = a % 1000 := by
  obtain ⟨d1, d2, d3, h, g1, g2, g3, hv, _⟩ := part3_val a
  exact ⟨d1, d2, d3, by unfold body; rw [h], g1, g2, g3, hv⟩
theorem take_app {w p : List UInt8} {n : Nat} (h : p.length = n) : (w ++ p).take ((w ++ p).length - n) = w ∧ (w ++ p).drop ((w ++ p).length - n) = p := by
  have e : (w ++ p).length - n = w.length := by rw [List.length_append]; omega
  rw [e]
  exact ⟨by simp, by simp⟩
theorem split4 (w : List UInt8) (x d1 d2 d3 : UInt8) : 4 ≤ (w ++ [x, d1, d2, d3]).length ∧ (w ++ [x, d1, d2, d3]).getD ((w ++ [x, d1, d2, d3]).length - 4) 0 = x ∧ (w ++ [x, d1, d2, d3]).take ((w ++ [x, d1, d2, d3]).length - 4) = w ∧ (w ++ [x, d1, d2, d3]).drop ((w ++ [x, d1, d2, d3]).length - 3) = [d1, d2, d3] := by
  have e : (w ++ [x, d1, d2, d3]).length = w.length + 4 := by simp
  refine ⟨by omega, ?_, (take_app (p := [x, d1, d2, d3]) rfl).1, ?_⟩
  · rw [e, show w.length + 4 - 4 = w.length by omega]
    simp [List.getD]
  · have h2 := (take_app (w := w ++ [x]) (p := [d1, d2, d3]) rfl).2
    rw [List.append_assoc] at h2
    exact h2
theorem core_body (a : Nat) (h : a ≤ 1000000000) : core (body a) = some a := by
  obtain ⟨d1, d2, d3, hb, g1, g2, g3, hv⟩ := body_parts a
  obtain ⟨h1, h2, h3, h4⟩ := split4 (Lib.decDigits (a / 1000)) 46 d1 d2 d3
  obtain ⟨p1, p2⟩ := (PU.of_text (rfl : Lib.decDigits (a / 1000) = _) (by omega)).some
  rw [hb]
  unfold core
  rw [h2, h3, h4, p1, p2, hv, if_pos ⟨h1, rfl, rfl, by simp [g1, g2, g3], by omega⟩]
  congr 1
  omega
theorem list_end4 {t : List UInt8} (h : 4 ≤ t.length) : ∃ w x d1 d2 d3, t = w ++ [x, d1, d2, d3] := by
  have e := List.take_append_drop (t.length - 4) t
  obtain ⟨x, d1, d2, d3, hd⟩ := list4 (l := t.drop (t.length - 4)) (by rw [List.length_drop]; omega)
  exact ⟨t.take (t.length - 4), x, d1, d2, d3, by rw [← hd, e]⟩
theorem body_core {t : List UInt8} {n : Nat} (h : core t = some n) : body n = t ∧ n ≤ 1000000000 := by
  unfold core at h
  split at h
  · rename_i hc
    obtain ⟨c1, c2, c3, c4, c5⟩ := hc
    simp only [Option.some.injEq] at h
    obtain ⟨w, x, d1, d2, d3, rfl⟩ := list_end4 c1
    obtain ⟨_, h2, h3, h4⟩ := split4 w x d1 d2 d3
    rw [h2] at c2
    rw [h3] at c3 c5 h
    rw [h4] at c4 c5 h
    subst c2
    simp only [List.all_cons, List.all_nil, Bool.and_true, Bool.and_eq_true] at c4
    have hp := puB_iff.1 c3
    have hpv := hp.some.2
    have k1 := isDig_iff.1 c4.1
    have k2 := isDig_iff.1 c4.2.1
    have k3 := isDig_iff.1 c4.2.2
    have hm : nv [d1, d2, d3] < 1000 := by simp only [nv, List.foldl_cons, List.foldl_nil]; omega
    have e1 : n / 1000 = puV w := by omega
    have e2 : n % 1000 = nv [d1, d2, d3] := by omega
    refine ⟨?_, by omega⟩
    have hcan : Canon (49 :: [d1, d2, d3]) := ⟨by simp, by simp [c4.1, c4.2.1, c4.2.2]; decide, .inr ⟨49, _, rfl, by decide⟩⟩
    have hd := hcan.digits
    have e3 : nv (49 :: [d1, d2, d3]) = 1000 + nv [d1, d2, d3] := by
      have e49 : (49 : UInt8).toNat = 49 := rfl
      simp only [nv, List.foldl_cons, List.foldl_nil]
      omega
    unfold body part3
    rw [e1, e2, ← e3, hd, hpv, hp.text]
    rfl
  · cases h

theorem body_head (a : Nat) : ∃ c r, body a = c :: r ∧ c ≠ 45 := by
  have hc := digits_canon (a / 1000)
  unfold body
  cases hd : Lib.decDigits (a / 1000) with
  | nil => exact absurd hd hc.ne
  | cons c r =>
    refine ⟨c, r ++ 46 :: part3 a, rfl, fun e => ?_⟩
    have := isDig_iff.1 (hc.dig c (by rw [hd]; simp))
    subst e
    have e45 : (45 : UInt8).toNat = 45 := rfl
    omega
/-- THE TEXT OF A NUMBER IN RANGE STANDS FOR IT .. -/
theorem fxP_ffx {n : Int} (h0 : -1000000000 ≤ n) (h1 : n ≤ 1000000000) : fxP (ffx n) = some n := by
  rcases (by omega : n < 0 ∨ 0 ≤ n) with hs | hs
  · obtain ⟨a, rfl⟩ : ∃ a : Nat, n = -(a : Int) := ⟨n.natAbs, by omega⟩
    rw [ffx_neg a (by omega) (by omega)]
    unfold fxP
    rw [if_pos (show (45 :: body a).head? = some 45 from rfl)]
    show (core (body a)).bind _ = _
    rw [core_body a (by omega)]
    simp only [Option.bind_some]
    rw [if_neg (by omega)]
  · obtain ⟨a, rfl⟩ := Int.eq_ofNat_of_zero_le hs
    rw [ffx_pos a (by omega)]
    obtain ⟨c, r, hb, hc⟩ := body_head a
    unfold fxP
    rw [if_neg (by rw [hb]; simpa using hc), core_body a (by omega)]
    rfl
/-- .. AND NO OTHER TEXT STANDS FOR A NUMBER. -/
theorem ffx_fxP {l : List UInt8} {n : Int} (h : fxP l = some n) : ffx n = l ∧ -1000000000 ≤ n ∧ n ≤ 1000000000 := by
  unfold fxP at h
  split at h
  · rename_i hh
    cases l with
    | nil => cases hh
    | cons c t =>
      simp only [List.head?_cons, Option.some.injEq] at hh
      subst hh
      simp only [List.drop_succ_cons, List.drop_zero] at h
      cases hc : core t with
      | none => rw [hc] at h; cases h
      | some a =>
        rw [hc] at h
        simp only [Option.bind_some] at h
        split at h
        · cases h
        · cases h
          obtain ⟨h1, h2⟩ := body_core hc
          rename_i hne
          exact ⟨by rw [ffx_neg a h2 hne, h1], by omega, by omega⟩
  · cases hc : core l with
    | none => rw [hc] at h; cases h
    | some a =>
      rw [hc] at h
      simp only [Option.map_some, Option.some.injEq] at h
      subst h
      obtain ⟨h1, h2⟩ := body_core hc
      exact ⟨(ffx_pos a h2).trans h1, by show (-1000000000 : Int) ≤ (a : Int); omega, by show (a : Int) ≤ 1000000000; omega⟩
end Go.Proofs.YtobpnoiienpipaaDoor
