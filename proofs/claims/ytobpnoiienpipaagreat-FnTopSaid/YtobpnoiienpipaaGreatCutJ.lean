/-
  What is proved: the pulses of a stream of lines, of which one may be gone, and what is cut at them.
  Conditions: those that each fact names.
-/
import Derived.Test.YtobpnoiienpipaaGreatPz22
import Derived.Test.YtobpnoiienpipaaGreatPz33
import Derived.Test.YtobpnoiienpipaaGreatPz20
namespace Go.Proofs.YtobpnoiienpipaaGreat
set_option linter.unusedVariables false
open Go.RowKit

/-- A stream of m lines of n samples each, of which line k has no pulse. -/
structure LinesL (xs : List Nat) (s m n k : Nat) : Prop where
  len : xs.length = m * n
  lo : ∀ j t, j < m → t < n → leb (xs.getD (j * n + t) 0) s = (decide (t < 8) && decide (j ≠ k))
theorem line_lt {m n j t : Nat} (hj : j < m) (ht : t < n) : j * n + t < m * n := by
  have := Nat.mul_le_mul_right n (show j + 1 ≤ m from hj)
  rw [Nat.succ_mul] at this
  omega
theorem LinesL.at {xs : List Nat} {s m n k j t : Nat} (h : LinesL xs s m n k) (hj : j < m) (ht : t < n) : low xs s (j * n + t) = (decide (t < 8) && decide (j ≠ k)) := by
  unfold low
  rw [h.len, h.lo j t hj ht, decide_eq_true (line_lt hj ht), Bool.true_and]
def runsOf (n k j : Nat) : List R2 := ((List.range j).filter fun i => decide (i ≠ k)).map fun i => (i * n, 8)
theorem runsOf_yes {n k j : Nat} (h : j ≠ k) : runsOf n k (j + 1) = runsOf n k j ++ [(j * n, 8)] := by
  unfold runsOf
  rw [List.range_succ, List.filter_append, List.map_append]
  simp [h]
theorem runsOf_no {n j : Nat} : runsOf n j (j + 1) = runsOf n j j := by
  unfold runsOf
  rw [List.range_succ, List.filter_append, List.map_append]
  simp
theorem LinesL.line {xs : List Nat} {s m n k j : Nat} {R : List R2} (h : LinesL xs s m n k) (hn : 28 ≤ n) (hj : j < m) (ih : lowsK xs s (j * n) = (R, 0)) : lowsK xs s ((j + 1) * n) = (if j = k then R else R ++ [(j * n, 8)], 0) := by
  rw [Nat.succ_mul]
  by_cases e : j = k
  · rw [if_pos e]
    have key : ∀ t, t ≤ n → lowsK xs s (j * n + t) = (R, 0) := by
      intro t
      induction t with
      | zero => intro _; exact ih
      | succ t it =>
        intro ht
        have h1 := it (by omega)
        have h2 := h.at hj (show t < n by omega)
        rw [decide_eq_false (show ¬ j ≠ k from fun x => x e), Bool.and_false] at h2
        rw [← Nat.add_assoc, lowsK_none h2 (by rw [h1]; show ¬ 5 ≤ 0; decide), h1]
    exact key n (Nat.le_refl _)
  · rw [if_neg e]
    have k1 : ∀ t, t ≤ 8 → lowsK xs s (j * n + t) = (R, t) := by
      intro t
      induction t with
      | zero => intro _; exact ih
      | succ t it =>
        intro ht
        have h1 := it (by omega)
        have h2 := h.at hj (show t < n by omega)
        rw [decide_eq_true e, Bool.and_true, decide_eq_true (show t < 8 by omega)] at h2
        rw [← Nat.add_assoc, lowsK_low h2, h1]
    have k2 : ∀ d, 9 + d ≤ n → lowsK xs s (j * n + (9 + d)) = (R ++ [(j * n, 8)], 0) := by
      intro d
      induction d with
      | zero =>
        intro hd
        have h1 := k1 8 (Nat.le_refl _)
        have h2 := h.at hj (show 8 < n by omega)
        rw [decide_eq_true e, Bool.and_true] at h2
        have h3 := lowsK_cut h2 (by rw [h1]; show 5 ≤ 8; decide)
        rw [h1] at h3
        rw [show j * n + (9 + 0) = j * n + 8 + 1 from rfl, h3]
        show (R ++ [(j * n + 8 - 8, 8)], 0) = _
        rw [Nat.add_sub_cancel]
      | succ d it =>
        intro hd
        have h1 := it (by omega)
        have h2 := h.at hj (show 9 + d < n by omega)
        rw [decide_eq_false (show ¬ 9 + d < 8 by omega), Bool.false_and] at h2
        rw [show j * n + (9 + (d + 1)) = j * n + (9 + d) + 1 by omega, lowsK_none h2 (by rw [h1]; show ¬ 5 ≤ 0; decide), h1]
    have := k2 (n - 9) (by omega)
    rwa [show 9 + (n - 9) = n by omega] at this
theorem LinesL.upto {xs : List Nat} {s m n k : Nat} (h : LinesL xs s m n k) (hn : 28 ≤ n) : ∀ j, j ≤ m → lowsK xs s (j * n) = (runsOf n k j, 0)
  | 0, _ => by rw [Nat.zero_mul]; rfl
  | j + 1, hj => by
    rw [h.line hn (by omega) (h.upto hn j (by omega))]
    by_cases e : j = k
    · rw [if_pos e]; subst e; rw [runsOf_no]
    · rw [if_neg e, runsOf_yes e]
theorem LinesL.lows {xs : List Nat} {s m n k : Nat} (h : LinesL xs s m n k) (hn : 28 ≤ n) (hl : m * n ≤ 20000) : Go.Proofs.YtobpnoiienpipaaGreat.lows xs s = runsOf n k m := by
  unfold Go.Proofs.YtobpnoiienpipaaGreat.lows
  rw [if_pos (by rw [h.len]; exact hl), h.len]
  have h1 := h.upto hn m (Nat.le_refl _)
  have h2 : low xs s (m * n) = false := by
    unfold low
    rw [decide_eq_false (show ¬ m * n < xs.length by rw [h.len]; omega), Bool.false_and]
  rw [lowsK_none h2 (by rw [h1]; show ¬ 5 ≤ 0; decide), h1]
theorem near_line {n i j : Nat} (hn : 28 ≤ n) : near (j * n) (i * n, 8) = decide (i = j) := by
  have key : ∀ a b : Nat, a < b → ¬ b * n ≤ a * n + 3 := fun a b hab h => by
    have := Nat.mul_le_mul_right n (show a + 1 ≤ b from hab)
    rw [Nat.succ_mul] at this
    omega
  unfold near
  by_cases e : i = j
  · subst e
    rw [decide_eq_true rfl, decide_eq_true (show i * n ≤ i * n + 3 by omega)]
    rfl
  · rw [decide_eq_false e]
    rcases Nat.lt_or_gt_of_ne e with h | h
    · rw [decide_eq_false (key i j h), Bool.false_and]
    · rw [decide_eq_false (key j i h), Bool.and_false]
theorem nearR_lines {n k m j : Nat} (hn : 28 ≤ n) (hj : j < m) : nearR (runsOf n k m) (j * n) = if j = k then none else some (j * n) := by
  unfold nearR
  by_cases e : j = k
  · rw [if_pos e]
    rw [List.find?_eq_none.2]
    · rfl
    · intro r hr
      obtain ⟨i, hi, rfl⟩ := List.mem_map.1 hr
      have := (List.mem_filter.1 hi).2
      rw [near_line hn]
      simp at this ⊢
      omega
  · rw [if_neg e]
    cases hf : (runsOf n k m).find? (near (j * n)) with
    | none =>
      have hm : (j * n, 8) ∈ runsOf n k m := List.mem_map.2 ⟨j, List.mem_filter.2 ⟨List.mem_range.2 hj, decide_eq_true e⟩, rfl⟩
      have := List.find?_eq_none.1 hf _ hm
      rw [near_line hn] at this
      simp at this
    | some r =>
      obtain ⟨i, hi, rfl⟩ := List.mem_map.1 (List.mem_of_find?_eq_some hf)
      have := List.find?_some hf
      rw [near_line hn] at this
      rw [of_decide_eq_true this]
      rfl
/-- The places of the lines. -/
def places (m n : Nat) : List Int := (List.range m).map fun j => ((j * n : Nat) : Int)
theorem places_succ (m n : Nat) : places (m + 1) n = places m n ++ [((m * n : Nat) : Int)] := by
  unfold places
  rw [List.range_succ, List.map_append]
  rfl
theorem startsGo_lines {m n k : Nat} (hn : 28 ≤ n) (hk : 0 < k) : ∀ d j f, j + 1 + d = m → d < f → startsGo (runsOf n k m) (m * n) n 1 f (j * n) (if j = k then 1 else 0) (places (j + 1) n) = places m n
  | 0, j, f, e, _ => by
    have hm : m * n = j * n + n := by rw [← e, Nat.add_zero, Nat.succ_mul]
    rw [startsGo_end (by omega), ← e]
  | d + 1, j, 0, _, hf => by omega
  | d + 1, j, f + 1, e, hf => by
    have h2 : j * n + 2 * n ≤ m * n := by
      have := Nat.mul_le_mul_right n (show j + 2 ≤ m by omega)
      rwa [Nat.add_mul] at this
    have h1 : j * n + n = (j + 1) * n := by rw [Nat.succ_mul]
    have hnr : nearR (runsOf n k m) (j * n + n) = if j + 1 = k then none else some ((j + 1) * n) := by
      rw [h1]; exact nearR_lines hn (show j + 1 < m by omega)
    have ih := startsGo_lines (m := m) hn hk d (j + 1) f (by omega) (by omega)
    rw [places_succ] at ih
    by_cases e1 : j + 1 = k
    · rw [if_pos e1] at hnr ih
      have e2 : ¬ j = k := by omega
      rw [if_neg e2, startsGo_missed h2 hnr (by omega), h1]
      exact ih
    · rw [if_neg e1] at hnr ih
      rw [startsGo_found h2 hnr]
      exact ih
theorem runsOf_first {n k m : Nat} (hk : 0 < k) (hm : 0 < m) : ∃ R, runsOf n k m = (0, 8) :: R := by
  obtain ⟨p, rfl⟩ : ∃ p, m = p + 1 := ⟨m - 1, by omega⟩
  unfold runsOf
  rw [List.range_succ_eq_map, List.filter_cons_of_pos (by simp; omega), List.map_cons, Nat.zero_mul]
  exact ⟨_, rfl⟩
theorem LinesL.starts {xs : List Nat} {s m n k : Nat} (h : LinesL xs s m n k) (hn : 28 ≤ n) (hn2 : n ≤ 280) (hl : m * n ≤ 20000) (hk : 0 < k) (hm : 0 < m) : Go.Proofs.YtobpnoiienpipaaGreat.starts xs s (n : Int) 1 = places m n := by
  obtain ⟨R, hR⟩ := runsOf_first (n := n) hk hm
  have hlo := h.lows hn hl
  have h1 : 1 * n ≤ m * n := Nat.mul_le_mul_right n hm
  rw [hR] at hlo
  have hs := starts_yes (len := n) (gap := 1) hlo (by simp) (by unfold startsOk; simp; omega) (by show 0 + n ≤ xs.length; rw [h.len]; omega)
  have hgo := startsGo_lines (m := m) (k := k) hn hk (m - 1) 0 (xs.length + 1) (by omega) (by rw [h.len]; have := Nat.mul_le_mul_left m (show 1 ≤ n by omega); omega)
  rw [if_neg (show ¬ 0 = k by omega), Nat.zero_mul, hR] at hgo
  have hp : places (0 + 1) n = [((0 : Nat) : Int)] := by rw [places_succ]; simp [places]
  rw [hp] at hgo
  rw [h.len] at hs hgo
  refine (show Go.Proofs.YtobpnoiienpipaaGreat.starts xs s (n : Int) ((1 : Nat) : Int) = _ from hs).trans ?_
  exact hgo
theorem cuts_lines {xs : List Nat} {m n : Nat} (hlen : xs.length = m * n) (hn : 28 ≤ n) (hn2 : n ≤ 280) (hl : m * n ≤ 20000) : cuts xs (places m n) (n : Int) = (List.range m).map fun j => part xs (j * n) n := by
  unfold cuts cutsK places
  rw [if_pos ⟨by unfold lineN; simp; omega, by rw [hlen]; exact hl⟩, Int.toNat_natCast]
  rw [List.filter_map, List.map_map, List.filter_eq_self.2]
  · refine List.map_congr_left fun j hj => ?_
    show part xs (((j * n : Nat) : Int)).toNat n = _
    rw [Int.toNat_natCast]
  · intro j hj
    have hj := List.mem_range.1 hj
    have := Nat.mul_le_mul_right n (show j + 1 ≤ m from hj)
    rw [Nat.succ_mul] at this
    show cutAt xs n ((j * n : Nat) : Int) = true
    unfold cutAt
    rw [hlen, decide_eq_true (show (0 : Int) ≤ ((j * n : Nat) : Int) by omega), decide_eq_true (show ((j * n : Nat) : Int) ≤ ((m * n : Nat) : Int) - (n : Int) by omega)]
    rfl
/-- A stream of m lines of n samples each, each with its pulse. -/
structure AllL (xs : List Nat) (s m n : Nat) : Prop where
  len : xs.length = m * n
  lo : ∀ j t, j < m → t < n → leb (xs.getD (j * n + t) 0) s = decide (t < 8)
theorem AllL.nil (s n : Nat) : AllL [] s 0 n := ⟨by simp, fun j t h => by omega⟩
theorem AllL.lines {xs : List Nat} {s m n : Nat} (h : AllL xs s m n) : LinesL xs s m n m :=
  ⟨h.len, fun j t hj ht => by rw [h.lo j t hj ht, decide_eq_true (show j ≠ m by omega), Bool.and_true]⟩
theorem AllL.snoc {xs ys : List Nat} {s m n : Nat} (h : AllL xs s m n) (hy : ys.length = n) (hl : ∀ t, t < n → leb (ys.getD t 0) s = decide (t < 8)) : AllL (xs ++ ys) s (m + 1) n := by
  refine ⟨by rw [List.length_append, h.len, hy, Nat.succ_mul], fun j t hj ht => ?_⟩
  by_cases e : j = m
  · subst e
    rw [← hl t ht, List.getD_eq_getElem?_getD, List.getElem?_append_right (by rw [h.len]; omega), h.len, Nat.add_sub_cancel_left, ← List.getD_eq_getElem?_getD]
  · have hj : j < m := by omega
    rw [List.getD_eq_getElem?_getD, List.getElem?_append_left (by rw [h.len]; exact line_lt hj ht), ← List.getD_eq_getElem?_getD]
    exact h.lo j t hj ht
end Go.Proofs.YtobpnoiienpipaaGreat
