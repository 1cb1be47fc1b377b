/-
  What is proved: a link's lines, one behind the other, are found and cut apart.
  Conditions: those that each fact names.
-/
import Derived.Test.YtobpnoiienpipaaGreatPz29
import Derived.Test.YtobpnoiienpipaaGreatCutJ
namespace Go.Proofs.YtobpnoiienpipaaGreat
set_option linter.unusedVariables false
open Go.RowKit
open Flt (Q)

/-- A line is low in its pulse, and perhaps in some samples of its burst, never in three in a row behind the pulse. -/
structure LowL (ys : List Nat) (s n e : Nat) : Prop where
  le : e ≤ 2
  yes : ∀ t, t < 8 + e → leb (ys.getD t 0) s = true
  no : leb (ys.getD (8 + e) 0) s = false
  few : ∀ t, 8 + e < t → t < n → leb (ys.getD t 0) s = true → leb (ys.getD (t - 1) 0) s = false ∨ leb (ys.getD (t - 2) 0) s = false
  last : leb (ys.getD (n - 1) 0) s = false
theorem flat_getD {n : Nat} : ∀ (lines : List (List Nat)) (j t : Nat), (∀ l ∈ lines, l.length = n) → j < lines.length → t < n → lines.flatten.getD (j * n + t) 0 = (lines.getD j []).getD t 0
  | l :: lines, 0, t, h, _, ht => by
    rw [List.flatten_cons, Nat.zero_mul, Nat.zero_add, List.getD_eq_getElem?_getD, List.getElem?_append_left (by rw [h l (by simp)]; exact ht), ← List.getD_eq_getElem?_getD]
    rfl
  | l :: lines, j + 1, t, h, hj, ht => by
    have hl := h l (by simp)
    rw [List.flatten_cons, List.getD_eq_getElem?_getD, List.getElem?_append_right (by rw [hl, Nat.succ_mul]; omega), hl, show (j + 1) * n + t - n = j * n + t by rw [Nat.succ_mul]; omega, ← List.getD_eq_getElem?_getD]
    exact flat_getD lines j t (fun x hx => h x (by simp [hx])) (by simpa using hj) ht
theorem lines_len {n : Nat} : ∀ (lines : List (List Nat)), (∀ l ∈ lines, l.length = n) → lines.flatten.length = lines.length * n
  | [], _ => by simp
  | l :: lines, h => by
    rw [List.flatten_cons, List.length_append, lines_len lines (fun x hx => h x (by simp [hx])), h l (by simp), List.length_cons, Nat.succ_mul]
    omega
theorem flat_part {n : Nat} : ∀ (lines : List (List Nat)) (j : Nat), (∀ l ∈ lines, l.length = n) → j < lines.length → part lines.flatten (j * n) n = lines.getD j []
  | l :: lines, 0, h, _ => by
    have hl := h l (by simp)
    unfold part
    rw [List.flatten_cons, Nat.zero_mul, List.drop_zero, List.take_append_of_le_length (by omega), List.take_of_length_le (by omega)]
    rfl
  | l :: lines, j + 1, h, hj => by
    have hl := h l (by simp)
    have ih := flat_part lines j (fun x hx => h x (by simp [hx])) (by simpa using hj)
    unfold part at ih ⊢
    rw [List.flatten_cons, Nat.succ_mul, List.drop_append, List.drop_of_length_le (by omega), List.nil_append, show j * n + n - l.length = j * n by omega]
    exact ih
/-- The runs of low samples: one at each line's beginning. -/
theorem LowL.line {lines : List (List Nat)} {s n j e : Nat} {R : List R2} (hw : ∀ l ∈ lines, l.length = n) (hn : 28 ≤ n) (hj : j < lines.length) (hl : LowL (lines.getD j []) s n e) (ih : lowsK lines.flatten s (j * n) = (R, 0)) :
    lowsK lines.flatten s ((j + 1) * n) = (R ++ [(j * n, 8 + e)], 0) := by
  have he := hl.le
  have hlow : ∀ t, t < n → low lines.flatten s (j * n + t) = leb ((lines.getD j []).getD t 0) s := fun t ht => by
    unfold low
    rw [flat_getD lines j t hw hj ht, decide_eq_true (by rw [lines_len lines hw]; exact line_lt hj ht), Bool.true_and]
  have k1 : ∀ t, t ≤ 8 + e → lowsK lines.flatten s (j * n + t) = (R, t) := by
    intro t
    induction t with
    | zero => intro _; exact ih
    | succ t it =>
      intro ht
      have h1 := it (by omega)
      have h2 := hlow t (by omega)
      rw [hl.yes t (by omega)] at h2
      rw [← Nat.add_assoc, lowsK_low h2, h1]
  have k2 : lowsK lines.flatten s (j * n + (8 + e) + 1) = (R ++ [(j * n, 8 + e)], 0) := by
    have h1 := k1 (8 + e) (Nat.le_refl _)
    have h2 := hlow (8 + e) (by omega)
    rw [hl.no] at h2
    have h3 := lowsK_cut h2 (by rw [h1]; show 5 ≤ 8 + e; omega)
    rw [h1] at h3
    rw [h3]
    show (R ++ [(j * n + (8 + e) - (8 + e), 8 + e)], 0) = _
    rw [Nat.add_sub_cancel]
  have k3 : ∀ d, 9 + e + d ≤ n → ∃ c, lowsK lines.flatten s (j * n + (9 + e + d)) = (R ++ [(j * n, 8 + e)], c) ∧ c ≤ 2 ∧ (1 ≤ c → 8 + e < 8 + e + d ∧ leb ((lines.getD j []).getD (8 + e + d) 0) s = true) ∧ (2 ≤ c → leb ((lines.getD j []).getD (8 + e + d - 1) 0) s = true) := by
    intro d
    induction d with
    | zero =>
      intro _
      exact ⟨0, by rw [← k2]; congr 1; omega, by decide, fun h => absurd h (by decide), fun h => absurd h (by decide)⟩
    | succ d it =>
      intro hd
      obtain ⟨c, h1, h2, h3, h4⟩ := it (by omega)
      have h5 := hlow (9 + e + d) (by omega)
      rw [show j * n + (9 + e + (d + 1)) = j * n + (9 + e + d) + 1 by omega]
      cases hb : leb ((lines.getD j []).getD (9 + e + d) 0) s with
      | false =>
        rw [hb] at h5
        refine ⟨0, by rw [lowsK_none h5 (by rw [h1]; show ¬ 5 ≤ c; omega), h1], by decide, fun h => absurd h (by decide), fun h => absurd h (by decide)⟩
      | true =>
        rw [hb] at h5
        have h6 := hl.few (9 + e + d) (by omega) (by omega) hb
        rw [show 9 + e + d - 1 = 8 + e + d by omega, show 9 + e + d - 2 = 8 + e + d - 1 by omega] at h6
        have hc : c ≤ 1 := by
          rcases Nat.lt_or_ge c 2 with h | h
          · omega
          · rw [(h3 (by omega)).2, h4 h] at h6
            rcases h6 with h6 | h6 <;> cases h6
        refine ⟨c + 1, by rw [lowsK_low h5, h1], by omega, fun _ => ⟨by omega, by rw [show 8 + e + (d + 1) = 9 + e + d by omega]; exact hb⟩, fun h => ?_⟩
        rw [show 8 + e + (d + 1) - 1 = 8 + e + d by omega]
        exact (h3 (by omega)).2
  obtain ⟨c, h1, h2, h3, h4⟩ := k3 (n - (9 + e)) (by omega)
  have hc : c = 0 := by
    rcases Nat.eq_zero_or_pos c with h | h
    · exact h
    · have h5 := (h3 h).2
      rw [show 8 + e + (n - (9 + e)) = n - 1 by omega, hl.last] at h5
      cases h5
  rw [Nat.succ_mul]
  rw [show 9 + e + (n - (9 + e)) = n by omega, hc] at h1
  exact h1
theorem LowL.upto {lines : List (List Nat)} {s n : Nat} (hw : ∀ l ∈ lines, l.length = n) (hn : 28 ≤ n) (hl : ∀ l ∈ lines, ∃ e, LowL l s n e) : ∀ j, j ≤ lines.length → ∃ R, lowsK lines.flatten s (j * n) = (R, 0) ∧ R.map Prod.fst = (List.range j).map fun i => i * n
  | 0, _ => ⟨[], by rw [Nat.zero_mul]; rfl, rfl⟩
  | j + 1, hj => by
    obtain ⟨R, h1, h2⟩ := LowL.upto hw hn hl j (by omega)
    obtain ⟨e, he⟩ := hl (lines.getD j []) (by rw [getD_lt (show j < lines.length by omega)]; exact List.getElem_mem _)
    exact ⟨_, he.line hw hn (by omega) h1, by rw [List.map_append, h2, List.range_succ, List.map_append]; rfl⟩
theorem LowL.lows {lines : List (List Nat)} {s n : Nat} (hw : ∀ l ∈ lines, l.length = n) (hn : 28 ≤ n) (hl : ∀ l ∈ lines, ∃ e, LowL l s n e) (hm : lines.length * n ≤ 20000) : ∃ R, Go.Proofs.YtobpnoiienpipaaGreat.lows lines.flatten s = R ∧ R.map Prod.fst = (List.range lines.length).map fun i => i * n := by
  obtain ⟨R, h1, h2⟩ := LowL.upto hw hn hl lines.length (Nat.le_refl _)
  refine ⟨R, ?_, h2⟩
  unfold Go.Proofs.YtobpnoiienpipaaGreat.lows
  rw [if_pos (by rw [lines_len lines hw]; exact hm), lines_len lines hw]
  have h3 : low lines.flatten s (lines.length * n) = false := by
    unfold low
    rw [decide_eq_false (by rw [lines_len lines hw]; omega), Bool.false_and]
  rw [lowsK_none h3 (by rw [h1]; show ¬ 5 ≤ 0; decide), h1]
theorem near_fst {n i j c : Nat} (hn : 28 ≤ n) : near (j * n) (i * n, c) = decide (i = j) := near_line (n := n) (i := i) (j := j) hn
theorem nearR_fst {n m : Nat} {R : List R2} (hR : R.map Prod.fst = (List.range m).map fun i => i * n) (hn : 28 ≤ n) {j : Nat} (hj : j < m) : nearR R (j * n) = some (j * n) := by
  have hmem : ∀ r ∈ R, ∃ i, i < m ∧ r.1 = i * n := fun r hr => by
    have h1 : r.1 ∈ R.map Prod.fst := List.mem_map.2 ⟨r, hr, rfl⟩
    rw [hR] at h1
    obtain ⟨i, hi, e⟩ := List.mem_map.1 h1
    exact ⟨i, List.mem_range.1 hi, e.symm⟩
  unfold nearR
  cases hf : R.find? (near (j * n)) with
  | none =>
    have h1 : j * n ∈ R.map Prod.fst := by rw [hR]; exact List.mem_map.2 ⟨j, List.mem_range.2 hj, rfl⟩
    obtain ⟨r, hr, e⟩ := List.mem_map.1 h1
    have := List.find?_eq_none.1 hf r hr
    obtain ⟨a, c⟩ := r
    simp only at e
    rw [e, near_fst hn] at this
    simp at this
  | some r =>
    obtain ⟨i, hi, e⟩ := hmem r (List.mem_of_find?_eq_some hf)
    have := List.find?_some hf
    obtain ⟨a, c⟩ := r
    simp only at e
    rw [e, near_fst hn] at this
    rw [e, of_decide_eq_true this]
    rfl
theorem startsGo_all {m n gap : Nat} {R : List R2} (hR : R.map Prod.fst = (List.range m).map fun i => i * n) (hn : 28 ≤ n) : ∀ d j f, j + 1 + d = m → d < f → startsGo R (m * n) n gap f (j * n) 0 (places (j + 1) n) = places m n
  | 0, j, f, e, _ => by
    have hm : m * n = j * n + n := by rw [← e, Nat.add_zero, Nat.succ_mul]
    rw [startsGo_end (by omega), ← e]
  | d + 1, j, 0, _, hf => by omega
  | d + 1, j, f + 1, e, hf => by
    have h2 : j * n + 2 * n ≤ m * n := by
      have := Nat.mul_le_mul_right n (show j + 2 ≤ m by omega)
      rwa [Nat.add_mul] at this
    have h1 : j * n + n = (j + 1) * n := by rw [Nat.succ_mul]
    have hnr : nearR R (j * n + n) = some ((j + 1) * n) := by rw [h1]; exact nearR_fst hR hn (show j + 1 < m by omega)
    have ih := startsGo_all (gap := gap) hR hn d (j + 1) f (by omega) (by omega)
    rw [places_succ] at ih
    rw [startsGo_found h2 hnr]
    exact ih
/-- Where the lines begin, and what is cut there. -/
theorem link_cut {lines : List (List Nat)} {s n : Nat} (hw : ∀ l ∈ lines, l.length = n) (hn : 28 ≤ n) (hn2 : n ≤ 280) (hl : ∀ l ∈ lines, ∃ e, LowL l s n e) (hm : lines.length * n ≤ 20000) (h0 : 0 < lines.length) :
    Go.Proofs.YtobpnoiienpipaaGreat.starts lines.flatten s (n : Int) 3 = places lines.length n ∧ cuts lines.flatten (places lines.length n) (n : Int) = lines := by
  obtain ⟨R, h1, h2⟩ := LowL.lows hw hn hl hm
  have hlen := lines_len lines hw
  have h3 : 1 * n ≤ lines.length * n := Nat.mul_le_mul_right n h0
  refine ⟨?_, ?_⟩
  · obtain ⟨p, hp⟩ : ∃ p, lines.length = p + 1 := ⟨lines.length - 1, by omega⟩
    have hR0 : ∃ c R', R = (0, c) :: R' := by
      rw [hp, List.range_succ_eq_map, List.map_cons] at h2
      cases R with
      | nil => cases h2
      | cons r R' =>
        obtain ⟨a, c⟩ := r
        simp only [List.map_cons, List.cons.injEq, Nat.zero_mul] at h2
        exact ⟨c, R', by rw [h2.1]⟩
    obtain ⟨c, R', rfl⟩ := hR0
    have hs := starts_yes (len := n) (gap := 3) h1 (by simp) (by unfold startsOk; simp; omega) (by show 0 + n ≤ lines.flatten.length; rw [hlen]; omega)
    have hgo := startsGo_all (gap := 3) h2 hn (lines.length - 1) 0 (lines.flatten.length + 1) (by omega) (by rw [hlen]; have := Nat.mul_le_mul_left lines.length (show 1 ≤ n by omega); omega)
    have hpl : places (0 + 1) n = [((0 : Nat) : Int)] := by rw [places_succ]; simp [places]
    rw [hpl, Nat.zero_mul] at hgo
    rw [hlen] at hs hgo
    refine (show Go.Proofs.YtobpnoiienpipaaGreat.starts lines.flatten s (n : Int) ((3 : Nat) : Int) = _ from hs).trans ?_
    exact hgo
  · rw [cuts_lines hlen hn hn2 hm]
    refine List.ext_getElem (by simp) fun j h4 h5 => ?_
    rw [List.getElem_map, List.getElem_range, flat_part lines j hw h5, getD_lt h5]

/-! The samples of a link's line. -/
theorem q24 : Q 142 3250585600 (-3072) := by
  have h := (Flt.q_word (e := 149) (a := -24) (by decide) (show Ieee.single.read 3250585600 = .number true 12582912 (-19) by decide +kernel) (by decide +kernel)).lift 7 (by decide)
  rwa [show (-24 : Int) * 2 ^ 7 = -3072 by decide] at h
theorem leb_24 {x : Nat} {a : Int} (h : Q 142 x a) : leb x 3250585600 = decide (a ≤ -3072) := by
  unfold leb
  rw [h.order q24]
  by_cases e : a ≤ -3072
  · rw [decide_eq_true e]
    rcases Int.lt_or_eq_of_le e with e | e
    · rw [Flt.cmp_lt e]; rfl
    · rw [Flt.cmp_eq e]; rfl
  · rw [decide_eq_false e, Flt.cmp_gt (by omega)]; rfl
/-- Whole numbers of cells that a link carries. -/
def KLink (ks : List I3) : Prop := ∀ k ∈ ks, 0 ≤ k.1 ∧ k.2.1.natAbs ≤ 32 ∧ k.2.2.natAbs ≤ 32
theorem sI_high {ξ η : Int} (hξ : ξ.natAbs ≤ 2) (hη : η.natAbs ≤ 4) {ks : List I3} (hk : KLink ks) : ∀ s ∈ sI ξ η ks, -256 ≤ s := by
  intro s hs
  unfold sI at hs
  obtain ⟨t, ht, hs⟩ := List.mem_flatMap.1 hs
  obtain ⟨k, hk', rfl⟩ := List.mem_map.1 ht
  obtain ⟨b1, b2, b3⟩ := hk k hk'
  have m1 := mul_le (n := 4) b2 (show (2 * ξ).natAbs ≤ 4 by omega)
  have m2 := mul_le b3 hη
  have m3 := mul_le b2 hη
  have m4 := mul_le (n := 4) b3 (show (2 * ξ).natAbs ≤ 4 by omega)
  unfold encI tI at hs
  simp only [List.mem_cons, List.mem_nil_iff, or_false] at hs
  rcases hs with rfl | rfl | rfl | rfl <;> omega
theorem QL.getD {e : Nat} {xs : List Nat} {ks : List Int} (h : QL e xs ks) {i : Nat} (hi : i < ks.length) : Q e (xs.getD i 0) (ks.getD i 0) := by
  have hx : i < xs.length := by rw [h.len]; exact hi
  rw [getD_lt hx, getD_lt hi]
  exact h.get i hx hi
/-- A line behind a link's channel is low in its pulse and at most in two samples in a row elsewhere. -/
theorem link_low {α ω ξ η : Int} (hα : 1 ≤ α ∧ α ≤ 4) (hω : ω.natAbs ≤ 32) (hξ : ξ.natAbs ≤ 2) (hη : η.natAbs ≤ 4) {ks : List I3} (hk : KLink ks) (h0 : 1 ≤ ks.length) {odd : Bool} {xs : List Nat}
    (hq : QL 142 xs ((sI ξ η (kL odd ks)).map fun s => α * s + 16 * ω)) : ∃ e, LowL xs 3250585600 (24 + 4 * ks.length) e := by
  have hsl : (sI ξ η ks).length = 4 * ks.length := by unfold sI; rw [flat_len, List.length_map]
  have hhi := sI_high hξ hη hk
  rw [sI_line, bI_eq] at hq
  generalize burA ξ η odd = u at *
  generalize burB ξ η odd = v at *
  generalize hjs : sI ξ η ks = js at *
  have hlen : ((List.replicate 8 (-4096 : Int) ++ ([u, -v, -u, v, u, -v, -u, v, u, -v, -u, v, u, -v, -u, v] ++ js)).map fun s => α * s + 16 * ω).length = 24 + 4 * ks.length := by
    rw [List.length_map, List.length_append, List.length_append, hsl, List.length_replicate]
    simp
    omega
  have at_ : ∀ t, t < 24 + 4 * ks.length → leb (xs.getD t 0) 3250585600 = decide ((((List.replicate 8 (-4096 : Int) ++ ([u, -v, -u, v, u, -v, -u, v, u, -v, -u, v, u, -v, -u, v] ++ js)).map fun s => α * s + 16 * ω).getD t 0) ≤ -3072) := fun t ht =>
    leb_24 (hq.getD (by rw [hlen]; exact ht))
  have pul : ∀ t, t < 8 → leb (xs.getD t 0) 3250585600 = true := fun t ht => by
    rw [at_ t (by omega), decide_eq_true]
    rw [getD_lt (by rw [hlen]; omega), List.getElem_map, List.getElem_append_left (by simpa using ht), List.getElem_replicate]
    omega
  have row : ∀ t, 24 ≤ t → t < 24 + 4 * ks.length → leb (xs.getD t 0) 3250585600 = false := fun t h1 ht => by
    rw [at_ t ht, decide_eq_false]
    have hm : (((List.replicate 8 (-4096 : Int) ++ ([u, -v, -u, v, u, -v, -u, v, u, -v, -u, v, u, -v, -u, v] ++ js)).map fun s => α * s + 16 * ω).getD t 0) ∈ js.map fun s => α * s + 16 * ω := by
      rw [getD_lt (by rw [hlen]; exact ht)]
      simp only [List.map_append]
      rw [List.getElem_append_right (by simp; omega), List.getElem_append_right (by simp; omega)]
      exact List.getElem_mem _
    obtain ⟨s, hs, e⟩ := List.mem_map.1 hm
    rw [← e]
    have := hhi s hs
    have h2 : -1024 ≤ α * s := by
      by_cases h : s < 0
      · have := mul_le (a := α) (b := s) (m := 4) (n := 256) (by omega) (by omega); omega
      · have := Int.mul_nonneg (show 0 ≤ α by omega) (show 0 ≤ s by omega); omega
    omega
  have bur : ∀ i (hi : i < 16), leb (xs.getD (8 + i) 0) 3250585600 = decide (α * ([u, -v, -u, v, u, -v, -u, v, u, -v, -u, v, u, -v, -u, v][i]'hi) + 16 * ω ≤ -3072) := fun i hi => by
    rw [at_ (8 + i) (by omega), getD_lt (by rw [hlen]; omega), List.getElem_map, List.getElem_append_right (by simp), List.getElem_append_left (by simp; omega)]
    simp
  have opp : ∀ s : Int, (α * s + 16 * ω ≤ -3072) → ¬ (α * (-s) + 16 * ω ≤ -3072) := fun s h h2 => by
    rw [Int.mul_neg] at h2
    omega
  have b0 := bur 0 (by decide); have b1 := bur 1 (by decide); have b2 := bur 2 (by decide); have b3 := bur 3 (by decide)
  have b4 := bur 4 (by decide); have b5 := bur 5 (by decide); have b6 := bur 6 (by decide); have b7 := bur 7 (by decide)
  have b8 := bur 8 (by decide); have b9 := bur 9 (by decide); have b10 := bur 10 (by decide); have b11 := bur 11 (by decide)
  have b12 := bur 12 (by decide); have b13 := bur 13 (by decide); have b14 := bur 14 (by decide); have b15 := bur 15 (by decide)
  simp only [List.getElem_cons_zero, List.getElem_cons_succ] at b0 b1 b2 b3 b4 b5 b6 b7 b8 b9 b10 b11 b12 b13 b14 b15
  have few : ∀ t, 10 ≤ t → t < 24 + 4 * ks.length → leb (xs.getD t 0) 3250585600 = true → leb (xs.getD (t - 2) 0) 3250585600 = false := by
    intro t h1 h2 h3
    by_cases h4 : 24 ≤ t
    · rw [row t h4 h2] at h3; cases h3
    · have hu := opp u
      have hu' := opp (-u)
      have hv := opp v
      have hv' := opp (-v)
      rw [Int.neg_neg] at hu' hv'
      rcases (by omega : t = 10 ∨ t = 11 ∨ t = 12 ∨ t = 13 ∨ t = 14 ∨ t = 15 ∨ t = 16 ∨ t = 17 ∨ t = 18 ∨ t = 19 ∨ t = 20 ∨ t = 21 ∨ t = 22 ∨ t = 23) with rfl | rfl | rfl | rfl | rfl | rfl | rfl | rfl | rfl | rfl | rfl | rfl | rfl | rfl
      · exact b0.trans (decide_eq_false (hu' (of_decide_eq_true (b2.symm.trans h3))))
      · exact b1.trans (decide_eq_false (hv (of_decide_eq_true (b3.symm.trans h3))))
      · exact b2.trans (decide_eq_false (hu (of_decide_eq_true (b4.symm.trans h3))))
      · exact b3.trans (decide_eq_false (hv' (of_decide_eq_true (b5.symm.trans h3))))
      · exact b4.trans (decide_eq_false (hu' (of_decide_eq_true (b6.symm.trans h3))))
      · exact b5.trans (decide_eq_false (hv (of_decide_eq_true (b7.symm.trans h3))))
      · exact b6.trans (decide_eq_false (hu (of_decide_eq_true (b8.symm.trans h3))))
      · exact b7.trans (decide_eq_false (hv' (of_decide_eq_true (b9.symm.trans h3))))
      · exact b8.trans (decide_eq_false (hu' (of_decide_eq_true (b10.symm.trans h3))))
      · exact b9.trans (decide_eq_false (hv (of_decide_eq_true (b11.symm.trans h3))))
      · exact b10.trans (decide_eq_false (hu (of_decide_eq_true (b12.symm.trans h3))))
      · exact b11.trans (decide_eq_false (hv' (of_decide_eq_true (b13.symm.trans h3))))
      · exact b12.trans (decide_eq_false (hu' (of_decide_eq_true (b14.symm.trans h3))))
      · exact b13.trans (decide_eq_false (hv (of_decide_eq_true (b15.symm.trans h3))))
  have last := row (24 + 4 * ks.length - 1) (by omega) (by omega)
  cases h8 : leb (xs.getD 8 0) 3250585600 with
  | false =>
    refine ⟨0, by decide, fun t ht => pul t ht, h8, fun t h1 h2 h3 => ?_, last⟩
    by_cases h4 : t = 9
    · subst h4; exact .inl h8
    · exact .inr (few t (by omega) h2 h3)
  | true =>
    cases h9 : leb (xs.getD 9 0) 3250585600 with
    | false =>
      refine ⟨1, by decide, fun t ht => ?_, h9, fun t h1 h2 h3 => .inr (few t (by omega) h2 h3), last⟩
      by_cases h4 : t = 8
      · subst h4; exact h8
      · exact pul t (by omega)
    | true =>
      refine ⟨2, by decide, fun t ht => ?_, ?_, fun t h1 h2 h3 => .inr (few t (by omega) h2 h3), last⟩
      · by_cases h4 : t = 8
        · subst h4; exact h8
        · by_cases h5 : t = 9
          · subst h5; exact h9
          · exact pul t (by omega)
      · cases h10 : leb (xs.getD 10 0) 3250585600 with
        | false => rfl
        | true =>
          have := few 10 (by decide) (by omega) h10
          rw [show 10 - 2 = 8 from rfl, h8] at this
          cases this
end Go.Proofs.YtobpnoiienpipaaGreat
