/-
  What is proved: plain facts on lists of decimal digits: what number they make, and that a number's digits without leading zeros are the only ones of their kind.
  Conditions: none.
-/
import Derived.Lib.ItoaNum
import Derived.Lib.ItoaLen
namespace Go.Proofs.YtobpnoiienpipaaDoor

def isDig (c : UInt8) : Bool := decide (48 ≤ c.toNat) && decide (c.toNat ≤ 57)
theorem isDig_iff {c : UInt8} : isDig c = true ↔ 48 ≤ c.toNat ∧ c.toNat ≤ 57 := by simp [isDig]
/-- The number that the digits make. -/
def nv (l : List UInt8) : Nat := l.foldl (fun a c => 10 * a + (c.toNat - 48)) 0
theorem nv_nil : nv [] = 0 := rfl
theorem nv_snoc (l : List UInt8) (c : UInt8) : nv (l ++ [c]) = 10 * nv l + (c.toNat - 48) := by simp [nv]
theorem take_snoc' (l : List UInt8) (k : Nat) (h : k < l.length) : l.take (k + 1) = l.take k ++ [l[k]] := List.take_succ_eq_append_getElem h

structure Scan (l : List UInt8) (n k : Nat) : Prop where
  le : k ≤ l.length
  val : n = nv (l.take k)
  dig : ∀ c ∈ l.take k, isDig c = true
  low : ∀ j, j < k → nv (l.take j) ≤ 1000000000
theorem Scan.start (l : List UInt8) : Scan l 0 0 := ⟨Nat.zero_le _, rfl, by simp, fun j h => by omega⟩
theorem Scan.step {l : List UInt8} {n k : Nat} (h : Scan l n k) (hk : k < l.length) (hn : n ≤ 1000000000) (hd : isDig l[k] = true) : Scan l (10 * n + (l[k].toNat - 48)) (k + 1) := by
  refine ⟨by omega, ?_, ?_, ?_⟩
  · rw [take_snoc' l k hk, nv_snoc, ← h.val]
  · intro c hc
    rw [take_snoc' l k hk, List.mem_append] at hc
    rcases hc with hc | hc
    · exact h.dig c hc
    · obtain rfl := List.mem_singleton.1 hc; exact hd
  · intro j hj
    by_cases e : j = k
    · subst e; rw [← h.val]; exact hn
    · exact h.low j (by omega)

/-- Where the scan stops. -/
def ScanEnd (l : List UInt8) (n k : Nat) : Prop := Scan l n k ∧ (k = l.length ∨ 1000000000 < n ∨ ∃ h : k < l.length, isDig l[k] = false)

/-- Digits without a leading zero. -/
structure Canon (l : List UInt8) : Prop where
  ne : l ≠ []
  dig : ∀ c ∈ l, isDig c = true
  lead : l.length = 1 ∨ ∃ c r, l = c :: r ∧ c ≠ 48

theorem nv_cons_pos : ∀ (r : List UInt8) (a : Nat), 1 ≤ a → 1 ≤ r.foldl (fun a c => 10 * a + (c.toNat - 48)) a
  | [], _, h => h
  | c :: r, a, h => nv_cons_pos r _ (by dsimp only; omega)
theorem nv_pos {c : UInt8} {r : List UInt8} (hd : isDig c = true) (hc : c ≠ 48) : 1 ≤ nv (c :: r) := by
  have h1 := isDig_iff.1 hd
  have h2 : c.toNat ≠ 48 := fun e => hc (UInt8.toNat_inj.1 (by simpa using e))
  exact nv_cons_pos r _ (by dsimp only; omega)
theorem nv_from : ∀ (r : List UInt8) (a : Nat), a * 10 ^ r.length ≤ r.foldl (fun a c => 10 * a + (c.toNat - 48)) a
  | [], a => by simp
  | c :: r, a => by
    have h := nv_from r (10 * a + (c.toNat - 48))
    rw [List.foldl_cons, List.length_cons, Nat.pow_succ]
    refine Nat.le_trans ?_ h
    rw [Nat.mul_comm (10 ^ r.length) 10, ← Nat.mul_assoc]
    exact Nat.mul_le_mul_right _ (by omega)
theorem nv_ge {c : UInt8} (hd : isDig c = true) (hc : c ≠ 48) (r : List UInt8) : 10 ^ r.length ≤ nv (c :: r) := by
  have h1 := isDig_iff.1 hd
  have h2 : c.toNat ≠ 48 := fun e => hc (UInt8.toNat_inj.1 (by simpa using e))
  refine Nat.le_trans ?_ (nv_from r (10 * 0 + (c.toNat - 48)))
  exact Nat.le_mul_of_pos_left _ (by omega)
theorem dig_of_nat {c : UInt8} (h : isDig c = true) : UInt8.ofNat (48 + (c.toNat - 48)) = c := by
  have := isDig_iff.1 h
  rw [show 48 + (c.toNat - 48) = c.toNat by omega]; simp

theorem Canon.digits {l : List UInt8} (h : Canon l) : Lib.decDigits (nv l) = l := by
  obtain ⟨ne, dig, lead⟩ := h
  generalize hn : l.length = n
  induction n using Nat.strongRecOn generalizing l with
  | _ n ih =>
    rcases List.eq_nil_or_concat l with e | ⟨r, c, e⟩
    · exact absurd e ne
    · rw [List.concat_eq_append] at e
      subst e
      have hc := dig c (by simp)
      have hc2 := isDig_iff.1 hc
      rw [nv_snoc]
      by_cases hr : r = []
      · subst hr
        simp only [nv_nil, List.nil_append]
        rw [Lib.decDigits_one (by omega), show 10 * 0 + (c.toNat - 48) = c.toNat - 48 by omega, dig_of_nat hc]
      · have hlead : ∃ d t, r = d :: t ∧ d ≠ 48 := by
          rcases lead with h1 | ⟨d, t, h1, h2⟩
          · simp at h1; exact absurd h1 hr
          · cases r with
            | nil => exact absurd rfl hr
            | cons x y => simp at h1; exact ⟨x, y, rfl, h1.1 ▸ h2⟩
        have ihr := ih r.length (by simp at hn; omega) hr (fun x hx => dig x (by simp [hx])) (.inr hlead) rfl
        obtain ⟨d, t, e1, e2⟩ := hlead
        have hp : 1 ≤ nv r := by rw [e1]; exact nv_pos (dig d (by simp [e1])) e2
        rw [Lib.decDigits, dif_neg (by omega), show (10 * nv r + (c.toNat - 48)) / 10 = nv r by omega, ihr,
          show (10 * nv r + (c.toNat - 48)) % 10 = c.toNat - 48 by omega, dig_of_nat hc]

theorem dig_ofNat (d : Nat) (h : d < 10) : isDig (UInt8.ofNat (48 + d)) = true ∧ (UInt8.ofNat (48 + d)).toNat - 48 = d := by
  have e : (UInt8.ofNat (48 + d)).toNat = 48 + d := by rw [UInt8.toNat_ofNat']; omega
  exact ⟨isDig_iff.2 (by omega), by omega⟩

theorem nv_digits (u : Nat) : nv (Lib.decDigits u) = u := by
  induction u using Nat.strongRecOn with
  | _ u ih =>
    by_cases h : u < 10
    · rw [Lib.decDigits_one h]
      show 10 * 0 + ((UInt8.ofNat (48 + u)).toNat - 48) = u
      rw [(dig_ofNat u h).2]; omega
    · rw [Lib.decDigits, dif_neg h, nv_snoc, ih (u / 10) (by omega), (dig_ofNat (u % 10) (by omega)).2]; omega

theorem digits_canon (u : Nat) : Canon (Lib.decDigits u) := by
  induction u using Nat.strongRecOn with
  | _ u ih =>
    by_cases h : u < 10
    · rw [Lib.decDigits_one h]
      exact ⟨by simp, fun c hc => by obtain rfl := List.mem_singleton.1 hc; exact (dig_ofNat u h).1, .inl rfl⟩
    · have ih' := ih (u / 10) (by omega)
      rw [Lib.decDigits, dif_neg h]
      refine ⟨by simp, fun c hc => ?_, .inr ?_⟩
      · rcases List.mem_append.1 hc with hc | hc
        · exact ih'.dig c hc
        · obtain rfl := List.mem_singleton.1 hc; exact (dig_ofNat (u % 10) (by omega)).1
      · rcases ih'.lead with h1 | ⟨c, r, h1, h2⟩
        · have hlt : u / 10 < 10 := by
            rw [Lib.decDigits_length] at h1
            by_cases hh : u / 10 < 10
            · exact hh
            · rw [Lib.nDigits_big hh] at h1
              have := Lib.nDigits_pos (u / 10 / 10)
              omega
          refine ⟨UInt8.ofNat (48 + u / 10), [UInt8.ofNat (48 + u % 10)], by rw [Lib.decDigits_one hlt]; rfl, fun e => ?_⟩
          have e2 := congrArg UInt8.toNat e
          rw [UInt8.toNat_ofNat'] at e2
          have h48 : (48 : UInt8).toNat = 48 := rfl
          rw [h48] at e2
          omega
        · exact ⟨c, r ++ [UInt8.ofNat (48 + u % 10)], by rw [h1]; rfl, h2⟩

/-- WHAT A TEXT STANDS FOR: the number up to 1000000000 whose decimal text it is. -/
def PU (l : List UInt8) (n : Nat) : Prop := Canon l ∧ nv l = n ∧ n ≤ 1000000000
theorem PU.text {l : List UInt8} {n : Nat} (h : PU l n) : Lib.decDigits n = l := by rw [← h.2.1]; exact h.1.digits
theorem PU.of_text {l : List UInt8} {n : Nat} (h : Lib.decDigits n = l) (hn : n ≤ 1000000000) : PU l n := by
  subst h; exact ⟨digits_canon n, nv_digits n, hn⟩
theorem PU.unique {l : List UInt8} {n m : Nat} (h : PU l n) (h' : PU l m) : n = m := h.2.1.symm.trans h'.2.1
theorem PU.length {l : List UInt8} {n : Nat} (h : PU l n) : l.length ≤ 10 := by
  rw [← h.text, Lib.decDigits_length]
  by_cases hh : Lib.nDigits n ≤ 10
  · exact hh
  · exfalso
    have h1 : 10 ^ (Lib.nDigits n - 1) ≤ n := by
      have key : ∀ u : Nat, 1 ≤ u → 10 ^ (Lib.nDigits u - 1) ≤ u := by
        intro u
        induction u using Nat.strongRecOn with
        | _ u ih =>
          intro hu
          by_cases h10 : u < 10
          · rw [Lib.nDigits_small h10]; simpa using hu
          · rw [Lib.nDigits_big h10]
            have := ih (u / 10) (by omega) (by omega)
            have hp := Lib.nDigits_pos (u / 10)
            rw [show Lib.nDigits (u / 10) + 1 - 1 = (Lib.nDigits (u / 10) - 1) + 1 by omega, Nat.pow_succ]
            omega
      by_cases hn0 : n = 0
      · subst hn0; rw [Lib.nDigits_small (by decide)] at hh; omega
      · exact key n (by omega)
    have h2 : 10 ^ 10 ≤ 10 ^ (Lib.nDigits n - 1) := Nat.pow_le_pow_right (by decide) (by omega)
    have := h.2.2
    omega

/-- The scan that reads all. -/
theorem ScanEnd.whole {l : List UInt8} {n k : Nat} (h : ScanEnd l n k) (hk : k = l.length) : n = nv l ∧ ∀ c ∈ l, isDig c = true := by
  obtain ⟨⟨_, hv, hd, _⟩, _⟩ := h
  subst hk
  rw [List.take_length] at hv hd
  exact ⟨hv, hd⟩
theorem nv_mono : ∀ (r : List UInt8) (a : Nat), a ≤ r.foldl (fun a c => 10 * a + (c.toNat - 48)) a
  | [], _ => Nat.le_refl _
  | _ :: r, _ => Nat.le_trans (by dsimp only; omega) (nv_mono r _)
theorem nv_take_le (l : List UInt8) (k : Nat) : nv (l.take k) ≤ nv l := by
  conv => rhs; rw [← List.take_append_drop k l]
  unfold nv
  rw [List.foldl_append]
  exact nv_mono _ _
/-- A scan that stops early, or at a number too great, reads no text of a number. -/
theorem ScanEnd.none {l : List UInt8} {n k m : Nat} (h : ScanEnd l n k) (hk : k < l.length ∨ 1000000000 < n) : ¬ PU l m := by
  intro hp
  obtain ⟨⟨_, hv, _, _⟩, he⟩ := h
  have hbig : 1000000000 < n → False := fun hb => by
    have := nv_take_le l k
    have h2 := hp.2.1
    have h3 := hp.2.2
    omega
  rcases he with he | he | ⟨hlt, he⟩
  · rcases hk with hk | hk
    · omega
    · exact hbig hk
  · exact hbig he
  · have := hp.1.dig l[k] (List.getElem_mem hlt)
    rw [he] at this
    cases this
theorem ScanEnd.at {l : List UInt8} {n k : Nat} (h : Scan l n k) (hk : k < l.length) (hc : l[k].toNat < 48 ∨ 57 < l[k].toNat ∨ 1000000000 < n) : ScanEnd l n k := by
  refine ⟨h, .inr ?_⟩
  rcases hc with hc | hc | hc
  · refine .inr ⟨hk, ?_⟩
    cases hd : isDig l[k]
    · rfl
    · have := isDig_iff.1 hd; omega
  · refine .inr ⟨hk, ?_⟩
    cases hd : isDig l[k]
    · rfl
    · have := isDig_iff.1 hd; omega
  · exact .inl hc
theorem ScanEnd.all {l : List UInt8} {n k : Nat} (h : Scan l n k) (hk : ¬ k < l.length) : ScanEnd l n k := ⟨h, .inl (by have := h.le; omega)⟩

def canonB (l : List UInt8) : Bool := !l.isEmpty && l.all isDig && (decide (l.length = 1) || decide (l.head? ≠ some 48))
theorem canonB_iff {l : List UInt8} : canonB l = true ↔ Canon l := by
  unfold canonB
  simp only [Bool.and_eq_true, Bool.or_eq_true, Bool.not_eq_true', decide_eq_true_eq, List.all_eq_true]
  constructor
  · rintro ⟨⟨h1, h2⟩, h3⟩
    refine ⟨by intro e; subst e; simp at h1, h2, ?_⟩
    rcases h3 with h3 | h3
    · exact .inl h3
    · cases l with
      | nil => simp at h1
      | cons c r => exact .inr ⟨c, r, rfl, fun e => h3 (by simp [e])⟩
  · rintro ⟨h1, h2, h3⟩
    refine ⟨⟨by simpa using h1, h2⟩, ?_⟩
    rcases h3 with h3 | ⟨c, r, rfl, h3⟩
    · exact .inl h3
    · exact .inr (by simpa using h3)
/-- What a text is parsed to: is it a number up to 1000000000, and which. -/
def puB (l : List UInt8) : Bool := canonB l && decide (nv l ≤ 1000000000)
def puV (l : List UInt8) : Nat := if puB l = true then nv l else 0
theorem puB_iff {l : List UInt8} : puB l = true ↔ PU l (nv l) := by
  unfold puB PU
  simp [canonB_iff]
theorem PU.some {l : List UInt8} {n : Nat} (h : PU l n) : puB l = true ∧ puV l = n := by
  have e := h.2.1
  subst e
  have hb := puB_iff.2 h
  exact ⟨hb, by unfold puV; rw [if_pos hb]⟩
theorem PU.no {l : List UInt8} (h : ∀ n, ¬ PU l n) : puB l = false ∧ puV l = 0 := by
  have hb : puB l = false := by
    cases hb : puB l
    · rfl
    · exact absurd (puB_iff.1 hb) (h _)
  exact ⟨hb, by unfold puV; rw [if_neg (by simp [hb])]⟩
theorem puV_le (l : List UInt8) : puV l ≤ 1000000000 := by
  unfold puV
  split
  · rename_i h; exact (puB_iff.1 h).2.2
  · omega
/-- A scan that reads all of a text, no number too great, no leading zero. -/
theorem ScanEnd.good {l : List UInt8} {n k : Nat} (h : ScanEnd l n k) (hk : ¬ k < l.length) (h0 : 0 < k) (hn : n ≤ 1000000000) (hl : l.length = 1 ∨ ∃ c r, l = c :: r ∧ c ≠ 48) : PU l n := by
  have hkl : k = l.length := by have := h.1.le; omega
  obtain ⟨e, hd⟩ := h.whole hkl
  exact ⟨⟨by intro e; subst e; simp at hkl; omega, hd, hl⟩, e.symm, hn⟩
theorem PU.nolead {r : List UInt8} {n : Nat} (hr : r ≠ []) : ¬ PU (48 :: r) n := by
  intro h
  rcases h.1.lead with h1 | ⟨c, t, h1, h2⟩
  · simp at h1; exact hr h1
  · simp at h1; exact h2 h1.1.symm
theorem PU.nonempty {n : Nat} : ¬ PU [] n := fun h => h.1.ne rfl
end Go.Proofs.YtobpnoiienpipaaDoor
