/-
  What is proved: plain facts on lists of decimal digits: what number they make, and that a number's digits without leading zeros are the only ones of their kind.
  Conditions: none.
-/
import Derived.Lib.ItoaNum
import Derived.Lib.ItoaLen
import Derived.Test.YtobpnoiienpipaaDoorNum
import Derived.Deep.RegionWith
namespace Go.Proofs.YtobpnoiienpipaaDoor

def isDig (c : UInt8) : Bool := decide (48 ≤ c.toNat) && decide (c.toNat ≤ 57)
theorem isDig_iff {c : UInt8} : isDig c = true ↔ 48 ≤ c.toNat ∧ c.toNat ≤ 57 := by simp [isDig]
/-- The number that the digits make. -/
def nv (l : List UInt8) : Nat := l.foldl (fun a c => 10 * a + (c.toNat - 48)) 0
theorem nv_nil : nv [] = 0 := rfl
theorem nv_snoc (l : List UInt8) (c : UInt8) : nv (l ++ [c]) = 10 * nv l + (c.toNat - 48) := by simp [nv]
theorem take_snoc' (l : List UInt8) (k : Nat) (h : k < l.length) : l.take (k + 1) = l.take k ++ [l[k]] := List.take_succ_eq_append_getElem h

structure Scan (l : List UInt8) (n k : Nat) : Prop where
  le : k ≤ l.length
  val : n = nv (l.take k)
  dig : ∀ c ∈ l.take k, isDig c = true
  low : ∀ j, j < k → nv (l.take j) ≤ 1000000000
theorem Scan.start (l : List UInt8) : Scan l 0 0 := ⟨Nat.zero_le _, rfl, by simp, fun j h => by omega⟩
theorem Scan.step {l : List UInt8} {n k : Nat} (h : Scan l n k) (hk : k < l.length) (hn : n ≤ 1000000000) (hd : isDig l[k] = true) : Scan l (10 * n + (l[k].toNat - 48)) (k + 1) := by
  refine ⟨by omega, ?_, ?_, ?_⟩
  · rw [take_snoc' l k hk, nv_snoc, ← h.val]
  · intro c hc
    rw [take_snoc' l k hk, List.mem_append] at hc
    rcases hc with hc | hc
    · exact h.dig c hc
    · obtain rfl := List.mem_singleton.1 hc; exact hd
  · intro j hj
    by_cases e : j = k
    · subst e; rw [← h.val]; exact hn
    · exact h.low j (by omega)

/-- Where the scan stops. -/
def ScanEnd (l : List UInt8) (n k : Nat) : Prop := Scan l n k ∧ (k = l.length ∨ 1000000000 < n ∨ ∃ h : k < l.length, isDig l[k] = false)

/-- Digits without a leading zero. -/
structure Canon (l : List UInt8) : Prop where
  ne : l ≠ []
  dig : ∀ c ∈ l, isDig c = true
  lead : l.length = 1 ∨ ∃ c r, l = c :: r ∧ c ≠ 48

theorem nv_cons_pos : ∀ (r : List UInt8) (a : Nat), 1 ≤ a → 1 ≤ r.foldl (fun a c => 10 * a + (c.toNat - 48)) a
  | [], _, h => h
  | c :: r, a, h => nv_cons_pos r _ (by dsimp only; omega)
theorem nv_pos {c : UInt8} {r : List UInt8} (hd : isDig c = true) (hc : c ≠ 48) : 1 ≤ nv (c :: r) := by
  have h1 := isDig_iff.1 hd
  have h2 : c.toNat ≠ 48 := fun e => hc (UInt8.toNat_inj.1 (by simpa using e))
  exact nv_cons_pos r _ (by dsimp only; omega)
theorem nv_from : ∀ (r : List UInt8) (a : Nat), a * 10 ^ r.length ≤ r.foldl (fun a c => 10 * a + (c.toNat - 48)) a
  | [], a => by simp
  | c :: r, a => by
    have h := nv_from r (10 * a + (c.toNat - 48))
    rw [List.foldl_cons, List.length_cons, Nat.pow_succ]
    refine Nat.le_trans ?_ h
    rw [Nat.mul_comm (10 ^ r.length) 10, ← Nat.mul_assoc]
    exact Nat.mul_le_mul_right _ (by omega)
theorem nv_ge {c : UInt8} (hd : isDig c = true) (hc : c ≠ 48) (r : List UInt8) : 10 ^ r.length ≤ nv (c :: r) := by
  have h1 := isDig_iff.1 hd
  have h2 : c.toNat ≠ 48 := fun e => hc (UInt8.toNat_inj.1 (by simpa using e))
  refine Nat.le_trans ?_ (nv_from r (10 * 0 + (c.toNat - 48)))
  exact Nat.le_mul_of_pos_left _ (by omega)
theorem dig_of_nat {c : UInt8} (h : isDig c = true) : UInt8.ofNat (48 + (c.toNat - 48)) = c := by
  have := isDig_iff.1 h
  rw [show 48 + (c.toNat - 48) = c.toNat by omega]; simp

theorem Canon.digits {l : List UInt8} (h : Canon l) : Lib.decDigits (nv l) = l := by
  obtain ⟨ne, dig, lead⟩ := h
  generalize hn : l.length = n
  induction n using Nat.strongRecOn generalizing l with
  | _ n ih =>
    rcases List.eq_nil_or_concat l with e | ⟨r, c, e⟩
    · exact absurd e ne
    · rw [List.concat_eq_append] at e
      subst e
      have hc := dig c (by simp)
      have hc2 := isDig_iff.1 hc
      rw [nv_snoc]
      by_cases hr : r = []
      · subst hr
        simp only [nv_nil, List.nil_append]
        rw [Lib.decDigits_one (by omega), show 10 * 0 + (c.toNat - 48) = c.toNat - 48 by omega, dig_of_nat hc]
      · have hlead : ∃ d t, r = d :: t ∧ d ≠ 48 := by
          rcases lead with h1 | ⟨d, t, h1, h2⟩
          · simp at h1; exact absurd h1 hr
          · cases r with
            | nil => exact absurd rfl hr
            | cons x y => simp at h1; exact ⟨x, y, rfl, h1.1 ▸ h2⟩
        have ihr := ih r.length (by simp at hn; omega) hr (fun x hx => dig x (by simp [hx])) (.inr hlead) rfl
        obtain ⟨d, t, e1, e2⟩ := hlead
        have hp : 1 ≤ nv r := by rw [e1]; exact nv_pos (dig d (by simp [e1])) e2
        rw [Lib.decDigits, dif_neg (by omega), show (10 * nv r + (c.toNat - 48)) / 10 = nv r by omega, ihr,
          show (10 * nv r + (c.toNat - 48)) % 10 = c.toNat - 48 by omega, dig_of_nat hc]

theorem dig_ofNat (d : Nat) (h : d < 10) : isDig (UInt8.ofNat (48 + d)) = true ∧ (UInt8.ofNat (48 + d)).toNat - 48 = d := by
  have e : (UInt8.ofNat (48 + d)).toNat = 48 + d := by rw [UInt8.toNat_ofNat']; omega
  exact ⟨isDig_iff.2 (by omega), by omega⟩

theorem nv_digits (u : Nat) : nv (Lib.decDigits u) = u := by
  induction u using Nat.strongRecOn with
  | _ u ih =>
    by_cases h : u < 10
    · rw [Lib.decDigits_one h]
      show 10 * 0 + ((UInt8.ofNat (48 + u)).toNat - 48) = u
      rw [(dig_ofNat u h).2]; omega
    · rw [Lib.decDigits, dif_neg h, nv_snoc, ih (u / 10) (by omega), (dig_ofNat (u % 10) (by omega)).2]; omega

theorem digits_canon (u : Nat) : Canon (Lib.decDigits u) := by
  induction u using Nat.strongRecOn with
  | _ u ih =>
    by_cases h : u < 10
    · rw [Lib.decDigits_one h]
      exact ⟨by simp, fun c hc => by obtain rfl := List.mem_singleton.1 hc; exact (dig_ofNat u h).1, .inl rfl⟩
    · have ih' := ih (u / 10) (by omega)
      rw [Lib.decDigits, dif_neg h]
      refine ⟨by simp, fun c hc => ?_, .inr ?_⟩
      · rcases List.mem_append.1 hc with hc | hc
        · exact ih'.dig c hc
        · obtain rfl := List.mem_singleton.1 hc; exact (dig_ofNat (u % 10) (by omega)).1
      · rcases ih'.lead with h1 | ⟨c, r, h1, h2⟩
        · have hlt : u / 10 < 10 := by
            rw [Lib.decDigits_length] at h1
            by_cases hh : u / 10 < 10
            · exact hh
            · rw [Lib.nDigits_big hh] at h1
              have := Lib.nDigits_pos (u / 10 / 10)
              omega
          refine ⟨UInt8.ofNat (48 + u / 10), [UInt8.ofNat (48 + u % 10)], by rw [Lib.decDigits_one hlt]; rfl, fun e => ?_⟩
          have e2 := congrArg UInt8.toNat e
          rw [UInt8.toNat_ofNat'] at e2
          have h48 : (48 : UInt8).toNat = 48 := rfl
          rw [h48] at e2
          omega
        · exact ⟨c, r ++ [UInt8.ofNat (48 + u % 10)], by rw [h1]; rfl, h2⟩

/-- WHAT A TEXT STANDS FOR: the number up to 1000000000 whose decimal text it is. -/
def PU (l : List UInt8) (n : Nat) : Prop := Canon l ∧ nv l = n ∧ n ≤ 1000000000
theorem PU.text {l : List UInt8} {n : Nat} (h : PU l n) : Lib.decDigits n = l := by rw [← h.2.1]; exact h.1.digits
theorem PU.of_text {l : List UInt8} {n : Nat} (h : Lib.decDigits n = l) (hn : n ≤ 1000000000) : PU l n := by
  subst h; exact ⟨digits_canon n, nv_digits n, hn⟩
theorem PU.unique {l : List UInt8} {n m : Nat} (h : PU l n) (h' : PU l m) : n = m := h.2.1.symm.trans h'.2.1
theorem PU.length {l : List UInt8} {n : Nat} (h : PU l n) : l.length ≤ 10 := by
  rw [← h.text, Lib.decDigits_length]
  by_cases hh : Lib.nDigits n ≤ 10
  · exact hh
  · exfalso
    have h1 : 10 ^ (Lib.nDigits n - 1) ≤ n := by
      have key : ∀ u : Nat, 1 ≤ u → 10 ^ (Lib.nDigits u - 1) ≤ u := by
        intro u
        induction u using Nat.strongRecOn with
        | _ u ih =>
          intro hu
          by_cases h10 : u < 10
          · rw [Lib.nDigits_small h10]; simpa using hu
          · rw [Lib.nDigits_big h10]
            have := ih (u / 10) (by omega) (by omega)
            have hp := Lib.nDigits_pos (u / 10)
            rw [show Lib.nDigits (u / 10) + 1 - 1 = (Lib.nDigits (u / 10) - 1) + 1 by omega, Nat.pow_succ]
            omega
      by_cases hn0 : n = 0
      · subst hn0; rw [Lib.nDigits_small (by decide)] at hh; omega
      · exact key n (by omega)
    have h2 : 10 ^ 10 ≤ 10 ^ (Lib.nDigits n - 1) := Nat.pow_le_pow_right (by decide) (by omega)
    have := h.2.2
    omega

/-- The scan that reads all. -/
theorem ScanEnd.whole {l : List UInt8} {n k : Nat} (h : ScanEnd l n k) (hk : k = l.length) : n = nv l ∧ ∀ c ∈ l, isDig c = true := by
  obtain ⟨⟨_, hv, hd, _⟩, _⟩ := h
  subst hk
  rw [List.take_length] at hv hd
  exact ⟨hv, hd⟩
theorem nv_mono : ∀ (r : List UInt8) (a : Nat), a ≤ r.foldl (fun a c => 10 * a + (c.toNat - 48)) a
  | [], _ => Nat.le_refl _
  | _ :: r, _ => Nat.le_trans (by dsimp only; omega) (nv_mono r _)
theorem nv_take_le (l : List UInt8) (k : Nat) : nv (l.take k) ≤ nv l := by
  conv => rhs; rw [← List.take_append_drop k l]
  unfold nv
  rw [List.foldl_append]
  exact nv_mono _ _
/-- A scan that stops early, or at a number too great, reads no text of a number. -/
theorem ScanEnd.none {l : List UInt8} {n k m : Nat} (h : ScanEnd l n k) (hk : k < l.length ∨ 1000000000 < n) : ¬ PU l m := by
  intro hp
  obtain ⟨⟨_, hv, _, _⟩, he⟩ := h
  have hbig : 1000000000 < n → False := fun hb => by
    have := nv_take_le l k
    have h2 := hp.2.1
    have h3 := hp.2.2
    omega
  rcases he with he | he | ⟨hlt, he⟩
  · rcases hk with hk | hk
    · omega
    · exact hbig hk
  · exact hbig he
  · have := hp.1.dig l[k] (List.getElem_mem hlt)
    rw [he] at this
    cases this
theorem ScanEnd.at {l : List UInt8} {n k : Nat} (h : Scan l n k) (hk : k < l.length) (hc : l[k].toNat < 48 ∨ 57 < l[k].toNat ∨ 1000000000 < n) : ScanEnd l n k := by
  refine ⟨h, .inr ?_⟩
  rcases hc with hc | hc | hc
  · refine .inr ⟨hk, ?_⟩
    cases hd : isDig l[k]
    · rfl
    · have := isDig_iff.1 hd; omega
  · refine .inr ⟨hk, ?_⟩
    cases hd : isDig l[k]
    · rfl
    · have := isDig_iff.1 hd; omega
  · exact .inl hc
theorem ScanEnd.all {l : List UInt8} {n k : Nat} (h : Scan l n k) (hk : ¬ k < l.length) : ScanEnd l n k := ⟨h, .inl (by have := h.le; omega)⟩

def canonB (l : List UInt8) : Bool := !l.isEmpty && l.all isDig && (decide (l.length = 1) || decide (l.head? ≠ some 48))
theorem canonB_iff {l : List UInt8} : canonB l = true ↔ Canon l := by
  unfold canonB
  simp only [Bool.and_eq_true, Bool.or_eq_true, Bool.not_eq_true', decide_eq_true_eq, List.all_eq_true]
  constructor
  · rintro ⟨⟨h1, h2⟩, h3⟩
    refine ⟨by intro e; subst e; simp at h1, h2, ?_⟩
    rcases h3 with h3 | h3
    · exact .inl h3
    · cases l with
      | nil => simp at h1
      | cons c r => exact .inr ⟨c, r, rfl, fun e => h3 (by simp [e])⟩
  · rintro ⟨h1, h2, h3⟩
    refine ⟨⟨by simpa using h1, h2⟩, ?_⟩
    rcases h3 with h3 | ⟨c, r, rfl, h3⟩
    · exact .inl h3
    · exact .inr (by simpa using h3)
/-- What a text is parsed to: is it a number up to 1000000000, and which. -/
def puB (l : List UInt8) : Bool := canonB l && decide (nv l ≤ 1000000000)
def puV (l : List UInt8) : Nat := if puB l = true then nv l else 0
theorem puB_iff {l : List UInt8} : puB l = true ↔ PU l (nv l) := by
  unfold puB PU
  simp [canonB_iff]
theorem PU.some {l : List UInt8} {n : Nat} (h : PU l n) : puB l = true ∧ puV l = n := by
  have e := h.2.1
  subst e
  have hb := puB_iff.2 h
  exact ⟨hb, by unfold puV; rw [if_pos hb]⟩
theorem PU.no {l : List UInt8} (h : ∀ n, ¬ PU l n) : puB l = false ∧ puV l = 0 := by
  have hb : puB l = false := by
    cases hb : puB l
    · rfl
    · exact absurd (puB_iff.1 hb) (h _)
  exact ⟨hb, by unfold puV; rw [if_neg (by simp [hb])]⟩
theorem puV_le (l : List UInt8) : puV l ≤ 1000000000 := by
  unfold puV
  split
  · rename_i h; exact (puB_iff.1 h).2.2
  · omega
/-- A scan that reads all of a text, no number too great, no leading zero. -/
theorem ScanEnd.good {l : List UInt8} {n k : Nat} (h : ScanEnd l n k) (hk : ¬ k < l.length) (h0 : 0 < k) (hn : n ≤ 1000000000) (hl : l.length = 1 ∨ ∃ c r, l = c :: r ∧ c ≠ 48) : PU l n := by
  have hkl : k = l.length := by have := h.1.le; omega
  obtain ⟨e, hd⟩ := h.whole hkl
  exact ⟨⟨by intro e; subst e; simp at hkl; omega, hd, hl⟩, e.symm, hn⟩
theorem PU.nolead {r : List UInt8} {n : Nat} (hr : r ≠ []) : ¬ PU (48 :: r) n := by
  intro h
  rcases h.1.lead with h1 | ⟨c, t, h1, h2⟩
  · simp at h1; exact hr h1
  · simp at h1; exact h2 h1.1.symm
theorem PU.nonempty {n : Nat} : ¬ PU [] n := fun h => h.1.ne rfl
end Go.Proofs.YtobpnoiienpipaaDoor

/-
  What is proved: the walk of the model's FormatFixed; what text a number of thousandths has.
  Conditions: the argument is a number of 64 bits.
-/
namespace Go.Proofs.YtobpnoiienpipaaDoor
set_option linter.unusedVariables false
open Go.RowKit

theorem itoa_nat (a : Nat) : Lib.itoa (a : Int) = Lib.decDigits a := by unfold Lib.itoa; rw [if_neg (by omega)]; rfl
/-- Three digits behind the point. -/
def part3 (a : Nat) : List UInt8 := (Lib.decDigits (1000 + a % 1000)).drop 1
def body (a : Nat) : List UInt8 := Lib.decDigits (a / 1000) ++ 46 :: part3 a
/-- The text of n thousandths. -/
def ffx (n : Int) : List UInt8 := if -1000000000 ≤ n ∧ n ≤ 1000000000 then (if n < 0 then [45] else []) ++ body n.natAbs else []
theorem four_digits (a : Nat) : (Lib.decDigits (1000 + a % 1000)).length = 4 := by
  rw [Lib.decDigits_length, Lib.nDigits_unique 3 _ (by omega) (by omega)]
theorem digits_le7 (a : Nat) (h : a ≤ 1000000000) : (Lib.decDigits (a / 1000)).length ≤ 20 := by
  rw [Lib.decDigits_length]; exact Lib.nDigits_le20 _ (by omega)
theorem ffx_out {n : Int} (h : ¬ (-1000000000 ≤ n ∧ n ≤ 1000000000)) : ffx n = [] := by unfold ffx; rw [if_neg h]
theorem ffx_neg (a : Nat) (h : a ≤ 1000000000) (h0 : a ≠ 0) : ffx (-(a : Int)) = 45 :: body a := by
  unfold ffx; rw [if_pos (by omega), if_pos (by omega), Int.natAbs_neg, Int.natAbs_natCast]; rfl
theorem ffx_pos (a : Nat) (h : a ≤ 1000000000) : ffx (a : Int) = body a := by
  unfold ffx; rw [if_pos (by omega), if_neg (by omega), Int.natAbs_natCast]; rfl
theorem ffx_len (n : Int) : (ffx n).length ≤ 100 := by
  unfold ffx
  split
  · have h4 := four_digits n.natAbs
    have h7 := digits_le7 n.natAbs (by omega)
    unfold body part3
    split <;> simp <;> omega
  · simp
theorem list4 {l : List UInt8} (h : l.length = 4) : ∃ d0 d1 d2 d3, l = [d0, d1, d2, d3] := by
  match l, h with
  | [a, b, c, d], _ => exact ⟨a, b, c, d, rfl⟩
theorem td1000 (a : Nat) : (a : Int).tdiv 1000 = (a : Int) / 1000 := Int.tdiv_eq_ediv_of_nonneg (by omega)
theorem wd1000 (a : Nat) (h : a ≤ 1000000000) : IntKind.i64.wrap ((a : Int) / 1000) = (a : Int) / 1000 := IntWalk.i64_in _ (by omega)

theorem cat4 (s0 : List UInt8) (t : List UInt8) (d0 d1 d2 d3 : UInt8) : ((((⟨s0.toArray⟩ : ByteArray) ++ ⟨t.toArray⟩) ++ ⟨#[46]⟩) ++ (⟨#[d0, d1, d2, d3]⟩ : ByteArray).extract 1 4) = ⟨(s0 ++ (t ++ [46, d1, d2, d3])).toArray⟩ := by
  apply ByteArray.ext
  simp [ByteArray.data_append, ByteArray.data_extract]

set_option maxHeartbeats 1000000 in
theorem specFormatFixed_neg (a : Nat) (w : World) (h : a ≤ 1000000000) (h0 : 0 < a) :
    Calls Tryd.prog 71 #[.int .i64 (-(a : Int))] w fun e w' => e = .returned (.string ⟨(45 :: body a).toArray⟩) ∧ Below w.heap.size w w' := by
  have h4 := four_digits a
  obtain ⟨d0, d1, d2, d3, hd⟩ := list4 h4
  have h7 := digits_le7 a h
  have hi1 := itoa_nat (1000 + a % 1000)
  have hi2 := itoa_nat (a / 1000)
  rw [show ((1000 + a % 1000 : Nat) : Int) = 1000 + (a : Int) % 1000 by omega, hd] at hi1
  rw [show ((a / 1000 : Nat) : Int) = (a : Int) / 1000 by omega] at hi2
  have hb : body a = Lib.decDigits (a / 1000) ++ [46, d1, d2, d3] := by unfold body part3; rw [hd]; rfl
  have HB := Lib.hid hb
  have H1 := Lib.hid hi1
  have H2 := Lib.hid hi2
  have e1 := td1000 a
  have e2 := wd1000 a h
  clear hi1 hi2 h4 hd hb
  generalize Lib.decDigits (a / 1000) = t at H2 h7 HB
  go_enter Tryd.func71, Tryd.ntmps71
  go_wp2_with (first | (go_at_call 68; refine (specFormatInt_any _ _ (by omega) (by omega)).mono ?_; rintro e w1 ⟨rfl, hb1⟩; rw [H1.out]) | go_in)
  go_region_with (go_at_call 68; refine (specFormatInt_any _ _ (by omega) (by omega)).mono ?_; rintro e w2 ⟨rfl, hb2⟩; rw [H2.out])
  all_goals
    go_wp2
    go_ret
    refine ⟨?_, hb1.drew.trans (hb2.mono hb1.size)⟩
    rw [HB.out]
    exact congrArg (fun x => Ending.returned (Value.string x)) (cat4 [45] t d0 d1 d2 d3)

set_option maxHeartbeats 1000000 in
theorem specFormatFixed_pos (a : Nat) (w : World) (h : a ≤ 1000000000) :
    Calls Tryd.prog 71 #[.int .i64 (a : Int)] w fun e w' => e = .returned (.string ⟨(body a).toArray⟩) ∧ Below w.heap.size w w' := by
  have h4 := four_digits a
  obtain ⟨d0, d1, d2, d3, hd⟩ := list4 h4
  have h7 := digits_le7 a h
  have hi1 := itoa_nat (1000 + a % 1000)
  have hi2 := itoa_nat (a / 1000)
  rw [show ((1000 + a % 1000 : Nat) : Int) = 1000 + (a : Int) % 1000 by omega, hd] at hi1
  rw [show ((a / 1000 : Nat) : Int) = (a : Int) / 1000 by omega] at hi2
  have hb : body a = Lib.decDigits (a / 1000) ++ [46, d1, d2, d3] := by unfold body part3; rw [hd]; rfl
  have HB := Lib.hid hb
  have H1 := Lib.hid hi1
  have H2 := Lib.hid hi2
  have e1 := td1000 a
  have e2 := wd1000 a h
  clear hi1 hi2 h4 hd hb
  generalize Lib.decDigits (a / 1000) = t at H2 h7 HB
  have hdd : decide ((a : Int) ≤ 1000000000) = true := by simp; omega
  go_enter Tryd.func71, Tryd.ntmps71
  go_wp2_with (first | (go_at_call 68; refine (specFormatInt_any _ _ (by omega) (by omega)).mono ?_; rintro e w1 ⟨rfl, hb1⟩; rw [H1.out]) | go_in)
  go_region_with (go_at_call 68; refine (specFormatInt_any _ _ (by omega) (by omega)).mono ?_; rintro e w2 ⟨rfl, hb2⟩; rw [H2.out])
  all_goals
    go_wp2
    go_ret
    refine ⟨?_, hb1.drew.trans (hb2.mono hb1.size)⟩
    rw [HB.out]
    exact congrArg (fun x => Ending.returned (Value.string x)) (cat4 [] t d0 d1 d2 d3)

/-- The model's FormatFixed, at every number. -/
theorem specFormatFixed_any (n : Int) (w : World) (h0 : -9223372036854775808 ≤ n) (h1 : n ≤ 9223372036854775807) :
    Calls Tryd.prog 71 #[.int .i64 n] w fun e w' => e = .returned (.string ⟨(ffx n).toArray⟩) ∧ Below w.heap.size w w' := by
  by_cases hin : -1000000000 ≤ n ∧ n ≤ 1000000000
  · rcases (by omega : n < 0 ∨ 0 ≤ n) with hs | hs
    · obtain ⟨a, rfl⟩ : ∃ a : Nat, n = -(a : Int) := ⟨n.natAbs, by omega⟩
      rw [ffx_neg a (by omega) (by omega)]
      exact specFormatFixed_neg a w (by omega) (by omega)
    · obtain ⟨a, rfl⟩ := Int.eq_ofNat_of_zero_le hs
      rw [ffx_pos a (by omega)]
      exact specFormatFixed_pos a w (by omega)
  · rw [ffx_out hin]
    rcases (by omega : n < -1000000000 ∨ 1000000000 < n) with h2 | h2
    · clear hin
      go_enter Tryd.func71, Tryd.ntmps71
      go_wp2
      go_ret
      exact ⟨rfl, Below.refl _ _⟩
    · clear hin
      have hdd : decide (n ≤ 1000000000) = false := by simp; omega
      go_enter Tryd.func71, Tryd.ntmps71
      go_wp2
      go_ret
      exact ⟨rfl, Below.refl _ _⟩
end Go.Proofs.YtobpnoiienpipaaDoor

/-
  What is proved: plain facts on the texts of thousandths: which numbers they stand for.
  Conditions: none.
-/
namespace Go.Proofs.YtobpnoiienpipaaDoor
set_option linter.unusedVariables false

/-- The amount that a text without a sign stands for. -/
def core (t : List UInt8) : Option Nat :=
  if 4 ≤ t.length ∧ t.getD (t.length - 4) 0 = 46 ∧ puB (t.take (t.length - 4)) = true ∧ (t.drop (t.length - 3)).all isDig = true ∧ 1000 * puV (t.take (t.length - 4)) + nv (t.drop (t.length - 3)) ≤ 1000000000
  then some (1000 * puV (t.take (t.length - 4)) + nv (t.drop (t.length - 3))) else none
/-- The number that a text stands for. -/
def fxP (l : List UInt8) : Option Int :=
  if l.head? = some 45 then (core (l.drop 1)).bind fun n => if n = 0 then none else some (-(n : Int)) else (core l).map Int.ofNat

theorem nv_append (l r : List UInt8) : nv (l ++ r) = nv l * 10 ^ r.length + nv r := by
  generalize hn : r.length = n
  induction n generalizing r with
  | zero => have := List.eq_nil_of_length_eq_zero hn; subst this; simp [nv_nil]
  | succ n ih =>
    rcases List.eq_nil_or_concat r with e | ⟨r', c, e⟩
    · subst e; simp at hn
    · rw [List.concat_eq_append] at e
      subst e
      have h1 := ih r' (by simp at hn; omega)
      rw [← List.append_assoc, nv_snoc, nv_snoc, h1, Nat.pow_succ, Nat.mul_add]
      have e2 : 10 * (nv l * 10 ^ n) = nv l * (10 ^ n * 10) := by rw [Nat.mul_comm 10, Nat.mul_assoc]
      omega
theorem part3_val (a : Nat) : ∃ d1 d2 d3, part3 a = [d1, d2, d3] ∧ isDig d1 = true ∧ isDig d2 = true ∧ isDig d3 = true ∧ nv [d1, d2, d3] = a % 1000 ∧ Lib.decDigits (1000 + a % 1000) = 49 :: [d1, d2, d3] := by
  obtain ⟨d0, d1, d2, d3, hd⟩ := list4 (four_digits a)
  have hc := digits_canon (1000 + a % 1000)
  have hv := nv_digits (1000 + a % 1000)
  rw [hd] at hc hv
  have g0 := isDig_iff.1 (hc.dig d0 (by simp))
  have g1 := hc.dig d1 (by simp)
  have g2 := hc.dig d2 (by simp)
  have g3 := hc.dig d3 (by simp)
  have k1 := isDig_iff.1 g1
  have k2 := isDig_iff.1 g2
  have k3 := isDig_iff.1 g3
  simp only [nv, List.foldl_cons, List.foldl_nil] at hv
  have e0 : d0 = 49 := UInt8.toNat_inj.1 (by show d0.toNat = 49; omega)
  subst e0
  have e49 : (49 : UInt8).toNat = 49 := rfl
  refine ⟨d1, d2, d3, by unfold part3; rw [hd]; rfl, g1, g2, g3, ?_, hd⟩
  simp only [nv, List.foldl_cons, List.foldl_nil]
  omega
theorem body_parts (a : Nat) : ∃ d1 d2 d3, body a = Lib.decDigits (a / 1000) ++ [46, d1, d2, d3] ∧ isDig d1 = true ∧ isDig d2 = true ∧ isDig d3 = true ∧ nv [d1, d2, d3] = a % 1000 := by
  obtain ⟨d1, d2, d3, h, g1, g2, g3, hv, _⟩ := part3_val a
  exact ⟨d1, d2, d3, by unfold body; rw [h], g1, g2, g3, hv⟩
theorem take_app {w p : List UInt8} {n : Nat} (h : p.length = n) : (w ++ p).take ((w ++ p).length - n) = w ∧ (w ++ p).drop ((w ++ p).length - n) = p := by
  have e : (w ++ p).length - n = w.length := by rw [List.length_append]; omega
  rw [e]
  exact ⟨by simp, by simp⟩
theorem split4 (w : List UInt8) (x d1 d2 d3 : UInt8) : 4 ≤ (w ++ [x, d1, d2, d3]).length ∧ (w ++ [x, d1, d2, d3]).getD ((w ++ [x, d1, d2, d3]).length - 4) 0 = x ∧ (w ++ [x, d1, d2, d3]).take ((w ++ [x, d1, d2, d3]).length - 4) = w ∧ (w ++ [x, d1, d2, d3]).drop ((w ++ [x, d1, d2, d3]).length - 3) = [d1, d2, d3] := by
  have e : (w ++ [x, d1, d2, d3]).length = w.length + 4 := by simp
  refine ⟨by omega, ?_, (take_app (p := [x, d1, d2, d3]) rfl).1, ?_⟩
  · rw [e, show w.length + 4 - 4 = w.length by omega]
    simp [List.getD]
  · have h2 := (take_app (w := w ++ [x]) (p := [d1, d2, d3]) rfl).2
    rw [List.append_assoc] at h2
    exact h2
theorem core_body (a : Nat) (h : a ≤ 1000000000) : core (body a) = some a := by
  obtain ⟨d1, d2, d3, hb, g1, g2, g3, hv⟩ := body_parts a
  obtain ⟨h1, h2, h3, h4⟩ := split4 (Lib.decDigits (a / 1000)) 46 d1 d2 d3
  obtain ⟨p1, p2⟩ := (PU.of_text (rfl : Lib.decDigits (a / 1000) = _) (by omega)).some
  rw [hb]
  unfold core
  rw [h2, h3, h4, p1, p2, hv, if_pos ⟨h1, rfl, rfl, by simp [g1, g2, g3], by omega⟩]
  congr 1
  omega
theorem list_end4 {t : List UInt8} (h : 4 ≤ t.length) : ∃ w x d1 d2 d3, t = w ++ [x, d1, d2, d3] := by
  have e := List.take_append_drop (t.length - 4) t
  obtain ⟨x, d1, d2, d3, hd⟩ := list4 (l := t.drop (t.length - 4)) (by rw [List.length_drop]; omega)
  exact ⟨t.take (t.length - 4), x, d1, d2, d3, by rw [← hd, e]⟩
theorem body_core {t : List UInt8} {n : Nat} (h : core t = some n) : body n = t ∧ n ≤ 1000000000 := by
  unfold core at h
  split at h
  · rename_i hc
    obtain ⟨c1, c2, c3, c4, c5⟩ := hc
    simp only [Option.some.injEq] at h
    obtain ⟨w, x, d1, d2, d3, rfl⟩ := list_end4 c1
    obtain ⟨_, h2, h3, h4⟩ := split4 w x d1 d2 d3
    rw [h2] at c2
    rw [h3] at c3 c5 h
    rw [h4] at c4 c5 h
    subst c2
    simp only [List.all_cons, List.all_nil, Bool.and_true, Bool.and_eq_true] at c4
    have hp := puB_iff.1 c3
    have hpv := hp.some.2
    have k1 := isDig_iff.1 c4.1
    have k2 := isDig_iff.1 c4.2.1
    have k3 := isDig_iff.1 c4.2.2
    have hm : nv [d1, d2, d3] < 1000 := by simp only [nv, List.foldl_cons, List.foldl_nil]; omega
    have e1 : n / 1000 = puV w := by omega
    have e2 : n % 1000 = nv [d1, d2, d3] := by omega
    refine ⟨?_, by omega⟩
    have hcan : Canon (49 :: [d1, d2, d3]) := ⟨by simp, by simp [c4.1, c4.2.1, c4.2.2]; decide, .inr ⟨49, _, rfl, by decide⟩⟩
    have hd := hcan.digits
    have e3 : nv (49 :: [d1, d2, d3]) = 1000 + nv [d1, d2, d3] := by
      have e49 : (49 : UInt8).toNat = 49 := rfl
      simp only [nv, List.foldl_cons, List.foldl_nil]
      omega
    unfold body part3
    rw [e1, e2, ← e3, hd, hpv, hp.text]
    rfl
  · cases h

theorem body_head (a : Nat) : ∃ c r, body a = c :: r ∧ c ≠ 45 := by
  have hc := digits_canon (a / 1000)
  unfold body
  cases hd : Lib.decDigits (a / 1000) with
  | nil => exact absurd hd hc.ne
  | cons c r =>
    refine ⟨c, r ++ 46 :: part3 a, rfl, fun e => ?_⟩
    have := isDig_iff.1 (hc.dig c (by rw [hd]; simp))
    subst e
    have e45 : (45 : UInt8).toNat = 45 := rfl
    omega
/-- THE TEXT OF A NUMBER IN RANGE STANDS FOR IT .. -/
theorem fxP_ffx {n : Int} (h0 : -1000000000 ≤ n) (h1 : n ≤ 1000000000) : fxP (ffx n) = some n := by
  rcases (by omega : n < 0 ∨ 0 ≤ n) with hs | hs
  · obtain ⟨a, rfl⟩ : ∃ a : Nat, n = -(a : Int) := ⟨n.natAbs, by omega⟩
    rw [ffx_neg a (by omega) (by omega)]
    unfold fxP
    rw [if_pos (show (45 :: body a).head? = some 45 from rfl)]
    show (core (body a)).bind _ = _
    rw [core_body a (by omega)]
    simp only [Option.bind_some]
    rw [if_neg (by omega)]
  · obtain ⟨a, rfl⟩ := Int.eq_ofNat_of_zero_le hs
    rw [ffx_pos a (by omega)]
    obtain ⟨c, r, hb, hc⟩ := body_head a
    unfold fxP
    rw [if_neg (by rw [hb]; simpa using hc), core_body a (by omega)]
    rfl
/-- .. AND NO OTHER TEXT STANDS FOR A NUMBER. -/
theorem ffx_fxP {l : List UInt8} {n : Int} (h : fxP l = some n) : ffx n = l ∧ -1000000000 ≤ n ∧ n ≤ 1000000000 := by
  unfold fxP at h
  split at h
  · rename_i hh
    cases l with
    | nil => cases hh
    | cons c t =>
      simp only [List.head?_cons, Option.some.injEq] at hh
      subst hh
      simp only [List.drop_succ_cons, List.drop_zero] at h
      cases hc : core t with
      | none => rw [hc] at h; cases h
      | some a =>
        rw [hc] at h
        simp only [Option.bind_some] at h
        split at h
        · cases h
        · cases h
          obtain ⟨h1, h2⟩ := body_core hc
          rename_i hne
          exact ⟨by rw [ffx_neg a h2 hne, h1], by omega, by omega⟩
  · cases hc : core l with
    | none => rw [hc] at h; cases h
    | some a =>
      rw [hc] at h
      simp only [Option.map_some, Option.some.injEq] at h
      subst h
      obtain ⟨h1, h2⟩ := body_core hc
      exact ⟨(ffx_pos a h2).trans h1, by show (-1000000000 : Int) ≤ (a : Int); omega, by show (a : Int) ≤ 1000000000; omega⟩
end Go.Proofs.YtobpnoiienpipaaDoor
