/-
  What is proved: the walk of the model's ParseFixed, and that of the law FnExactParseFixed.
  Conditions: the argument is a string of at most 1048576 bytes (the law: none).
-/
import Derived.Test.YtobpnoiienpipaaDoorParseFixed
import Derived.Test.YtobpnoiienpipaaDoorSpecUint
namespace Go.Proofs.YtobpnoiienpipaaDoor
set_option linter.unusedVariables false
open Go.RowKit

/-- A list without the one at place m. -/
def less (t : List UInt8) (m : Nat) : List UInt8 := t.take m ++ t.drop (m + 1)
theorem less_len (t : List UInt8) (m : Nat) (h : m < t.length) : (less t m).length + 1 = t.length := by unfold less; rw [List.length_append, List.length_take, List.length_drop]; omega
theorem less_lo (t : List UInt8) (m k : Nat) (h : k < m) (hm : m < t.length) (hl : k < (less t m).length) : (less t m)[k] = t[k] := by
  have : (t.take m ++ t.drop (m + 1))[k]? = t[k]? := by rw [List.getElem?_append_left (by rw [List.length_take]; omega), List.getElem?_take_of_lt h]
  exact Option.some.inj (by rw [← List.getElem?_eq_getElem, ← List.getElem?_eq_getElem]; exact this)
theorem less_hi (t : List UInt8) (m k : Nat) (h : m ≤ k) (hm : k + 1 < t.length) (hl : k < (less t m).length) : (less t m)[k] = t[k + 1] := by
  have : (t.take m ++ t.drop (m + 1))[k]? = t[k + 1]? := by
    rw [List.getElem?_append_right (by rw [List.length_take]; omega), List.getElem?_drop]
    congr 1
    rw [List.length_take]; omega
  exact Option.some.inj (by rw [← List.getElem?_eq_getElem, ← List.getElem?_eq_getElem]; exact this)
/-- What a text with a value looks like. -/
structure Shape (t : List UInt8) (a : Nat) : Prop where
  lo : 5 ≤ t.length
  hi : t.length ≤ 11
  dot : t.getD (t.length - 4) 0 = 46
  dig : ∀ c ∈ less t (t.length - 4), isDig c = true
  val : nv (less t (t.length - 4)) = a
theorem Shape.of_body (a : Nat) (h : a ≤ 1000000000) : Shape (body a) a := by
  obtain ⟨d1, d2, d3, hb, g1, g2, g3, hv⟩ := body_parts a
  have hc := digits_canon (a / 1000)
  have hl := (PU.of_text (rfl : Lib.decDigits (a / 1000) = _) (by omega)).length
  have hl7 : (Lib.decDigits (a / 1000)).length ≤ 7 := by
    rw [Lib.decDigits_length]
    by_cases h7 : Lib.nDigits (a / 1000) ≤ 7
    · exact h7
    · exfalso
      by_cases h0 : a / 1000 < 1000000
      · have : Lib.nDigits (a / 1000) ≤ 6 := by
          rw [← Lib.decDigits_length]
          by_cases h6 : (Lib.decDigits (a / 1000)).length ≤ 6
          · exact h6
          · exfalso
            have e1 := nv_digits (a / 1000)
            have e2 := hc.lead
            rcases e2 with e2 | ⟨c, r, e2, e3⟩
            · omega
            · rw [e2] at e1
              have := nv_ge (hc.dig c (by rw [e2]; simp)) e3 r
              have e4 : (Lib.decDigits (a / 1000)).length = r.length + 1 := by rw [e2]; rfl
              have : 10 ^ 6 ≤ 10 ^ r.length := Nat.pow_le_pow_right (by decide) (by omega)
              omega
        omega
      · have : a / 1000 = 1000000 := by omega
        rw [this] at h7
        exact h7 (by rw [← Lib.decDigits_length]; decide +kernel)
  have hne : (Lib.decDigits (a / 1000)).length ≠ 0 := fun e => hc.ne (List.eq_nil_of_length_eq_zero e)
  obtain ⟨h1, h2, h3, h4⟩ := split4 (Lib.decDigits (a / 1000)) 46 d1 d2 d3
  have hnd := nv_digits (a / 1000)
  have hcd := hc.dig
  rw [hb]
  generalize Lib.decDigits (a / 1000) = w at *
  have hlen : (w ++ [46, d1, d2, d3]).length = w.length + 4 := by simp
  have hle : less (w ++ [46, d1, d2, d3]) ((w ++ [46, d1, d2, d3]).length - 4) = w ++ [d1, d2, d3] := by
    unfold less
    rw [h3, show (w ++ [46, d1, d2, d3]).length - 4 + 1 = (w ++ [46, d1, d2, d3]).length - 3 by omega, h4]
  refine ⟨by omega, by omega, h2, ?_, ?_⟩
  · rw [hle]
    intro c hcm
    rcases List.mem_append.1 hcm with hm | hm
    · exact hcd c hm
    · simp only [List.mem_cons, List.not_mem_nil, or_false] at hm
      rcases hm with rfl | rfl | rfl <;> assumption
  · rw [hle, nv_append, hv, hnd]
    show a / 1000 * 10 ^ 3 + a % 1000 = a
    omega
theorem fx_shape {s : ByteArray} {x : Int} (h : fxP s.data.toList = some x) : ∃ a : Nat, Shape (amt s).data.toList a ∧ x = (if isNeg s then -(a : Int) else (a : Int)) := by
  rw [fxP_amt] at h
  cases hc : core (amt s).data.toList with
  | none => rw [hc] at h; split at h <;> cases h
  | some a =>
    obtain ⟨h1, h2⟩ := body_core hc
    refine ⟨a, by rw [← h1]; exact Shape.of_body a h2, ?_⟩
    rw [hc] at h
    split at h
    · rename_i hn
      rw [if_pos hn]
      simp only [Option.bind_some] at h
      split at h
      · cases h
      · cases h; rfl
    · rename_i hn
      rw [if_neg hn]
      simp only [Option.map_some, Option.some.injEq] at h
      exact h.symm
/-- The digits read so far, the point left out. -/
def RdF (t : List UInt8) (m : Nat) (n i : Nat) : Prop := ∃ j, Read (less t m) n j ∧ (i = j ∧ j ≤ m ∨ i = j + 1 ∧ m ≤ j)
theorem Read.lt11 {l : List UInt8} {n k : Nat} (h : Read l n k) (hl : l.length ≤ 11) : n ≤ 99999999999 := by
  have h1 := nv_lt _ h.dig
  rw [← h.val] at h1
  have h2 : (l.take k).length ≤ 11 := by rw [List.length_take]; omega
  have h3 : 10 ^ (l.take k).length ≤ 10 ^ 11 := Nat.pow_le_pow_right (by decide) h2
  omega
theorem RdF.start (t : List UInt8) (m : Nat) : RdF t m 0 0 := ⟨0, Read.start _, .inl ⟨rfl, Nat.zero_le _⟩⟩
theorem RdF.skip {t : List UInt8} {m n : Nat} (h : RdF t m n m) : RdF t m n (m + 1) := by
  obtain ⟨j, hr, hj⟩ := h
  exact ⟨j, hr, by omega⟩
theorem RdF.at {t : List UInt8} {m n i : Nat} (h : RdF t m n i) (hi : i < t.length) (hm : m < t.length) (hne : i ≠ m) : ∃ j, ∃ hj : j < (less t m).length, Read (less t m) n j ∧ (less t m)[j] = t[i] ∧ (i = j ∧ j < m ∨ i = j + 1 ∧ m ≤ j) := by
  have hl := less_len t m hm
  obtain ⟨j, hr, hj⟩ := h
  rcases hj with ⟨rfl, hj⟩ | ⟨rfl, hj⟩
  · exact ⟨i, by omega, hr, less_lo t m i (by omega) hm _, .inl ⟨rfl, by omega⟩⟩
  · exact ⟨j, by omega, hr, less_hi t m j hj hi _, .inr ⟨rfl, hj⟩⟩
theorem RdF.step {t : List UInt8} {m n i : Nat} (h : RdF t m n i) (hi : i < t.length) (hm : m < t.length) (hne : i ≠ m) (hd : isDig t[i] = true) : RdF t m (10 * n + (t[i].toNat - 48)) (i + 1) := by
  obtain ⟨j, hj, hr, he, hc⟩ := h.at hi hm hne
  have := hr.step hj (by rw [he]; exact hd)
  rw [he] at this
  exact ⟨j + 1, this, by omega⟩
theorem RdF.bad {t : List UInt8} {m n i : Nat} (h : RdF t m n i) (hi : i < t.length) (hm : m < t.length) (hne : i ≠ m) (hd : ¬ (48 ≤ t[i].toNat ∧ t[i].toNat ≤ 57)) : ∃ c ∈ less t m, isDig c = false := by
  obtain ⟨j, hj, hr, he, hc⟩ := h.at hi hm hne
  refine ⟨t[i], by rw [← he]; exact List.getElem_mem hj, ?_⟩
  cases hb : isDig t[i]
  · rfl
  · exact absurd (isDig_iff.1 hb) hd
theorem RdF.lt {t : List UInt8} {m n i : Nat} (h : RdF t m n i) (hm : m < t.length) (hl : t.length ≤ 12) : n ≤ 99999999999 := by
  obtain ⟨j, hr, _⟩ := h
  exact hr.lt11 (by have := less_len t m hm; omega)
theorem RdF.all {t : List UInt8} {m n : Nat} (h : RdF t m n t.length) (hm : m < t.length) : n = nv (less t m) ∧ ∀ c ∈ less t m, isDig c = true := by
  have hl := less_len t m hm
  obtain ⟨j, hr, hj⟩ := h
  have h1 := hr.val
  have h2 := hr.dig
  rw [List.take_of_length_le (by omega)] at h1 h2
  exact ⟨h1, h2⟩
theorem ffx_ne {n : Int} (h : ffx n ≠ []) : -1000000000 ≤ n ∧ n ≤ 1000000000 := by
  by_cases hin : -1000000000 ≤ n ∧ n ≤ 1000000000
  · exact hin
  · exact absurd (ffx_out hin) h
theorem list_pos {s : ByteArray} (h : 1 ≤ s.size) : 0 < s.data.toList.length := by
  have : s.data.toList.length = s.size := by simp
  omega
theorem ne_list {s : ByteArray} (h : 1 ≤ s.size) : s.data.toList ≠ [] := fun e => by
  have : s.data.toList.length = s.size := by simp
  rw [e] at this
  simp at this
  omega
/-- The comparison at the end tells. -/
theorem fx_yes {s : ByteArray} (n : Int) (h : ffx n = s.data.toList) (hs : s.data.toList ≠ []) : fxP s.data.toList = some n := by
  obtain ⟨h1, h2⟩ := ffx_ne (n := n) (by rw [h]; exact hs)
  rw [← h, fxP_ffx h1 h2]
theorem fx_no {s : ByteArray} (n : Nat) (m : Nat) (hm : (amt s).data.toList.length = m + 4) (hv : n = nv (less (amt s).data.toList m)) (h : ¬ ffx (if isNeg s then -(n : Int) else (n : Int)) = s.data.toList) : fxP s.data.toList = none := by
  cases hx : fxP s.data.toList with
  | none => rfl
  | some x =>
    exfalso
    obtain ⟨a, hsh, e⟩ := fx_shape hx
    have := hsh.val
    rw [hm, Nat.add_sub_cancel, ← hv] at this
    rw [this, ← e] at h
    exact h (ffx_fxP hx).1
theorem fx_bad {s : ByteArray} (h : ∀ a, ¬ Shape (amt s).data.toList a) : fxP s.data.toList = none := by
  cases hx : fxP s.data.toList with
  | none => rfl
  | some x => obtain ⟨a, hsh, _⟩ := fx_shape hx; exact absurd hsh (h a)
theorem neg_facts (s : ByteArray) (h : isNeg s = true) : ∃ h1 : 1 ≤ s.size, s[0].toNat = 45 ∧ amt s = s.extract 1 s.size := by
  unfold isNeg at h
  have h := of_decide_eq_true h
  cases hl : s.data.toList with
  | nil => rw [hl] at h; cases h
  | cons c r =>
    rw [hl] at h
    have hsz : s.data.toList.length = s.size := by simp
    have h1 : 1 ≤ s.size := by rw [hl] at hsz; simp at hsz; omega
    refine ⟨h1, ?_, by unfold amt; rw [hl, if_pos h]⟩
    have : s[0] = s.data.toList[0]'(list_pos h1) := rfl
    rw [this]
    simp only [hl, List.getElem_cons_zero]
    simp only [List.head?_cons, Option.some.injEq] at h
    rw [h]; rfl
theorem pos_facts (s : ByteArray) (h : isNeg s = false) : amt s = s ∧ ∀ h1 : 1 ≤ s.size, ¬ s[0].toNat = 45 := by
  unfold isNeg at h
  have h := of_decide_eq_false h
  refine ⟨by unfold amt; rw [if_neg h], fun h1 e => h ?_⟩
  cases hl : s.data.toList with
  | nil => have hsz : s.data.toList.length = s.size := by simp
           rw [hl] at hsz; simp at hsz; omega
  | cons c r =>
    have e0 : s[0] = s.data.toList[0]'(list_pos h1) := rfl
    rw [e0] at e
    simp only [hl, List.getElem_cons_zero] at e
    rw [List.head?_cons, show c = 45 from UInt8.toNat_inj.1 (by simpa using e)]

set_option maxHeartbeats 1000000 in
theorem specParseFixed_neg (s : ByteArray) (w : World) (hs : s.size ≤ 1048576) (hneg : isNeg s = true) :
    Calls Tryd.prog 93 #[.string s] w fun e w' => FixPost s.data.toList w e w' := by
  obtain ⟨h1, h45, hamt⟩ := neg_facts s hneg
  have h45b : ((s[0].toNat : Int) == 45) = true := by simp [h45]
  clear h45
  have hAsz : (amt s).data.toList.length = (amt s).size := by simp
  have hbad := fx_bad (s := s)
  have hno := fx_no (s := s)
  have hyes := fx_yes (s := s)
  rw [hneg] at hno
  clear hneg
  rw [hamt] at hAsz hbad hno
  clear hamt
  simp only [if_true] at hno
  have hAs : (s.extract 1 s.size).size + 1 = s.size := by rw [ByteArray.size_extract]; omega
  generalize hE : s.extract 1 s.size = A at *
  have HB := Lib.hid hbad
  have HN := Lib.hid hno
  have HY := Lib.hid hyes
  have HS := Lib.hid hAsz
  clear hbad hno hyes hAsz
  by_cases h5 : A.size < 5
  · have H := HB.out (fun a h => by have := h.lo; rw [HS.out] at this; omega)
    · go_enter Tryd.func93, Tryd.ntmps93
      go_wp2
      go_ret2
      exact FixPost.no H (Below.refl _ _)
  · by_cases h12 : 12 < A.size
    · have H := HB.out (fun a h => by have := h.hi; rw [HS.out] at this; omega)
      go_enter Tryd.func93, Tryd.ntmps93
      go_wp2
      go_ret2
      exact FixPost.no H (Below.refl _ _)
    · obtain ⟨m, hm⟩ : ∃ m, A.size = m + 4 := ⟨A.size - 4, by omega⟩
      have hml : m < A.size := by omega
      have hgd : A.data.toList.getD m 0 = A[m] := by rw [byte_at A m hml, List.getD, List.getElem?_eq_getElem (by simpa using hml)]; rfl
      by_cases h46 : A[m].toNat = 46
      · have h46b : ((A[m].toNat : Int) != 46) = false := by simp [h46]
        clear hgd h46
        go_enter Tryd.func93, Tryd.ntmps93
        go_wp2
        go_loop [5, 6] (fun n i => ∃ x k : Nat, RdF A.data.toList m x k ∧ x ≤ 99999999999 ∧ k ≤ A.size ∧ n = .int .i64 x ∧ i = .int .i64 k) (fun _ i => A.size - (intOf i).toNat)
        case atStart => exact ⟨0, 0, RdF.start _ _, by omega, by omega, rfl, rfl⟩
        case round =>
          obtain ⟨x, k, hrd, hx, hk, rfl, rfl⟩ := hrel
          have hmL : m < A.data.toList.length := by rw [HS.out]; exact hml
          by_cases hlt : k < A.size
          · by_cases hkm : k = m
            · subst hkm
              have hst := hrd.skip
              clear hrd hmL
              go_wp2
              go_round
              case rel => exact ⟨_, k + 1, hst, hx, by omega, rfl, by go_num⟩
              case measure => simp [intOf]; omega
            · have hl : A[k].toNat ≤ 255 := by have := A[k].toNat_lt; omega
              have hkb : ((k : Int) == (m : Int)) = false := by simp; omega
              by_cases hd : 48 ≤ A[k].toNat ∧ A[k].toNat ≤ 57
              · have hkL : k < A.data.toList.length := by rw [HS.out]; exact hlt
                have hst := hrd.step hkL hmL hkm (by rw [← byte_at A k hlt]; exact isDig_iff.2 hd)
                have hst' := hst.lt hmL (by rw [HS.out]; omega)
                rw [← byte_at A k hlt] at hst hst'
                obtain ⟨hd1, hd2⟩ := hd
                clear hrd hkL hmL
                go_wp2
                go_round
                case rel => exact ⟨_, k + 1, hst, hst', by omega, by congr 1; omega, by go_num⟩
                case measure => simp [intOf]; omega
              · have hkL : k < A.data.toList.length := by rw [HS.out]; exact hlt
                obtain ⟨c, hc1, hc2⟩ := hrd.bad hkL hmL hkm (by rw [← byte_at A k hlt]; exact hd)
                have H := HB.out (fun a h => by
                  have h1 := h.dig
                  rw [HS.out, hm, Nat.add_sub_cancel] at h1
                  have h2 := h1 c hc1
                  rw [hc2] at h2; cases h2)
                clear hrd hkL hmL hc1 hc2
                go_wp2
                all_goals first | (go_ret2; exact FixPost.no H (Below.refl _ _)) | (exfalso; omega)
          · have hkk : k = A.data.toList.length := by rw [HS.out]; omega
            rw [hkk] at hrd
            obtain ⟨hval, _⟩ := hrd.all hmL
            have hlm : A.data.toList.length = m + 4 := by rw [HS.out]; exact hm
            have HNN := HN.out _ _ hlm hval
            have HL := Lib.hid hlm
            clear hrd hkk hval hlm hmL
            by_cases ht : ffx (-(x : Int)) = s.data.toList
            · have H := HY.out _ ht (ne_list (by omega))
              have hb := ba_eq ht
              clear ht HNN
              go_wp2_with fail
              refine (specFormatFixed_any (-(x : Int)) _ (by omega) (by omega)).mono ?_
              rintro e w' ⟨rfl, hbel⟩
              go_wp2
              go_ret2
              exact FixPost.yes H hbel
            · have H := HNN ht
              have hb := ba_ne ht
              clear ht HNN
              go_wp2_with fail
              refine (specFormatFixed_any (-(x : Int)) _ (by omega) (by omega)).mono ?_
              rintro e w' ⟨rfl, hbel⟩
              go_wp2
              go_ret2
              exact FixPost.no H hbel
      · have h46b : ((A[m].toNat : Int) != 46) = true := by simp; omega
        have H := HB.out (fun a h => by
          have h1 := h.dot
          rw [HS.out, hm, Nat.add_sub_cancel, hgd] at h1
          exact h46 (by rw [h1]; rfl))
        clear hgd h46
        go_enter Tryd.func93, Tryd.ntmps93
        go_wp2
        go_ret2
        exact FixPost.no H (Below.refl _ _)

set_option maxHeartbeats 1000000 in
theorem specParseFixed_pos (s : ByteArray) (w : World) (hs : s.size ≤ 1048576) (hneg : isNeg s = false) :
    Calls Tryd.prog 93 #[.string s] w fun e w' => FixPost s.data.toList w e w' := by
  obtain ⟨hamt, h45⟩ := pos_facts s hneg
  have hAsz : (amt s).data.toList.length = (amt s).size := by simp
  have hbad := fx_bad (s := s)
  have hno := fx_no (s := s)
  have hyes := fx_yes (s := s)
  rw [hneg] at hno
  clear hneg
  rw [hamt] at hAsz hbad hno
  clear hamt
  simp only [Bool.false_eq_true, if_false] at hno
  have HB := Lib.hid hbad
  have HN := Lib.hid hno
  have HY := Lib.hid hyes
  have HS := Lib.hid hAsz
  clear hbad hno hyes hAsz
  by_cases h5 : s.size < 5
  · have H := HB.out (fun a h => by have := h.lo; rw [HS.out] at this; omega)
    by_cases h1 : 1 ≤ s.size
    · have h45b : ((s[0].toNat : Int) == 45) = false := by have := h45 h1; simp; omega
      clear h45
      go_enter Tryd.func93, Tryd.ntmps93
      go_wp2
      go_ret2
      exact FixPost.no H (Below.refl _ _)
    · go_enter Tryd.func93, Tryd.ntmps93
      go_wp2
      go_ret2
      exact FixPost.no H (Below.refl _ _)
  · by_cases h12 : 12 < s.size
    · have H := HB.out (fun a h => by have := h.hi; rw [HS.out] at this; omega)
      have h1 : 1 ≤ s.size := by omega
      have h45b : ((s[0].toNat : Int) == 45) = false := by have := h45 h1; simp; omega
      clear h45
      go_enter Tryd.func93, Tryd.ntmps93
      go_wp2
      go_ret2
      exact FixPost.no H (Below.refl _ _)
    · obtain ⟨m, hm⟩ : ∃ m, s.size = m + 4 := ⟨s.size - 4, by omega⟩
      have hml : m < s.size := by omega
      have hgd : s.data.toList.getD m 0 = s[m] := by rw [byte_at s m hml, List.getD, List.getElem?_eq_getElem (by simpa using hml)]; rfl
      by_cases h46 : s[m].toNat = 46
      · have h46b : ((s[m].toNat : Int) != 46) = false := by simp [h46]
        clear hgd h46
        have h1 : 1 ≤ s.size := by omega
        have h45b : ((s[0].toNat : Int) == 45) = false := by have := h45 h1; simp; omega
        clear h45
        go_enter Tryd.func93, Tryd.ntmps93
        go_wp2
        go_loop [5, 6] (fun n i => ∃ x k : Nat, RdF s.data.toList m x k ∧ x ≤ 99999999999 ∧ k ≤ s.size ∧ n = .int .i64 x ∧ i = .int .i64 k) (fun _ i => s.size - (intOf i).toNat)
        case atStart => exact ⟨0, 0, RdF.start _ _, by omega, by omega, rfl, rfl⟩
        case round =>
          obtain ⟨x, k, hrd, hx, hk, rfl, rfl⟩ := hrel
          have hmL : m < s.data.toList.length := by rw [HS.out]; exact hml
          by_cases hlt : k < s.size
          · by_cases hkm : k = m
            · subst hkm
              have hst := hrd.skip
              clear hrd hmL
              go_wp2
              go_round
              case rel => exact ⟨_, k + 1, hst, hx, by omega, rfl, by go_num⟩
              case measure => simp [intOf]; omega
            · have hl : s[k].toNat ≤ 255 := by have := s[k].toNat_lt; omega
              have hkb : ((k : Int) == (m : Int)) = false := by simp; omega
              by_cases hd : 48 ≤ s[k].toNat ∧ s[k].toNat ≤ 57
              · have hkL : k < s.data.toList.length := by rw [HS.out]; exact hlt
                have hst := hrd.step hkL hmL hkm (by rw [← byte_at s k hlt]; exact isDig_iff.2 hd)
                have hst' := hst.lt hmL (by rw [HS.out]; omega)
                rw [← byte_at s k hlt] at hst hst'
                obtain ⟨hd1, hd2⟩ := hd
                clear hrd hkL hmL
                go_wp2
                go_round
                case rel => exact ⟨_, k + 1, hst, hst', by omega, by congr 1; omega, by go_num⟩
                case measure => simp [intOf]; omega
              · have hkL : k < s.data.toList.length := by rw [HS.out]; exact hlt
                obtain ⟨c, hc1, hc2⟩ := hrd.bad hkL hmL hkm (by rw [← byte_at s k hlt]; exact hd)
                have H := HB.out (fun a h => by
                  have h1 := h.dig
                  rw [HS.out, hm, Nat.add_sub_cancel] at h1
                  have h2 := h1 c hc1
                  rw [hc2] at h2; cases h2)
                clear hrd hkL hmL hc1 hc2
                go_wp2
                all_goals first | (go_ret2; exact FixPost.no H (Below.refl _ _)) | (exfalso; omega)
          · have hkk : k = s.data.toList.length := by rw [HS.out]; omega
            rw [hkk] at hrd
            obtain ⟨hval, _⟩ := hrd.all hmL
            have hlm : s.data.toList.length = m + 4 := by rw [HS.out]; exact hm
            have HNN := HN.out _ _ hlm hval
            have HL := Lib.hid hlm
            clear hrd hkk hval hlm hmL
            by_cases ht : ffx (x : Int) = s.data.toList
            · have H := HY.out _ ht (ne_list (by omega))
              have hb := ba_eq ht
              clear ht HNN
              go_wp2_with fail
              refine (specFormatFixed_any (x : Int) _ (by omega) (by omega)).mono ?_
              rintro e w' ⟨rfl, hbel⟩
              go_wp2
              go_ret2
              exact FixPost.yes H hbel
            · have H := HNN ht
              have hb := ba_ne ht
              clear ht HNN
              go_wp2_with fail
              refine (specFormatFixed_any (x : Int) _ (by omega) (by omega)).mono ?_
              rintro e w' ⟨rfl, hbel⟩
              go_wp2
              go_ret2
              exact FixPost.no H hbel
      · have h46b : ((s[m].toNat : Int) != 46) = true := by simp; omega
        have H := HB.out (fun a h => by
          have h1 := h.dot
          rw [HS.out, hm, Nat.add_sub_cancel, hgd] at h1
          exact h46 (by rw [h1]; rfl))
        clear hgd h46
        have h1 : 1 ≤ s.size := by omega
        have h45b : ((s[0].toNat : Int) == 45) = false := by have := h45 h1; simp; omega
        clear h45
        go_enter Tryd.func93, Tryd.ntmps93
        go_wp2
        go_ret2
        exact FixPost.no H (Below.refl _ _)

theorem specParseFixed_any (s : ByteArray) (w : World) (hs : s.size ≤ 1048576) :
    Calls Tryd.prog 93 #[.string s] w fun e w' => FixPost s.data.toList w e w' := by
  cases h : isNeg s
  · exact specParseFixed_pos s w hs h
  · exact specParseFixed_neg s w hs h

end Go.Proofs.YtobpnoiienpipaaDoor
