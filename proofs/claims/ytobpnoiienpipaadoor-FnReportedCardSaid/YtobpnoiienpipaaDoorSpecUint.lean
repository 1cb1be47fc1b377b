/-
  What is proved: the walk of the model's ParseUint.
  Conditions: the argument is a string of at most 1048576 bytes.
-/
import Derived.Test.YtobpnoiienpipaaDoorScan
namespace Go.Proofs.YtobpnoiienpipaaDoor
set_option linter.unusedVariables false
open Go.RowKit

/-- The digits read so far. -/
structure Read (l : List UInt8) (n k : Nat) : Prop where
  le : k ≤ l.length
  val : n = nv (l.take k)
  dig : ∀ c ∈ l.take k, isDig c = true
theorem Read.start (l : List UInt8) : Read l 0 0 := ⟨Nat.zero_le _, rfl, by simp⟩
theorem Read.step {l : List UInt8} {n k : Nat} (h : Read l n k) (hk : k < l.length) (hd : isDig l[k] = true) : Read l (10 * n + (l[k].toNat - 48)) (k + 1) := by
  refine ⟨by omega, ?_, ?_⟩
  · rw [take_snoc' l k hk, nv_snoc, ← h.val]
  · intro c hc
    rw [take_snoc' l k hk, List.mem_append] at hc
    rcases hc with hc | hc
    · exact h.dig c hc
    · obtain rfl := List.mem_singleton.1 hc; exact hd
theorem nv_lt : ∀ (l : List UInt8), (∀ c ∈ l, isDig c = true) → nv l < 10 ^ l.length := by
  intro l
  generalize hn : l.length = n
  induction n generalizing l with
  | zero => intro _; have := List.eq_nil_of_length_eq_zero hn; subst this; decide
  | succ n ih =>
    intro hd
    rcases List.eq_nil_or_concat l with e | ⟨r, c, e⟩
    · subst e; simp at hn
    · rw [List.concat_eq_append] at e
      subst e
      have h1 := ih r (by simp at hn; omega) (fun x hx => hd x (by simp [hx]))
      have h2 := isDig_iff.1 (hd c (by simp))
      rw [nv_snoc, Nat.pow_succ]
      omega
theorem Read.lt {l : List UInt8} {n k : Nat} (h : Read l n k) (hl : l.length ≤ 10) : n ≤ 9999999999 := by
  have h1 := nv_lt _ h.dig
  rw [← h.val] at h1
  have h2 : (l.take k).length ≤ 10 := by rw [List.length_take]; omega
  have h3 : 10 ^ (l.take k).length ≤ 10 ^ 10 := Nat.pow_le_pow_right (by decide) h2
  omega
theorem Read.bad {l : List UInt8} {k : Nat} (hk : k < l.length) (hd : l[k].toNat < 48 ∨ 57 < l[k].toNat) (m : Nat) : ¬ PU l m := fun hp => by
  have := isDig_iff.1 (hp.1.dig l[k] (List.getElem_mem hk))
  omega
theorem str_eq {a : List UInt8} {s : ByteArray} : ((⟨a.toArray⟩ : ByteArray) = s) ↔ a = s.data.toList := by
  constructor
  · intro h; subst h; rfl
  · intro h; subst h; rfl

theorem ba_ne {a : List UInt8} {s : ByteArray} (h : ¬ a = s.data.toList) : (a == s.toList) = false := by rw [ByteArray.toList_eq]; simpa using h
theorem ba_eq {a : List UInt8} {s : ByteArray} (h : a = s.data.toList) : (a == s.toList) = true := by rw [ByteArray.toList_eq]; simpa using h
def UintPostB (l : List UInt8) (w : World) (e : Ending) (w' : World) : Prop := e = .returned (.tuple #[.int .i64 (puV l), .bool (puB l)]) ∧ Below w.heap.size w w'
theorem UintPostB.no {l : List UInt8} {w w' : World} (h : ∀ n, ¬ PU l n) (hb : Below w.heap.size w w') : UintPostB l w (.returned (.tuple #[.int .i64 0, .bool false])) w' := by
  obtain ⟨h1, h2⟩ := PU.no h
  exact ⟨by rw [h1, h2]; rfl, hb⟩
theorem UintPostB.yes {l : List UInt8} {w w' : World} {n : Nat} (h : PU l n) (hb : Below w.heap.size w w') : UintPostB l w (.returned (.tuple #[.int .i64 n, .bool true])) w' := by
  obtain ⟨h1, h2⟩ := h.some
  exact ⟨by rw [h1, h2], hb⟩

set_option maxHeartbeats 400000 in
theorem specParseUint_any (s : ByteArray) (w : World) (hs : s.size ≤ 1048576) :
    Calls Tryd.prog 92 #[.string s] w fun e w' => UintPostB s.data.toList w e w' := by
  have hsz : s.data.toList.length = s.size := by simp
  by_cases h10 : 10 < s.size
  · have H : ∀ n, ¬ PU s.data.toList n := fun m hp => by have := hp.length; omega
    clear hsz
    go_enter Tryd.func92, Tryd.ntmps92
    go_wp2
    go_ret2
    exact UintPostB.no H (Below.refl _ _)
  · have HS := Lib.hid hsz
    clear hsz
    go_enter Tryd.func92, Tryd.ntmps92
    go_wp2
    go_loop [4, 5] (fun n i => ∃ m k : Nat, Read s.data.toList m k ∧ m ≤ 9999999999 ∧ k ≤ s.size ∧ n = .int .i64 m ∧ i = .int .i64 k) (fun _ i => s.size - (intOf i).toNat)
    case atStart => exact ⟨0, 0, Read.start _, by omega, by omega, rfl, rfl⟩
    case round =>
      obtain ⟨m, k, hrd, hm, hk, rfl, rfl⟩ := hrel
      by_cases hlt : k < s.size
      · have hl : s[k].toNat ≤ 255 := by have := s[k].toNat_lt; omega
        by_cases hd : 48 ≤ s[k].toNat ∧ s[k].toNat ≤ 57
        · have hlt' : k < s.data.toList.length := by rw [HS.out]; exact hlt
          have hst := hrd.step hlt' (by rw [← byte_at s k hlt]; exact isDig_iff.2 hd)
          have hst' := hst.lt (by rw [HS.out]; omega)
          rw [← byte_at s k hlt] at hst hst'
          obtain ⟨hd1, hd2⟩ := hd
          clear hrd hlt'
          go_wp2
          go_round
          case rel => exact ⟨_, k + 1, hst, hst', by omega, by congr 1; omega, by go_num⟩
          case measure => simp [intOf]; omega
        · have hlt' : k < s.data.toList.length := by rw [HS.out]; exact hlt
          have H := Read.bad hlt' (by rw [← byte_at s k hlt]; omega)
          clear hrd hlt'
          go_wp2
          all_goals first | (go_ret2; exact UintPostB.no H (Below.refl _ _)) | (exfalso; omega)
      · have hkk : k = s.size := by omega
        by_cases hmx : 1000000000 < m
        · have H : ∀ n, ¬ PU s.data.toList n := fun x hp => by
            have e1 := hrd.val
            rw [List.take_of_length_le (by rw [HS.out]; omega)] at e1
            have := hp.2.1; have := hp.2.2; omega
          clear hrd hkk
          go_wp2
          go_ret2
          exact UintPostB.no H (Below.refl _ _)
        · by_cases ht : Lib.decDigits m = s.data.toList
          · have hi : Lib.itoa (m : Int) = s.data.toList := by rw [← ht]; unfold Lib.itoa; rw [if_neg (by omega)]; rfl
            have H := PU.of_text ht (by omega)
            have hb := ba_eq hi
            clear hrd hkk ht hi
            go_wp2_with fail
            refine (specFormatInt_any m _ (by omega) (by omega)).mono ?_
            rintro e w' ⟨rfl, hbel⟩
            go_wp2
            go_ret2
            exact UintPostB.yes H hbel
          · have hi : ¬ Lib.itoa (m : Int) = s.data.toList := by unfold Lib.itoa; rw [if_neg (by omega)]; exact ht
            have H : ∀ n, ¬ PU s.data.toList n := fun x hp => by
              have e1 := hrd.val
              rw [List.take_of_length_le (by rw [HS.out]; omega)] at e1
              have e2 := hp.2.1
              have e3 : x = m := by omega
              subst e3
              exact ht hp.text
            have hb := ba_ne hi
            clear hrd hkk ht hi
            go_wp2_with fail
            refine (specFormatInt_any m _ (by omega) (by omega)).mono ?_
            rintro e w' ⟨rfl, hbel⟩
            go_wp2
            go_ret2
            exact UintPostB.no H hbel
end Go.Proofs.YtobpnoiienpipaaDoor
