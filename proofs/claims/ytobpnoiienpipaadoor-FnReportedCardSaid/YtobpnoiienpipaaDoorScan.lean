/-
  What is proved: the walks of the functions of chapter 1 that read whole numbers.
  Conditions: the argument is a string of at most 1048576 bytes.
-/
import Derived.Test.YtobpnoiienpipaaDoorNum
import Derived.Test.YtobpnoiienpipaaDoorPkDec
namespace Go.Proofs.YtobpnoiienpipaaDoor
set_option linter.unusedVariables false
open Go.RowKit

theorem byte_at (s : ByteArray) (k : Nat) (h : k < s.size) : s[k] = s.data.toList[k]'(by simpa using h) := rfl
def ScanPost (l : List UInt8) (w : World) (e : Ending) (w' : World) : Prop := ∃ n k : Nat, e = .returned (.tuple #[.int .i64 n, .int .i64 k]) ∧ ScanEnd l n k ∧ n ≤ 10000000009 ∧ k ≤ l.length ∧ w = w'
theorem ScanPost.mk {l : List UInt8} {w : World} {e : Ending} (n k : Nat) (he : e = .returned (.tuple #[.int .i64 n, .int .i64 k])) (h : ScanEnd l n k) (hn : n ≤ 10000000009) : ScanPost l w e w := ⟨n, k, he, h, hn, h.1.le, rfl⟩

set_option maxHeartbeats 400000 in
theorem scanDigits_any (s : ByteArray) (w : World) (hs : s.size ≤ 1048576) :
    Calls Tryd.prog 119 #[.string s] w fun e w' => ScanPost s.data.toList w e w' := by
  go_enter Tryd.func119, Tryd.ntmps119
  go_wp2
  go_step3
  go_wp2
  go_step3
  go_wp2
  go_loop [4, 5] (fun n i => ∃ m k : Nat, Scan s.data.toList m k ∧ m ≤ 10000000009 ∧ k ≤ s.size ∧ n = .int .i64 m ∧ i = .int .i64 k) (fun _ i => s.size - (intOf i).toNat)
  case atStart => exact ⟨0, 0, Scan.start _, by omega, by omega, rfl, rfl⟩
  case round =>
    obtain ⟨m, k, hsc, hm, hk, rfl, rfl⟩ := hrel
    by_cases hlt : k < s.size
    · have hl : s[k].toNat ≤ 255 := by have := s[k].toNat_lt; omega
      go_wp2
      · go_ret2
        exact ScanPost.mk m k rfl (ScanEnd.at hsc (by simpa using hlt) (by rw [← byte_at s k hlt]; omega)) hm
      · have hd : 48 ≤ s[k].toNat ∧ s[k].toNat ≤ 57 := by omega
        refine ⟨⟨_, k + 1, hsc.step (by simpa using hlt) (by omega) (by rw [← byte_at s k hlt]; exact isDig_iff.2 hd), ?_, by omega, ?_, by go_num⟩, by simp [intOf]; omega⟩
        · rw [← byte_at s k hlt]; omega
        · rw [← byte_at s k hlt]; congr 1; omega
      · go_ret2
        exact ScanPost.mk m k rfl (ScanEnd.at hsc (by simpa using hlt) (by rw [← byte_at s k hlt]; omega)) hm
      · go_ret2
        exact ScanPost.mk m k rfl (ScanEnd.at hsc (by simpa using hlt) (by rw [← byte_at s k hlt]; omega)) hm
    · go_wp2
      go_ret2
      exact ScanPost.mk m k rfl (ScanEnd.all hsc (by simpa using hlt)) hm

/-- The parser's answer. -/
def UintPost (l : List UInt8) (w : World) (e : Ending) (w' : World) : Prop := e = .returned (.tuple #[.int .i64 (puV l), .bool (puB l)]) ∧ w = w'
theorem UintPost.no {l : List UInt8} {w : World} (h : ∀ n, ¬ PU l n) : UintPost l w (.returned (.tuple #[.int .i64 0, .bool false])) w := by
  obtain ⟨h1, h2⟩ := PU.no h
  exact ⟨by rw [h1, h2]; rfl, rfl⟩
theorem UintPost.yes {l : List UInt8} {w : World} {n : Nat} (h : PU l n) : UintPost l w (.returned (.tuple #[.int .i64 n, .bool true])) w := by
  obtain ⟨h1, h2⟩ := h.some
  exact ⟨by rw [h1, h2], rfl⟩

set_option maxHeartbeats 400000 in
theorem parseUint_any (s : ByteArray) (w : World) (hs : s.size ≤ 1048576) :
    Calls Tryd.prog 111 #[.string s] w fun e w' => UintPost s.data.toList w e w' := by
  go_enter Tryd.func111, Tryd.ntmps111
  go_wp2_with fail
  refine (scanDigits_any s _ hs).mono ?_
  rintro e w' ⟨n, k, rfl, he, hn, hk, rfl⟩
  have hsz : s.data.toList.length = s.size := by simp
  rw [hsz] at hk
  by_cases hk0 : k = 0
  · subst hk0
    have H : ∀ n, ¬ PU s.data.toList n := fun m hp => by
      by_cases hl : 0 < s.data.toList.length
      · exact he.none (.inl hl) hp
      · have : s.data.toList = [] := List.eq_nil_of_length_eq_zero (by omega)
        rw [this] at hp; exact PU.nonempty hp
    clear he hsz
    go_wp2
    go_ret2
    exact UintPost.no H
  · have hkb : ((k : Int) == 0) = false := by simpa using hk0
    by_cases hbad : k < s.size ∨ 1000000000 < n
    · have H : ∀ n, ¬ PU s.data.toList n := fun m => he.none (by rw [hsz]; exact hbad)
      clear he hsz
      by_cases hlt : k < s.size
      · go_wp2
        go_ret2
        exact UintPost.no H
      · have hb : 1000000000 < n := by omega
        clear hbad
        go_wp2
        go_ret2
        exact UintPost.no H
    · have hlt : ¬ k < s.size := by omega
      have hb : ¬ 1000000000 < n := by omega
      have hz : 0 < s.size := by omega
      obtain ⟨t, ht⟩ : ∃ t, s.data.toList = s[0] :: t := by
        cases hc : s.data.toList with
        | nil => rw [hc] at hsz; simp at hsz; omega
        | cons c t => exact ⟨t, by rw [byte_at s 0 hz]; simp [hc]⟩
      by_cases h48 : s[0].toNat = 48
      · have h48b : ((s[0].toNat : Int) == 48) = true := by simp [h48]
        have h48c : s[0] = 48 := UInt8.toNat_inj.1 (by simpa using h48)
        by_cases h1 : 1 < k
        · have H : ∀ n, ¬ PU s.data.toList n := fun m => by
            rw [ht, h48c]
            refine PU.nolead (fun e => ?_)
            rw [ht, e] at hsz; simp at hsz; omega
          clear he hsz hbad ht h48 h48c
          go_wp2
          go_ret2
          exact UintPost.no H
        · have H := he.good (by rw [hsz]; exact hlt) (by omega) (by omega) (.inl (by rw [hsz]; omega))
          clear he hsz hbad ht h48 h48c
          go_wp2
          go_ret2
          exact UintPost.yes H
      · have h48b : ((s[0].toNat : Int) == 48) = false := by simp; omega
        have H := he.good (by rw [hsz]; exact hlt) (by omega) (by omega) (.inr ⟨_, t, ht, fun e => h48 (by rw [e]; rfl)⟩)
        clear he hsz hbad ht h48
        go_wp2
        go_ret2
        exact UintPost.yes H

end Go.Proofs.YtobpnoiienpipaaDoor
