/-
  What is proved: the walk of the law FnNumbers.
  Conditions: the library's table of powers of ten holds what its initialiser lays.
-/
import Derived.Test.YtakephomkapmjaaDoorDraw
import Derived.Test.YtakephomkapmjaaDoorItoa
import Derived.Test.YtakephomkapmjaaDoorScan
namespace Go.Proofs.YtakephomkapmjaaDoor
set_option linter.unusedVariables false
open Go.RowKit

theorem itoa_ne (n : Int) : Lib.itoa n ≠ [] := by
  by_cases h : n < 0
  · rw [itoa_neg h]; simp
  · rw [itoa_pos h]; exact (digits_canon _).ne
theorem itoa_yes {n : Int} (h0 : 0 ≤ n) (h1 : n ≤ 1000000000) : puB (Lib.itoa n) = true ∧ (puV (Lib.itoa n) : Int) = n := by
  rw [itoa_pos (by omega)]
  obtain ⟨a, b⟩ := (PU.of_text (rfl : Lib.decDigits n.natAbs = _) (by omega)).some
  exact ⟨a, by rw [b]; omega⟩
theorem itoa_no {n : Int} (h : n < 0 ∨ 1000000000 < n) : puB (Lib.itoa n) = false ∧ puV (Lib.itoa n) = 0 := by
  refine PU.no fun m hp => ?_
  by_cases hn : n < 0
  · rw [itoa_neg hn] at hp
    have := isDig_iff.1 (hp.1.dig 45 (by simp))
    have e45 : (45 : UInt8).toNat = 45 := rfl
    omega
  · rw [itoa_pos hn] at hp
    have e1 := hp.2.1
    rw [nv_digits] at e1
    have := hp.2.2
    omega
theorem itoa_len (n : Int) (h0 : -9223372036854775808 ≤ n) (h1 : n ≤ 9223372036854775807) : (Lib.itoa n).length ≤ 21 := by
  have h2 : (Lib.decDigits n.natAbs).length ≤ 20 := by rw [Lib.decDigits_length]; exact Lib.nDigits_le20 _ (by omega)
  by_cases h : n < 0
  · rw [itoa_neg h, List.length_cons]; omega
  · rw [itoa_pos h]; omega

set_option maxHeartbeats 1000000 in
theorem walk_FnNumbers (a0 : Option Addr) (len0 cap0 : Nat) (z0 : List Int) (w : World) (w0 : IsRow .u8 w a0 len0 cap0 z0) (ht : Tab w) :
    Calls Tryd.prog 4 #[.slice a0 len0 cap0] w fun e w' => e = .returned (.bool true) ∧ Below w.heap.size w w' := by
  by_cases hbig : 1048576 < len0
  · have hbb : decide ((1048576 : Int) < len0) = true := by simp; omega
    have HB := Lib.hid (big_any a0 len0 cap0 w)
    rw [hbb] at HB
    clear hbb
    go_enter Tryd.func4, Tryd.ntmps4
    go_wp2_with fail
    refine HB.out.mono ?_
    rintro e w1 ⟨rfl, rfl⟩
    go_wp2
    go_ret
    exact ⟨rfl, Below.refl _ _⟩
  · have hbb : decide ((1048576 : Int) < len0) = false := by simp; omega
    have HB := Lib.hid (big_any a0 len0 cap0 w)
    rw [hbb] at HB
    have HD := Lib.hid (drawFormatInt_any a0 len0 cap0 w (w0.src (by omega)))
    clear hbb w0
    go_enter Tryd.func4, Tryd.ntmps4
    go_wp2_with fail
    refine HB.out.mono ?_
    rintro e w1 ⟨rfl, rfl⟩
    go_wp2_with fail
    refine HD.out.mono ?_
    rintro e w1 ⟨n, hn, rfl, hbel⟩
    have HF := Lib.hid (formatInt_any n w1 hn.1 hn.2 (ht.below hbel))
    have hl := itoa_len n hn.1 hn.2
    have hne := itoa_ne n
    have hy := itoa_yes (n := n)
    have hx := itoa_no (n := n)
    have HPP := Lib.hid (fun W => parseUint_any ⟨(Lib.itoa n).toArray⟩ W)
    clear hn
    go_wp2_with fail
    refine HF.out.mono ?_
    clear HF
    rintro e w2 ⟨rfl, hb2⟩
    have hp : Calls Tryd.prog 17 #[.string ⟨(Lib.itoa n).toArray⟩] w2 fun e w' => UintPost (Lib.itoa n) w2 e w' := HPP.out w2 (by show (Lib.itoa n).toArray.size ≤ _; simp; omega)
    clear HPP
    have hbz := hbel.trans (hb2.mono hbel.size)
    clear hbel hb2 hl
    generalize Lib.itoa n = t at *
    have hie : t.isEmpty = false := by cases t <;> simp_all
    by_cases hin : 0 ≤ n ∧ n ≤ 1000000000
    · obtain ⟨e1, e2⟩ := hy hin.1 hin.2
      obtain ⟨hi1, hi2⟩ := hin
      unfold UintPost at hp
      rw [e1, e2] at hp
      clear hy hx e1 e2
      have HP := Lib.hid hp
      clear hp
      go_wp2_with fail
      refine HP.out.mono ?_
      rintro e w3 ⟨rfl, rfl⟩
      go_wp2
      go_ret
      exact ⟨rfl, hbz⟩
    · obtain ⟨e1, e2⟩ := hx (by omega)
      unfold UintPost at hp
      rw [e1, e2] at hp
      clear hy hx e1 e2
      have HP := Lib.hid hp
      clear hp
      by_cases h0 : n < 0
      · go_wp2_with fail
        refine HP.out.mono ?_
        rintro e w3 ⟨rfl, rfl⟩
        go_wp2
        go_ret
        exact ⟨rfl, hbz⟩
      · have hi1 : 0 ≤ n := by omega
        have hi2 : decide (n ≤ 1000000000) = false := by simp; omega
        clear hin
        go_wp2_with fail
        refine HP.out.mono ?_
        rintro e w3 ⟨rfl, rfl⟩
        go_wp2
        go_ret
        exact ⟨rfl, hbz⟩
end Go.Proofs.YtakephomkapmjaaDoor
