/-
  What is proved: the walk of the law FnFixedFloat.
  Conditions: none beyond the argument's own.
-/
import Derived.Test.YtakephomkapmjaaDraw
import Derived.Test.YtakephomkapmjaaBack
import Derived.Test.YtakephomkapmjaaToFix
namespace Go.Proofs.Ytakephomkapmjaa
set_option linter.unusedVariables false
open Go.RowKit

theorem tfx_in {n : Int} (h0 : -1000000000 ≤ n) (h1 : n ≤ 1000000000) : tfx (ffBits n) = some n := by
  obtain ⟨p, hm, ht⟩ := back h0 h1
  unfold tfx
  rw [hm]
  exact ht
theorem tfx_out {n : Int} (h : ¬ (-1000000000 ≤ n ∧ n ≤ 1000000000)) : tfx (ffBits n) = some 0 := by
  rw [ffBits_out h]
  decide +kernel

set_option maxHeartbeats 1000000 in
theorem walk_FnFixedFloat (a0 : Option Addr) (len0 cap0 : Nat) (z0 : List Int) (w : World) (w0 : IsRow .u8 w a0 len0 cap0 z0) :
    Calls Try.prog 4 #[.slice a0 len0 cap0] w fun e w' => e = .returned (.bool true) ∧ Below w.heap.size w w' := by
  by_cases hbig : 1048576 < len0
  · have hbb : decide ((1048576 : Int) < len0) = true := by simp; omega
    have HB := Lib.hid (big_any a0 len0 cap0 w)
    rw [hbb] at HB
    clear hbb
    go_enter Try.func4, Try.ntmps4
    go_wp2_with fail
    refine HB.out.mono ?_
    rintro e w1 ⟨rfl, rfl⟩
    go_wp2
    go_ret
    exact ⟨rfl, Below.refl _ _⟩
  · have hbb : decide ((1048576 : Int) < len0) = false := by simp; omega
    have HB := Lib.hid (big_any a0 len0 cap0 w)
    rw [hbb] at HB
    have HD := Lib.hid (drawFromFixed_any a0 len0 cap0 w (w0.src (by omega)))
    clear hbb w0
    go_enter Try.func4, Try.ntmps4
    go_wp2_with fail
    refine HB.out.mono ?_
    rintro e w1 ⟨rfl, rfl⟩
    go_wp2_with fail
    refine HD.out.mono ?_
    rintro e w1 ⟨n, hn, rfl, hbel⟩
    have HF := Lib.hid (fromFixed_any n w1 hn.1 hn.2)
    have HT := Lib.hid (fun W => toFixed_any (ffBits n) W)
    have hy := tfx_in (n := n)
    have hx := tfx_out (n := n)
    clear hn
    go_wp2_with fail
    refine HF.out.mono ?_
    clear HF
    rintro e w2 ⟨rfl, rfl⟩
    have ht := HT.out w1
    clear HT
    unfold ToPost at ht
    generalize ffBits n = b at *
    by_cases hin : -1000000000 ≤ n ∧ n ≤ 1000000000
    · have e1 := hy hin.1 hin.2
      rw [e1] at ht
      simp only [Option.getD_some, Option.isSome_some] at ht
      obtain ⟨hi1, hi2⟩ := hin
      clear hy hx e1
      have HP := Lib.hid ht
      clear ht
      have hd1 : decide (n < -1000000000) = false := by simp; omega
      have hd2 : decide (1000000000 < n) = false := by simp; omega
      go_wp2_with fail
      refine HP.out.mono ?_
      rintro e w3 ⟨rfl, hb3⟩
      go_wp2
      go_ret
      exact ⟨rfl, hbel.trans (hb3.mono hbel.size)⟩
    · have e1 := hx hin
      rw [e1] at ht
      simp only [Option.getD_some, Option.isSome_some] at ht
      clear hy hx e1
      have HP := Lib.hid ht
      clear ht
      by_cases h0 : n < -1000000000
      · go_wp2_with fail
        refine HP.out.mono ?_
        rintro e w3 ⟨rfl, hb3⟩
        go_wp2
        go_ret
        exact ⟨rfl, hbel.trans (hb3.mono hbel.size)⟩
      · have hd1 : decide (n < -1000000000) = false := by simp; omega
        have hd2 : 1000000000 < n := by omega
        clear hin h0
        go_wp2_with fail
        refine HP.out.mono ?_
        rintro e w3 ⟨rfl, hb3⟩
        go_wp2
        go_ret
        exact ⟨rfl, hbel.trans (hb3.mono hbel.size)⟩
end Go.Proofs.Ytakephomkapmjaa
