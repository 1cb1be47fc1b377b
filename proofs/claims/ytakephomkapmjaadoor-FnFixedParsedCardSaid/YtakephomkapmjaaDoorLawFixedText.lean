/-
  What is proved: the walk of the law FnFixedText.
  Conditions: the library's table of powers of ten holds what its initialiser lays.
-/
import Derived.Test.YtakephomkapmjaaDoorDraw
import Derived.Test.YtakephomkapmjaaDoorImplFixed
import Derived.Test.YtakephomkapmjaaDoorParseFixed
namespace Go.Proofs.YtakephomkapmjaaDoor
set_option linter.unusedVariables false
open Go.RowKit

theorem ffx_full {n : Int} (h0 : -1000000000 ≤ n) (h1 : n ≤ 1000000000) : (ffx n).isEmpty = false := by
  have h := fxP_ffx h0 h1
  cases hf : ffx n with
  | nil => rw [hf] at h; exact absurd h (by simp [fxP, core])
  | cons a b => rfl
theorem fxP_nil : fxP [] = none := by simp [fxP, core]

set_option maxHeartbeats 1000000 in
theorem walk_FnFixedText (a0 : Option Addr) (len0 cap0 : Nat) (z0 : List Int) (w : World) (w0 : IsRow .u8 w a0 len0 cap0 z0) (ht : Tab w) :
    Calls Tryd.prog 6 #[.slice a0 len0 cap0] w fun e w' => e = .returned (.bool true) ∧ Below w.heap.size w w' := by
  by_cases hbig : 1048576 < len0
  · have hbb : decide ((1048576 : Int) < len0) = true := by simp; omega
    have HB := Lib.hid (big_any a0 len0 cap0 w)
    rw [hbb] at HB
    clear hbb
    go_enter Tryd.func6, Tryd.ntmps6
    go_wp2_with fail
    refine HB.out.mono ?_
    rintro e w1 ⟨rfl, rfl⟩
    go_wp2
    go_ret
    exact ⟨rfl, Below.refl _ _⟩
  · have hbb : decide ((1048576 : Int) < len0) = false := by simp; omega
    have HB := Lib.hid (big_any a0 len0 cap0 w)
    rw [hbb] at HB
    have HD := Lib.hid (drawFormatFixed_any a0 len0 cap0 w (w0.src (by omega)))
    clear hbb w0
    go_enter Tryd.func6, Tryd.ntmps6
    go_wp2_with fail
    refine HB.out.mono ?_
    rintro e w1 ⟨rfl, rfl⟩
    go_wp2_with fail
    refine HD.out.mono ?_
    rintro e w1 ⟨n, hn, rfl, hbel⟩
    have HF := Lib.hid (formatFixed_any n w1 hn.1 hn.2 (ht.below hbel))
    have hl := ffx_len n
    have hy := fxP_ffx (n := n)
    have hx := ffx_out (n := n)
    have hfu := ffx_full (n := n)
    have HPP := Lib.hid (fun W => parseFixed_any ⟨(ffx n).toArray⟩ W)
    clear hn
    go_wp2_with fail
    refine HF.out.mono ?_
    clear HF
    rintro e w2 ⟨rfl, hb2⟩
    have hp : Calls Tryd.prog 24 #[.string ⟨(ffx n).toArray⟩] w2 fun e w' => FixPost (ffx n) w2 e w' := HPP.out w2 (by show (ffx n).toArray.size ≤ _; simp; omega)
    clear HPP
    have hbz := hbel.trans (hb2.mono hbel.size)
    clear hbel hb2 hl
    by_cases hin : -1000000000 ≤ n ∧ n ≤ 1000000000
    · have e1 := hy hin.1 hin.2
      have hie := hfu hin.1 hin.2
      obtain ⟨hi1, hi2⟩ := hin
      generalize ffx n = t at *
      unfold FixPost at hp
      rw [e1] at hp
      simp only [Option.getD_some, Option.isSome_some] at hp
      clear hy hx e1 hfu
      have HP := Lib.hid hp
      clear hp
      go_wp2_with fail
      refine HP.out.mono ?_
      rintro e w3 ⟨rfl, hb3⟩
      go_wp2
      go_ret
      exact ⟨rfl, hbz.trans (hb3.mono hbz.size)⟩
    · have e1 := hx hin
      rw [e1] at hp
      rw [e1]
      unfold FixPost at hp
      rw [fxP_nil] at hp
      simp only [Option.getD_none, Option.isSome_none] at hp
      clear hy hx e1 hfu
      have HP := Lib.hid hp
      clear hp
      by_cases h0 : n < -1000000000
      · go_wp2_with fail
        refine HP.out.mono ?_
        rintro e w3 ⟨rfl, hb3⟩
        go_wp2
        go_ret
        exact ⟨rfl, hbz.trans (hb3.mono hbz.size)⟩
      · have hi1 : -1000000000 ≤ n := by omega
        have hi2 : decide (n ≤ 1000000000) = false := by simp; omega
        clear hin
        go_wp2_with fail
        refine HP.out.mono ?_
        rintro e w3 ⟨rfl, hb3⟩
        go_wp2
        go_ret
        exact ⟨rfl, hbz.trans (hb3.mono hbz.size)⟩
end Go.Proofs.YtakephomkapmjaaDoor
