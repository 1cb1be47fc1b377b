/-
  What is proved: the walk of the law FnFixedParsed.
  Conditions: the library's table of powers of ten holds what its initialiser lays.
-/
import Derived.Test.YtakephomkapmjaaDoorDrawS
import Derived.Test.YtakephomkapmjaaDoorLawFixedText
namespace Go.Proofs.YtakephomkapmjaaDoor
set_option linter.unusedVariables false
open Go.RowKit

theorem ba_ne {a : List UInt8} {s : ByteArray} (h : ¬ a = s.data.toList) : (a == s.toList) = false := by rw [ByteArray.toList_eq]; simpa using h
theorem ba_eq {a : List UInt8} {s : ByteArray} (h : a = s.data.toList) : (a == s.toList) = true := by rw [ByteArray.toList_eq]; simpa using h
theorem fxP_50 : fxP [45, 48, 46, 48, 53, 48] = some (-50) := by
  have h : ffx (-50) = [45, 48, 46, 48, 53, 48] := by decide +kernel
  rw [← h]
  exact fxP_ffx (by decide) (by decide)
theorem fxP_rng {l : List UInt8} {n : Int} (h : fxP l = some n) : -9223372036854775808 ≤ n ∧ n ≤ 9223372036854775807 := by
  obtain ⟨_, h0, h1⟩ := ffx_fxP h
  omega

set_option maxHeartbeats 1000000 in
theorem walk_FnFixedParsed (a0 : Option Addr) (len0 cap0 : Nat) (z0 : List Int) (w : World) (w0 : IsRow .u8 w a0 len0 cap0 z0) (ht : Tab w) :
    Calls Tryd.prog 7 #[.slice a0 len0 cap0] w fun e w' => e = .returned (.bool true) ∧ Below w.heap.size w w' := by
  by_cases hbig : 1048576 < len0
  · have hbb : decide ((1048576 : Int) < len0) = true := by simp; omega
    have HB := Lib.hid (big_any a0 len0 cap0 w)
    rw [hbb] at HB
    clear hbb
    go_enter Tryd.func7, Tryd.ntmps7
    go_wp2_with fail
    refine HB.out.mono ?_
    rintro e w1 ⟨rfl, rfl⟩
    go_wp2
    go_ret
    exact ⟨rfl, Below.refl _ _⟩
  · have hbb : decide ((1048576 : Int) < len0) = false := by simp; omega
    have HB := Lib.hid (big_any a0 len0 cap0 w)
    rw [hbb] at HB
    have HD := Lib.hid (drawParseFixed_any a0 len0 cap0 w (w0.src (by omega)))
    clear hbb w0
    go_enter Tryd.func7, Tryd.ntmps7
    go_wp2_with fail
    refine HB.out.mono ?_
    rintro e w1 ⟨rfl, rfl⟩
    go_wp2_with fail
    refine HD.out.mono ?_
    rintro e w1 ⟨s, hss, rfl, hbel⟩
    have HP1 := Lib.hid (parseFixed_any s w1 (by omega))
    have HPP := Lib.hid (fun W => parseFixed_any ⟨#[45, 48, 46, 48, 53, 48]⟩ W (by decide))
    go_wp2_with fail
    refine HP1.out.mono ?_
    clear HP1
    rintro e w2 ⟨he2, hb2⟩
    have hbz := hbel.trans (hb2.mono hbel.size)
    have h50 := HPP.out w2
    unfold FixPost at h50
    rw [fxP_50] at h50
    simp only [Option.getD_some, Option.isSome_some] at h50
    have H50 := Lib.hid h50
    have ht2 := ht.below hbz
    have HT2 := Lib.hid ht2
    clear h50 HPP ht2 ht hb2 hbel
    cases hx : fxP s.data.toList with
    | none =>
      rw [hx] at he2
      simp only [Option.getD_none, Option.isSome_none] at he2
      subst he2
      go_wp2_with fail
      refine H50.out.mono ?_
      rintro e w3 ⟨rfl, hb3⟩
      have hbz3 := hbz.trans (hb3.mono hbz.size)
      have hsz2 := hbz.size
      have ht3 := HT2.out.below hb3
      have HT3 := Lib.hid ht3
      clear ht3 H50 HT2
      by_cases hse : s.data.toList = []
      · have hse2 : s.toList = [] := by rw [ByteArray.toList_eq]; exact hse
        have HX := Lib.hid hx
        clear hx hse
        go_wp2
        go_ret
        exact ⟨rfl, hbz3⟩
      · have hse2 : s.toList.isEmpty = false := by rw [ByteArray.toList_eq]; cases h : s.data.toList <;> simp_all
        have hne : ¬ ffx 0 = s.data.toList := fun h => by rw [← h, fxP_ffx (by decide) (by decide)] at hx; cases hx
        have hnb := ba_ne hne
        have HF := Lib.hid (formatFixed_any 0 w3 (by decide) (by decide) HT3.out)
        clear hx hse hne
        go_wp2_with fail
        refine HF.out.mono ?_
        clear HF
        rintro e w4 ⟨rfl, hb4⟩
        go_wp2
        go_ret
        exact ⟨rfl, hbz3.trans (hb4.mono hbz3.size)⟩
    | some n =>
      obtain ⟨hr0, hr1⟩ := fxP_rng hx
      obtain ⟨hff, hn0, hn1⟩ := ffx_fxP hx
      have hful := ffx_full hn0 hn1
      rw [hx] at he2
      simp only [Option.getD_some, Option.isSome_some] at he2
      subst he2
      have hse2 : s.toList.isEmpty = false := by rw [ByteArray.toList_eq, ← hff]; exact hful
      have hnb := ba_eq hff
      have HR := Lib.hid (And.intro hr0 hr1)
      clear hx hff hful hr0 hr1 hn0 hn1
      go_wp2_with fail
      refine H50.out.mono ?_
      rintro e w3 ⟨rfl, hb3⟩
      have hbz3 := hbz.trans (hb3.mono hbz.size)
      have hsz2 := hbz.size
      have HF := Lib.hid (formatFixed_any n w3 HR.out.1 HR.out.2 (HT2.out.below hb3))
      clear H50 HT2
      go_wp2_with fail
      refine HF.out.mono ?_
      clear HF
      rintro e w4 ⟨rfl, hb4⟩
      go_wp2
      go_ret
      exact ⟨rfl, hbz3.trans (hb4.mono hbz3.size)⟩
end Go.Proofs.YtakephomkapmjaaDoor
