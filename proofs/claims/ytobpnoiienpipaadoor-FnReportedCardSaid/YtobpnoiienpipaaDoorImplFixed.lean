/-
  What is proved: the walk of FormatFixed, and that of the law FnExactFormatFixed.
  Conditions: the library's table of powers of ten holds what its initialiser lays.
-/
import Derived.Test.YtobpnoiienpipaaDoorItoa
import Derived.Test.YtobpnoiienpipaaDoorPkDec
namespace Go.Proofs.YtobpnoiienpipaaDoor
set_option linter.unusedVariables false
open Go.RowKit

theorem cat4' (s0 : List UInt8) (t : List UInt8) (d1 d2 d3 : UInt8) : ((((⟨s0.toArray⟩ : ByteArray) ++ ⟨t.toArray⟩) ++ ⟨#[46]⟩) ++ (⟨#[d1, d2, d3]⟩ : ByteArray)) = ⟨(s0 ++ (t ++ [46, d1, d2, d3])).toArray⟩ := by
  apply ByteArray.ext
  simp [ByteArray.data_append]

theorem Tab.drew {w : World} (h : Tab w) : Tab w.drew := h
set_option maxHeartbeats 1000000 in
theorem formatFixed_neg (a : Nat) (w : World) (h : a ≤ 1000000000) (h0 : 0 < a) (ht : Tab w) :
    Calls Tryd.prog 58 #[.int .i64 (-(a : Int))] w fun e w' => e = .returned (.string ⟨(45 :: body a).toArray⟩) ∧ Below w.heap.size w w' := by
  have h4 := four_digits a
  obtain ⟨d0, d1, d2, d3, hd⟩ := list4 h4
  have h7 := digits_le7 a h
  have hi1 := itoa_nat (1000 + a % 1000)
  have hi2 := itoa_nat (a / 1000)
  rw [show ((1000 + a % 1000 : Nat) : Int) = 1000 + (a : Int) % 1000 by omega, hd] at hi1
  rw [show ((a / 1000 : Nat) : Int) = (a : Int) / 1000 by omega] at hi2
  have hb : body a = Lib.decDigits (a / 1000) ++ [46, d1, d2, d3] := by unfold body part3; rw [hd]; rfl
  have HB := Lib.hid hb
  have H1 := Lib.hid hi1
  have H2 := Lib.hid hi2
  have e1 := td1000 a
  have e2 := wd1000 a h
  clear hi1 hi2 h4 hd hb
  generalize Lib.decDigits (a / 1000) = t at H2 h7 HB
  go_enter Tryd.func58, Tryd.ntmps58
  go_wp2_with (first | (go_at_call 56; refine (formatInt_any _ _ (by omega) (by omega) (ht.below ((Below.refl _ _).alloc (Nat.le_refl _) _))).mono ?_; rintro e w1 ⟨rfl, hb1⟩; rw [H1.out]) | go_in)
  have ht1 := (ht.below ((Below.refl _ _).alloc (Nat.le_refl _) (.cells #[.string ⟨#[45]⟩] 9))).below hb1
  have hc1 : w1.cell? ⟨w.heap.size, 0, none⟩ = some (.string ⟨#[45]⟩) := (hb1.cell (p := ⟨w.heap.size, 0, none⟩) (by simp)).trans (World.cell?_alloc_mark _ _ _ _ 0)
  have hsz : w.heap.size < w1.heap.size := by have := hb1.size; simp at this; omega
  have hbw : Below w.heap.size w w1 := ((Below.refl _ _).alloc (Nat.le_refl _) _).trans (hb1.mono (by simp))
  clear hb1
  go_region_with (go_at_call 56; refine (formatInt_any _ _ (by omega) (by omega) ht1.drew).mono ?_; rintro e w2 ⟨rfl, hb2⟩; rw [H2.out]; have hc2 : w2.cell? ⟨w.heap.size, 0, none⟩ = some (.string ⟨#[45]⟩) := (hb2.cell (p := ⟨w.heap.size, 0, none⟩) hsz).trans hc1)
  all_goals
    go_wp2
    go_ret
    refine ⟨?_, hbw.drew.trans (hb2.mono (by show _ ≤ w1.heap.size; omega))⟩
    rw [HB.out]
    exact congrArg (fun x => Ending.returned (Value.string x)) (cat4 [45] t d0 d1 d2 d3)

set_option maxHeartbeats 1000000 in
theorem formatFixed_pos (a : Nat) (w : World) (h : a ≤ 1000000000) (ht : Tab w) :
    Calls Tryd.prog 58 #[.int .i64 (a : Int)] w fun e w' => e = .returned (.string ⟨(body a).toArray⟩) ∧ Below w.heap.size w w' := by
  have h4 := four_digits a
  obtain ⟨d0, d1, d2, d3, hd⟩ := list4 h4
  have h7 := digits_le7 a h
  have hi1 := itoa_nat (1000 + a % 1000)
  have hi2 := itoa_nat (a / 1000)
  rw [show ((1000 + a % 1000 : Nat) : Int) = 1000 + (a : Int) % 1000 by omega, hd] at hi1
  rw [show ((a / 1000 : Nat) : Int) = (a : Int) / 1000 by omega] at hi2
  have hb : body a = Lib.decDigits (a / 1000) ++ [46, d1, d2, d3] := by unfold body part3; rw [hd]; rfl
  have HB := Lib.hid hb
  have H1 := Lib.hid hi1
  have H2 := Lib.hid hi2
  have e1 := td1000 a
  have e2 := wd1000 a h
  clear hi1 hi2 h4 hd hb
  generalize Lib.decDigits (a / 1000) = t at H2 h7 HB
  have hdd : decide ((a : Int) ≤ 1000000000) = true := by simp; omega
  go_enter Tryd.func58, Tryd.ntmps58
  go_wp2_with (first | (go_at_call 56; refine (formatInt_any _ _ (by omega) (by omega) (ht.below ((Below.refl _ _).alloc (Nat.le_refl _) _))).mono ?_; rintro e w1 ⟨rfl, hb1⟩; rw [H1.out]) | go_in)
  have ht1 := (ht.below ((Below.refl _ _).alloc (Nat.le_refl _) (.cells #[.string ⟨#[]⟩] 9))).below hb1
  have hc1 : w1.cell? ⟨w.heap.size, 0, none⟩ = some (.string ⟨#[]⟩) := (hb1.cell (p := ⟨w.heap.size, 0, none⟩) (by simp)).trans (World.cell?_alloc_mark _ _ _ _ 0)
  have hsz : w.heap.size < w1.heap.size := by have := hb1.size; simp at this; omega
  have hbw : Below w.heap.size w w1 := ((Below.refl _ _).alloc (Nat.le_refl _) _).trans (hb1.mono (by simp))
  clear hb1
  go_region_with (go_at_call 56; refine (formatInt_any _ _ (by omega) (by omega) ht1.drew).mono ?_; rintro e w2 ⟨rfl, hb2⟩; rw [H2.out]; have hc2 : w2.cell? ⟨w.heap.size, 0, none⟩ = some (.string ⟨#[]⟩) := (hb2.cell (p := ⟨w.heap.size, 0, none⟩) hsz).trans hc1)
  all_goals
    go_wp2
    go_ret
    refine ⟨?_, hbw.drew.trans (hb2.mono (by show _ ≤ w1.heap.size; omega))⟩
    rw [HB.out]
    exact congrArg (fun x => Ending.returned (Value.string x)) (cat4 [] t d0 d1 d2 d3)

/-- FormatFixed, at every number. -/
theorem formatFixed_any (n : Int) (w : World) (h0 : -9223372036854775808 ≤ n) (h1 : n ≤ 9223372036854775807) (ht : Tab w) :
    Calls Tryd.prog 58 #[.int .i64 n] w fun e w' => e = .returned (.string ⟨(ffx n).toArray⟩) ∧ Below w.heap.size w w' := by
  by_cases hin : -1000000000 ≤ n ∧ n ≤ 1000000000
  · rcases (by omega : n < 0 ∨ 0 ≤ n) with hs | hs
    · obtain ⟨a, rfl⟩ : ∃ a : Nat, n = -(a : Int) := ⟨n.natAbs, by omega⟩
      rw [ffx_neg a (by omega) (by omega)]
      exact formatFixed_neg a w (by omega) (by omega) ht
    · obtain ⟨a, rfl⟩ := Int.eq_ofNat_of_zero_le hs
      rw [ffx_pos a (by omega)]
      exact formatFixed_pos a w (by omega) ht
  · rw [ffx_out hin]
    rcases (by omega : n < -1000000000 ∨ 1000000000 < n) with h2 | h2
    · clear hin
      go_enter Tryd.func58, Tryd.ntmps58
      go_wp2
      go_ret
      exact ⟨rfl, Below.refl _ _⟩
    · clear hin
      have hdd : decide (n ≤ 1000000000) = false := by simp; omega
      go_enter Tryd.func58, Tryd.ntmps58
      go_wp2
      go_ret
      exact ⟨rfl, Below.refl _ _⟩

end Go.Proofs.YtobpnoiienpipaaDoor
