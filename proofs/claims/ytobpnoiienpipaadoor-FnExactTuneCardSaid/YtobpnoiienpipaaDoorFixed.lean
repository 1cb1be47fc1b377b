/-
  What is proved: the walk of the model's FormatFixed; what text a number of thousandths has.
  Conditions: the argument is a number of 64 bits.
-/
import Derived.Test.YtobpnoiienpipaaDoorNum
import Derived.Test.YtobpnoiienpipaaDoorDec
import Derived.Deep.RegionWith
namespace Go.Proofs.YtobpnoiienpipaaDoor
set_option linter.unusedVariables false
open Go.RowKit

theorem itoa_nat (a : Nat) : Lib.itoa (a : Int) = Lib.decDigits a := by unfold Lib.itoa; rw [if_neg (by omega)]; rfl
/-- Three digits behind the point. -/
def part3 (a : Nat) : List UInt8 := (Lib.decDigits (1000 + a % 1000)).drop 1
def body (a : Nat) : List UInt8 := Lib.decDigits (a / 1000) ++ 46 :: part3 a
/-- The text of n thousandths. -/
def ffx (n : Int) : List UInt8 := if -1000000000 ≤ n ∧ n ≤ 1000000000 then (if n < 0 then [45] else []) ++ body n.natAbs else []
theorem four_digits (a : Nat) : (Lib.decDigits (1000 + a % 1000)).length = 4 := by
  rw [Lib.decDigits_length, Lib.nDigits_unique 3 _ (by omega) (by omega)]
theorem digits_le7 (a : Nat) (h : a ≤ 1000000000) : (Lib.decDigits (a / 1000)).length ≤ 20 := by
  rw [Lib.decDigits_length]; exact Lib.nDigits_le20 _ (by omega)
theorem ffx_out {n : Int} (h : ¬ (-1000000000 ≤ n ∧ n ≤ 1000000000)) : ffx n = [] := by unfold ffx; rw [if_neg h]
theorem ffx_neg (a : Nat) (h : a ≤ 1000000000) (h0 : a ≠ 0) : ffx (-(a : Int)) = 45 :: body a := by
  unfold ffx; rw [if_pos (by omega), if_pos (by omega), Int.natAbs_neg, Int.natAbs_natCast]; rfl
theorem ffx_pos (a : Nat) (h : a ≤ 1000000000) : ffx (a : Int) = body a := by
  unfold ffx; rw [if_pos (by omega), if_neg (by omega), Int.natAbs_natCast]; rfl
theorem ffx_len (n : Int) : (ffx n).length ≤ 100 := by
  unfold ffx
  split
  · have h4 := four_digits n.natAbs
    have h7 := digits_le7 n.natAbs (by omega)
    unfold body part3
    split <;> simp <;> omega
  · simp
theorem list4 {l : List UInt8} (h : l.length = 4) : ∃ d0 d1 d2 d3, l = [d0, d1, d2, d3] := by
  match l, h with
  | [a, b, c, d], _ => exact ⟨a, b, c, d, rfl⟩
theorem td1000 (a : Nat) : (a : Int).tdiv 1000 = (a : Int) / 1000 := Int.tdiv_eq_ediv_of_nonneg (by omega)
theorem wd1000 (a : Nat) (h : a ≤ 1000000000) : IntKind.i64.wrap ((a : Int) / 1000) = (a : Int) / 1000 := IntWalk.i64_in _ (by omega)

theorem cat4 (s0 : List UInt8) (t : List UInt8) (d0 d1 d2 d3 : UInt8) : ((((⟨s0.toArray⟩ : ByteArray) ++ ⟨t.toArray⟩) ++ ⟨#[46]⟩) ++ (⟨#[d0, d1, d2, d3]⟩ : ByteArray).extract 1 4) = ⟨(s0 ++ (t ++ [46, d1, d2, d3])).toArray⟩ := by
  apply ByteArray.ext
  simp [ByteArray.data_append, ByteArray.data_extract]

set_option maxHeartbeats 1000000 in
theorem specFormatFixed_neg (a : Nat) (w : World) (h : a ≤ 1000000000) (h0 : 0 < a) :
    Calls Tryd.prog 71 #[.int .i64 (-(a : Int))] w fun e w' => e = .returned (.string ⟨(45 :: body a).toArray⟩) ∧ Below w.heap.size w w' := by
  have h4 := four_digits a
  obtain ⟨d0, d1, d2, d3, hd⟩ := list4 h4
  have h7 := digits_le7 a h
  have hi1 := itoa_nat (1000 + a % 1000)
  have hi2 := itoa_nat (a / 1000)
  rw [show ((1000 + a % 1000 : Nat) : Int) = 1000 + (a : Int) % 1000 by omega, hd] at hi1
  rw [show ((a / 1000 : Nat) : Int) = (a : Int) / 1000 by omega] at hi2
  have hb : body a = Lib.decDigits (a / 1000) ++ [46, d1, d2, d3] := by unfold body part3; rw [hd]; rfl
  have HB := Lib.hid hb
  have H1 := Lib.hid hi1
  have H2 := Lib.hid hi2
  have e1 := td1000 a
  have e2 := wd1000 a h
  clear hi1 hi2 h4 hd hb
  generalize Lib.decDigits (a / 1000) = t at H2 h7 HB
  go_enter Tryd.func71, Tryd.ntmps71
  go_wp2_with (first | (go_at_call 68; refine (specFormatInt_any _ _ (by omega) (by omega)).mono ?_; rintro e w1 ⟨rfl, hb1⟩; rw [H1.out]) | go_in)
  go_region_with (go_at_call 68; refine (specFormatInt_any _ _ (by omega) (by omega)).mono ?_; rintro e w2 ⟨rfl, hb2⟩; rw [H2.out])
  all_goals
    go_wp2
    go_ret
    refine ⟨?_, hb1.drew.trans (hb2.mono hb1.size)⟩
    rw [HB.out]
    exact congrArg (fun x => Ending.returned (Value.string x)) (cat4 [45] t d0 d1 d2 d3)

set_option maxHeartbeats 1000000 in
theorem specFormatFixed_pos (a : Nat) (w : World) (h : a ≤ 1000000000) :
    Calls Tryd.prog 71 #[.int .i64 (a : Int)] w fun e w' => e = .returned (.string ⟨(body a).toArray⟩) ∧ Below w.heap.size w w' := by
  have h4 := four_digits a
  obtain ⟨d0, d1, d2, d3, hd⟩ := list4 h4
  have h7 := digits_le7 a h
  have hi1 := itoa_nat (1000 + a % 1000)
  have hi2 := itoa_nat (a / 1000)
  rw [show ((1000 + a % 1000 : Nat) : Int) = 1000 + (a : Int) % 1000 by omega, hd] at hi1
  rw [show ((a / 1000 : Nat) : Int) = (a : Int) / 1000 by omega] at hi2
  have hb : body a = Lib.decDigits (a / 1000) ++ [46, d1, d2, d3] := by unfold body part3; rw [hd]; rfl
  have HB := Lib.hid hb
  have H1 := Lib.hid hi1
  have H2 := Lib.hid hi2
  have e1 := td1000 a
  have e2 := wd1000 a h
  clear hi1 hi2 h4 hd hb
  generalize Lib.decDigits (a / 1000) = t at H2 h7 HB
  have hdd : decide ((a : Int) ≤ 1000000000) = true := by simp; omega
  go_enter Tryd.func71, Tryd.ntmps71
  go_wp2_with (first | (go_at_call 68; refine (specFormatInt_any _ _ (by omega) (by omega)).mono ?_; rintro e w1 ⟨rfl, hb1⟩; rw [H1.out]) | go_in)
  go_region_with (go_at_call 68; refine (specFormatInt_any _ _ (by omega) (by omega)).mono ?_; rintro e w2 ⟨rfl, hb2⟩; rw [H2.out])
  all_goals
    go_wp2
    go_ret
    refine ⟨?_, hb1.drew.trans (hb2.mono hb1.size)⟩
    rw [HB.out]
    exact congrArg (fun x => Ending.returned (Value.string x)) (cat4 [] t d0 d1 d2 d3)

/-- The model's FormatFixed, at every number. -/
theorem specFormatFixed_any (n : Int) (w : World) (h0 : -9223372036854775808 ≤ n) (h1 : n ≤ 9223372036854775807) :
    Calls Tryd.prog 71 #[.int .i64 n] w fun e w' => e = .returned (.string ⟨(ffx n).toArray⟩) ∧ Below w.heap.size w w' := by
  by_cases hin : -1000000000 ≤ n ∧ n ≤ 1000000000
  · rcases (by omega : n < 0 ∨ 0 ≤ n) with hs | hs
    · obtain ⟨a, rfl⟩ : ∃ a : Nat, n = -(a : Int) := ⟨n.natAbs, by omega⟩
      rw [ffx_neg a (by omega) (by omega)]
      exact specFormatFixed_neg a w (by omega) (by omega)
    · obtain ⟨a, rfl⟩ := Int.eq_ofNat_of_zero_le hs
      rw [ffx_pos a (by omega)]
      exact specFormatFixed_pos a w (by omega)
  · rw [ffx_out hin]
    rcases (by omega : n < -1000000000 ∨ 1000000000 < n) with h2 | h2
    · clear hin
      go_enter Tryd.func71, Tryd.ntmps71
      go_wp2
      go_ret
      exact ⟨rfl, Below.refl _ _⟩
    · clear hin
      have hdd : decide (n ≤ 1000000000) = false := by simp; omega
      go_enter Tryd.func71, Tryd.ntmps71
      go_wp2
      go_ret
      exact ⟨rfl, Below.refl _ _⟩
end Go.Proofs.YtobpnoiienpipaaDoor
