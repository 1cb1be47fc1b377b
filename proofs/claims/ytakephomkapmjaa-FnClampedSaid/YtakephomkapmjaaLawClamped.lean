/-
  What is proved: the walk of the law FnClamped.
  Conditions: none beyond the argument's own.
-/
import Derived.Test.YtakephomkapmjaaCur
namespace Go.Proofs.Ytakephomkapmjaa
set_option linter.unusedVariables false
open Go.RowKit

def TripPost (w : World) (e : Ending) (w' : World) : Prop :=
  ∃ n a b : Int, I64 n ∧ I64 a ∧ I64 b ∧ e = .returned (.tuple #[.int .i64 n, .int .i64 a, .int .i64 b]) ∧ Below w.heap.size w w'
theorem TripPost.mk {w w' : World} {n a b : Int} (h1 : I64 n) (h2 : I64 a) (h3 : I64 b) (hb : Below w.heap.size w w') : TripPost w (.returned (.tuple #[.int .i64 n, .int .i64 a, .int .i64 b])) w' := ⟨n, a, b, h1, h2, h3, rfl, hb⟩
/-- What a draw leaves of the world. -/
theorem drawn {w w1 w2 : World} (h1 : w.grownBy w1 none) (h2 : w1.grownBy w2 (some w.heap.size)) : Below w.heap.size w w2 :=
  ((Below.refl _ _).grown h1 (Nat.le_refl _) (fun _ h => by cases h)).grown h2 h1.size (fun k h => by cases h; exact Nat.le_refl _)
theorem I64.of {x : Int} (h0 : -1000000000000 ≤ x) (h1 : x ≤ 1000000000000) : I64 x := ⟨by omega, by omega⟩

set_option maxHeartbeats 1000000 in
theorem drawClamp_any (a : Option Addr) (len cap : Nat) (w : World) (hs : Src w w.heap.size a len cap) :
    Calls Try.prog 13 #[.slice a len cap] w fun e w' => TripPost w e w' := by
  have HN := Lib.hid (l01New_any a len cap w hs)
  clear hs
  go_enter Try.func13, Try.ntmps13
  go_wp2_with fail
  refine HN.out.mono ?_
  rintro e w1 ⟨rfl, hc1, hg1⟩
  go_wp2_with fail
  refine (l01Once_any _ _ _ hc1 (by decide) (by decide)).mono ?_
  rintro e w2 ⟨t, rfl, hc2, hg2⟩
  cases t
  · go_wp2_with fail
    refine (l01Below_any _ _ _ hc2 (by decide) (by decide)).mono ?_
    rintro e w3 ⟨x, hx, _, rfl, hc3, hg3⟩
    have hx := hx (by decide)
    go_wp2_with fail
    refine (l01Below_any _ _ _ hc3 (by decide) (by decide)).mono ?_
    rintro e w4 ⟨y, hy, _, rfl, hc4, hg4⟩
    have hy := hy (by decide)
    go_wp2_with fail
    refine (l01Below_any _ _ _ hc4 (by decide) (by decide)).mono ?_
    rintro e w5 ⟨z, hz, _, rfl, hc5, hg5⟩
    have hz := hz (by decide)
    go_wp2
    go_ret3
    exact TripPost.mk (I64.of (by omega) (by omega)) (I64.of (by omega) (by omega)) (I64.of (by omega) (by omega)) (drawn hg1 (((hg2.trans hg3).trans hg4).trans hg5))
  · go_wp2_with fail
    refine (l01Number_any _ _ hc2).mono ?_
    rintro e w3 ⟨x, hx, rfl, hc3, hg3⟩
    have HX := Lib.hid hx
    clear hx
    go_wp2_with fail
    refine (l01Number_any _ _ hc3).mono ?_
    rintro e w4 ⟨y, hy, rfl, hc4, hg4⟩
    have HY := Lib.hid hy
    clear hy
    go_wp2_with fail
    refine (l01Number_any _ _ hc4).mono ?_
    rintro e w5 ⟨z, hz, rfl, hc5, hg5⟩
    have HZ := Lib.hid hz
    clear hz
    go_wp2
    go_ret3
    exact TripPost.mk HX.out HY.out HZ.out (drawn hg1 (((hg2.trans hg3).trans hg4).trans hg5))

/-- The number, held between two. -/
def held (n a b : Int) : Int := if b < a then a else if n < a then a else if b < n then b else n
theorem ret_i {a b : Int} (h : a = b) : Ending.returned (.int .i64 a) = Ending.returned (.int .i64 b) := by rw [h]
theorem clamp_any (n a b : Int) (w : World) :
    Calls Try.prog 14 #[.int .i64 n, .int .i64 a, .int .i64 b] w fun e w' => e = .returned (.int .i64 (held n a b)) ∧ w = w' := by
  go_enter Try.func14, Try.ntmps14
  go_wp2
  all_goals
    go_ret
    refine ⟨ret_i ?_, rfl⟩
    unfold held
    repeat (any_goals split)
    all_goals omega
theorem held_in {n a b : Int} (h : a ≤ b) : a ≤ held n a b ∧ held n a b ≤ b ∧ held (held n a b) a b = held n a b ∧ (n < a ∨ b < n ∨ held n a b = n) := by
  unfold held
  repeat (any_goals split)
  all_goals omega
theorem held_out {n a b : Int} (h : b < a) : held n a b = a := by unfold held; rw [if_pos h]
theorem held_753 : held 7 3 5 = 5 := by decide

theorem big_any (a : Option Addr) (len cap : Nat) (w : World) :
    Calls Try.prog 12 #[.slice a len cap] w fun e w' => e = .returned (.bool (decide ((1048576 : Int) < len))) ∧ w = w' := by
  go_enter Try.func12, Try.ntmps12
  go_wp2
  go_ret
  exact ⟨rfl, rfl⟩

set_option maxHeartbeats 1000000 in
theorem walk_FnClamped (a0 : Option Addr) (len0 cap0 : Nat) (z0 : List Int) (w : World) (w0 : IsRow .u8 w a0 len0 cap0 z0) :
    Calls Try.prog 3 #[.slice a0 len0 cap0] w fun e w' => e = .returned (.bool true) ∧ Below w.heap.size w w' := by
  by_cases hbig : 1048576 < len0
  · have hbb : decide ((1048576 : Int) < len0) = true := by simp; omega
    have HB := Lib.hid (big_any a0 len0 cap0 w)
    rw [hbb] at HB
    clear hbb
    go_enter Try.func3, Try.ntmps3
    go_wp2_with fail
    refine HB.out.mono ?_
    rintro e w1 ⟨rfl, rfl⟩
    go_wp2
    go_ret
    exact ⟨rfl, Below.refl _ _⟩
  · have hbb : decide ((1048576 : Int) < len0) = false := by simp; omega
    have HB := Lib.hid (big_any a0 len0 cap0 w)
    rw [hbb] at HB
    have HD := Lib.hid (drawClamp_any a0 len0 cap0 w (w0.src (by omega)))
    clear hbb w0
    go_enter Try.func3, Try.ntmps3
    go_wp2_with fail
    refine HB.out.mono ?_
    rintro e w1 ⟨rfl, rfl⟩
    go_wp2_with fail
    refine HD.out.mono ?_
    rintro e w1 ⟨n, a, b, hn, ha, hb, rfl, hbel⟩
    have HN := Lib.hid hn
    have HA := Lib.hid ha
    have HB2 := Lib.hid hb
    clear hn ha hb
    go_wp2_with fail
    have h7 := clamp_any 7 3 5 w1
    rw [held_753] at h7
    have H7 := Lib.hid h7
    clear h7
    by_cases hba : b < a
    · have h1 := clamp_any n a b w1
      rw [held_out hba] at h1
      refine h1.mono ?_
      clear h1
      rintro e w1' ⟨rfl, rfl⟩
      go_wp2_with fail
      refine H7.out.mono ?_
      rintro e w1' ⟨rfl, rfl⟩
      go_wp2
      go_ret
      exact ⟨rfl, hbel⟩
    · obtain ⟨k1, k2, k3, k4⟩ := held_in (n := n) (show a ≤ b by omega)
      have h1 := clamp_any n a b w1
      have h2 := clamp_any (held n a b) a b w1
      rw [k3] at h2
      generalize held n a b = x at *
      clear k3
      have H2 := Lib.hid h2
      clear h2
      refine h1.mono ?_
      clear h1
      rintro e w1' ⟨rfl, rfl⟩
      rcases k4 with k4 | k4 | k4
      · go_wp2_with fail
        refine H2.out.mono ?_
        rintro e w1' ⟨rfl, rfl⟩
        go_wp2_with fail
        refine H7.out.mono ?_
        rintro e w1' ⟨rfl, rfl⟩
        go_wp2
        go_ret
        exact ⟨rfl, hbel⟩
      · have hba1 : decide (n < a) = false := by simp; omega
        go_wp2_with fail
        refine H2.out.mono ?_
        rintro e w1' ⟨rfl, rfl⟩
        go_wp2_with fail
        refine H7.out.mono ?_
        rintro e w1' ⟨rfl, rfl⟩
        go_wp2
        go_ret
        exact ⟨rfl, hbel⟩
      · subst k4
        have hba1 : decide (x < a) = false := by simp; omega
        have hba2 : decide (b < x) = false := by simp; omega
        go_wp2_with fail
        refine H2.out.mono ?_
        rintro e w1' ⟨rfl, rfl⟩
        go_wp2_with fail
        refine H7.out.mono ?_
        rintro e w1' ⟨rfl, rfl⟩
        go_wp2
        go_ret
        exact ⟨rfl, hbel⟩
end Go.Proofs.Ytakephomkapmjaa
