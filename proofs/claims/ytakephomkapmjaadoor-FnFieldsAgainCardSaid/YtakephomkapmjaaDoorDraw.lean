/-
  What is proved: what the drawing functions of chapter 1 answer.
  Conditions: the bytes that they draw from can be read.
-/
import Derived.Test.YtakephomkapmjaaDoorCur
import Derived.Test.YtakephomkapmjaaDoorFixed
namespace Go.Proofs.YtakephomkapmjaaDoor
set_option linter.unusedVariables false
open Go.RowKit

/-- What a draw leaves of the world. -/
theorem drawn {w w1 w2 : World} (h1 : w.grownBy w1 none) (h2 : w1.grownBy w2 (some w.heap.size)) : Below w.heap.size w w2 :=
  ((Below.refl _ _).grown h1 (Nat.le_refl _) (fun _ h => by cases h)).grown h2 h1.size (fun k h => by cases h; exact Nat.le_refl _)
theorem I64.of {x : Int} (h0 : -1000000000000 ≤ x) (h1 : x ≤ 1000000000000) : I64 x := ⟨by omega, by omega⟩
/-- A drawn number. -/
def DrawI (w : World) (e : Ending) (w' : World) : Prop := ∃ n : Int, I64 n ∧ e = .returned (.int .i64 n) ∧ Below w.heap.size w w'
theorem DrawI.mk {w w' : World} {n : Int} (h : I64 n) (hb : Below w.heap.size w w') : DrawI w (.returned (.int .i64 n)) w' := ⟨n, h, rfl, hb⟩
/-- A drawn text. -/
def DrawS (N : Nat) (w : World) (e : Ending) (w' : World) : Prop := ∃ s : ByteArray, s.size ≤ N ∧ e = .returned (.string s) ∧ Below w.heap.size w w'
theorem DrawS.mk {N : Nat} {w w' : World} {s : ByteArray} (h : s.size ≤ N) (hb : Below w.heap.size w w') : DrawS N w (.returned (.string s)) w' := ⟨s, h, rfl, hb⟩
theorem big_any (a : Option Addr) (len cap : Nat) (w : World) :
    Calls Tryd.prog 11 #[.slice a len cap] w fun e w' => e = .returned (.bool (decide ((1048576 : Int) < len))) ∧ w = w' := by
  go_enter Tryd.func11, Tryd.ntmps11
  go_wp2
  go_ret
  exact ⟨rfl, rfl⟩

theorem prod_rng (x y : Nat) (hx : x < 1000000) (hy : y < 2000000) : -1000000000000 ≤ (x : Int) * ((y : Int) - 1000000) ∧ (x : Int) * ((y : Int) - 1000000) ≤ 1000000000000 := by
  have h1 : (x : Int) * ((y : Int) - 1000000) ≤ (x : Int) * 1000000 := Int.mul_le_mul_of_nonneg_left (by omega) (by omega)
  have h2 : (x : Int) * (-1000000) ≤ (x : Int) * ((y : Int) - 1000000) := Int.mul_le_mul_of_nonneg_left (by omega) (by omega)
  omega

set_option maxHeartbeats 1000000 in
theorem drawFormatInt_any (a : Option Addr) (len cap : Nat) (w : World) (hs : Src w w.heap.size a len cap) :
    Calls Tryd.prog 16 #[.slice a len cap] w fun e w' => DrawI w e w' := by
  have HN := Lib.hid (l01New_any a len cap w hs)
  clear hs
  go_enter Tryd.func16, Tryd.ntmps16
  go_wp2_with fail
  refine HN.out.mono ?_
  rintro e w1 ⟨rfl, hc1, hg1⟩
  go_wp2_with fail
  refine (l01Once_any _ _ _ hc1 (by decide) (by decide)).mono ?_
  rintro e w2 ⟨t, rfl, hc2, hg2⟩
  cases t
  · go_wp2_with fail
    refine (l01Number_any _ _ hc2).mono ?_
    rintro e w3 ⟨x, hx, rfl, hc3, hg3⟩
    have HX := Lib.hid hx
    clear hx
    go_wp2
    go_ret
    exact DrawI.mk HX.out (drawn hg1 (hg2.trans hg3))
  · go_wp2_with fail
    refine (l01Below_any _ _ _ hc2 (by decide) (by decide)).mono ?_
    rintro e w3 ⟨x, hx, _, rfl, hc3, hg3⟩
    have hx := hx (by decide)
    go_wp2_with fail
    refine (l01Below_any _ _ _ hc3 (by decide) (by decide)).mono ?_
    rintro e w4 ⟨y, hy, _, rfl, hc4, hg4⟩
    have hy := hy (by decide)
    obtain ⟨p1, p2⟩ := prod_rng x y (by omega) (by omega)
    go_wp2
    go_ret
    exact DrawI.mk (I64.of p1 p2) (drawn hg1 ((hg2.trans hg3).trans hg4))

set_option maxHeartbeats 1000000 in
theorem drawFormatFixed_any (a : Option Addr) (len cap : Nat) (w : World) (hs : Src w w.heap.size a len cap) :
    Calls Tryd.prog 22 #[.slice a len cap] w fun e w' => DrawI w e w' := by
  have HN := Lib.hid (l01New_any a len cap w hs)
  clear hs
  go_enter Tryd.func22, Tryd.ntmps22
  go_wp2_with fail
  refine HN.out.mono ?_
  rintro e w1 ⟨rfl, hc1, hg1⟩
  go_wp2_with fail
  refine (l01Below_any _ _ _ hc1 (by decide) (by decide)).mono ?_
  rintro e w2 ⟨x, hx, _, rfl, hc2, hg2⟩
  clear hx
  by_cases h0 : x = 0
  · subst h0
    go_wp2_with fail
    refine (l01Number_any _ _ hc2).mono ?_
    rintro e w3 ⟨z, hz, rfl, hc3, hg3⟩
    have HX := Lib.hid hz
    clear hz
    go_wp2
    go_ret
    exact DrawI.mk HX.out (drawn hg1 (hg2.trans hg3))
  · by_cases h1 : x = 1
    · subst h1
      have HN2 := Lib.hid (Nums.lit (P := I64) w2 3 [1000000000, 1000000001, -1000000000, -1000000001, 999, 1000, -1] (by unfold I64; decide))
      go_wp2_with fail
      refine (l01PickInt_any I64 _ _ 7 7 _ (hc2.alloc _) (by decide) (by decide) (by have := hc2.lt; omega) (by decide) HN2.out).mono ?_
      rintro e w3 ⟨z, hz, rfl, hc3, hg3⟩
      have HX := Lib.hid hz
      clear hz
      go_wp2
      go_ret
      exact DrawI.mk HX.out (drawn hg1 (hg2.trans ((World.grownBy_alloc w2 _ _).trans hg3)))
    · have hb0 : ((x : Int) == 0) = false := by simp; omega
      have hb1 : ((x : Int) == 1) = false := by simp; omega
      clear h0 h1
      go_wp2_with fail
      refine (l01Below_any _ _ _ hc2 (by decide) (by decide)).mono ?_
      rintro e w3 ⟨z, hz, _, rfl, hc3, hg3⟩
      have hz := hz (by decide)
      go_wp2
      go_ret
      exact DrawI.mk (I64.of (by omega) (by omega)) (drawn hg1 (hg2.trans hg3))

end Go.Proofs.YtakephomkapmjaaDoor
