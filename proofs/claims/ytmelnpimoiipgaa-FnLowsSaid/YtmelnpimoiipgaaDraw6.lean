/-
  What is proved: what the model draws for Lows and Erase.
  Conditions: the bytes can be read.
-/
import Derived.Test.YtmelnpimoiipgaaStream
namespace Go.Proofs.Ytmelnpimoiipgaa
set_option linter.unusedVariables false
open Go.RowKit
attribute [local go_sem] run_store_float run_store_complex unary_negf neg256

def DrawLo (w : World) (e : Ending) (w' : World) : Prop := ∃ v xs k, xs.length ≤ 25000 ∧ e = .returned (.tuple #[v, .float .f32 k]) ∧ FRow w' v xs ∧ Below w.heap.size w w'
theorem DrawLo.mk {w w' : World} {v : Value} {xs : List Nat} {k : Nat} (h : xs.length ≤ 25000) (hr : FRow w' v xs) (hb : Below w.heap.size w w') : DrawLo w (.returned (.tuple #[v, .float .f32 k])) w' := ⟨v, xs, k, h, rfl, hr, hb⟩
def DrawEr (w : World) (e : Ending) (w' : World) : Prop := ∃ v xs p n, (xs.length ≤ 25000 ∧ I64 p ∧ I64 n) ∧ e = .returned (.tuple #[v, .int .i64 p, .int .i64 n]) ∧ FRow w' v xs ∧ Below w.heap.size w w'
theorem DrawEr.mk {w w' : World} {v : Value} {xs : List Nat} {p n : Int} (h : xs.length ≤ 25000 ∧ I64 p ∧ I64 n) (hr : FRow w' v xs) (hb : Below w.heap.size w w') : DrawEr w (.returned (.tuple #[v, .int .i64 p, .int .i64 n])) w' := ⟨v, xs, p, n, h, rfl, hr, hb⟩
/-- A list that can be read still can when a cursor has moved that is newer than it, or that reads elsewhere. -/
theorem FRow.cur {w w' : World} {v : Value} {xs : List Nat} {b : Nat} (h : FRow w v xs) (hg : w.grownBy w' (some b)) (hc : Cur w b) : FRow w' v xs := by
  rcases h with h | ⟨g, o, cap, rfl, hcap, hcell⟩
  · exact .inl h
  · refine .inr ⟨g, o, cap, rfl, hcap, fun i hi => hg.cell (hcell i hi) ?_⟩
    intro e
    have e' : g = b := Option.some.inj e
    subst e'
    obtain ⟨a, len, cp, j, hh, _, _, _, _, hb⟩ := hc
    have h1 := hcell i hi
    unfold World.cell? at h1
    rw [hb] at h1
    simp only [Option.isSome_none, Bool.false_eq_true, if_false] at h1
    rcases (by omega : o + i = 0 ∨ o + i = 1 ∨ o + i = 2 ∨ 3 ≤ o + i) with e | e | e | e
    · rw [e] at h1; simp at h1
    · rw [e] at h1; simp at h1
    · rw [e] at h1; simp at h1
    · rw [Array.getElem?_eq_none (by simpa using e)] at h1; cases h1
set_option maxHeartbeats 2000000 in
theorem drawLows_any (a : Option Addr) (len cap : Nat) (w : World) (hs : Src w w.heap.size a len cap) :
    Calls Try.prog 14 #[.slice a len cap] w fun e w' => DrawLo w e w' := by
  have HN := Lib.hid (l01New_any a len cap w hs)
  clear hs
  go_enter Try.func14, Try.ntmps14
  go_wp2_with fail
  refine HN.out.mono ?_
  rintro e w1 ⟨rfl, hc1, hg1⟩
  go_wp2_with fail
  refine (l06Stream_any _ _ hc1).mono ?_
  rintro e w2 ⟨v, ys, n, ⟨hy, hn1, hn3⟩, rfl, hr, hc2, hg2⟩
  have HR := Lib.hid hr
  have hb2 := drawn hg1 hg2
  clear hr hc1 hg1 hg2
  go_wp2_with fail
  refine (l01Once_any _ _ _ hc2 (by decide) (by decide)).mono ?_
  rintro e w3 ⟨t, rfl, hc3, hg3⟩
  have HR3 := Lib.hid (HR.out.cur hg3 hc2)
  have hb3 : Below w.heap.size w w3 := hb2.grown hg3 hb2.size (fun r e => by cases e; exact Nat.le_refl _)
  clear HR hb2 hg3 hc2
  cases t
  · go_wp2_with fail
    refine (l01Below_any _ _ _ hc3 (by decide) (by decide)).mono ?_
    rintro e w4 ⟨x, hx, _, rfl, hc4, hg4⟩
    have hx := hx (by decide)
    have HR4 := Lib.hid (HR3.out.cur hg4 hc3)
    have hb4 : Below w.heap.size w w4 := hb3.grown hg4 hb3.size (fun r e => by cases e; exact Nat.le_refl _)
    clear HR3 hb3 hg4 hc3
    go_wp2
    go_ret2
    exact DrawLo.mk hy HR4.out hb4
  · go_wp2_with fail
    refine (l01Odd_any _ _ hc3).mono ?_
    rintro e w4 ⟨x, rfl, hc4, hg4⟩
    have HR4 := Lib.hid (HR3.out.cur hg4 hc3)
    have hb4 : Below w.heap.size w w4 := hb3.grown hg4 hb3.size (fun r e => by cases e; exact Nat.le_refl _)
    obtain ⟨r, n4, hq, _⟩ := conv32 x w4
    clear HR3 hb3 hg4 hc3
    go_wp2
    go_ret2
    exact DrawLo.mk hy (HR4.out.below (belowDN (Below.refl _ _) n4)) (belowDN hb4 n4)
set_option maxHeartbeats 2000000 in
theorem drawErase_any (a : Option Addr) (len cap : Nat) (w : World) (hs : Src w w.heap.size a len cap) :
    Calls Try.prog 23 #[.slice a len cap] w fun e w' => DrawEr w e w' := by
  have HN := Lib.hid (l01New_any a len cap w hs)
  clear hs
  go_enter Try.func23, Try.ntmps23
  go_wp2_with fail
  refine HN.out.mono ?_
  rintro e w1 ⟨rfl, hc1, hg1⟩
  go_wp2_with fail
  refine (l06Stream_any _ _ hc1).mono ?_
  rintro e w2 ⟨v, ys, n, ⟨hy, hn1, hn3⟩, rfl, hr, hc2, hg2⟩
  have HR := Lib.hid hr
  have hb2 := drawn hg1 hg2
  obtain ⟨av, cv, hav⟩ := hr.lenv
  subst hav
  clear hr hc1 hg1 hg2
  go_wp2_with fail
  refine (l01Below_any _ _ _ hc2 (by omega) (by omega)).mono ?_
  rintro e w3 ⟨x, hx, _, rfl, hc3, hg3⟩
  have hx := hx (by omega)
  have HR3 := Lib.hid (HR.out.cur hg3 hc2)
  have hb3 : Below w.heap.size w w3 := hb2.grown hg3 hb2.size (fun r e => by cases e; exact Nat.le_refl _)
  clear HR hb2 hg3 hc2
  go_wp2_with fail
  refine (l01Once_any _ _ _ hc3 (by decide) (by decide)).mono ?_
  rintro e w4 ⟨t, rfl, hc4, hg4⟩
  have HR4 := Lib.hid (HR3.out.cur hg4 hc3)
  have hb4 : Below w.heap.size w w4 := hb3.grown hg4 hb3.size (fun r e => by cases e; exact Nat.le_refl _)
  clear HR3 hb3 hg4 hc3
  cases t
  · go_wp2_with fail
    refine (l01Once_any _ _ _ hc4 (by decide) (by decide)).mono ?_
    rintro e w5 ⟨t, rfl, hc5, hg5⟩
    have HR5 := Lib.hid (HR4.out.cur hg5 hc4)
    have hb5 : Below w.heap.size w w5 := hb4.grown hg5 hb4.size (fun r e => by cases e; exact Nat.le_refl _)
    clear HR4 hb4 hg5 hc4
    cases t
    · go_wp2_with fail
      refine (l01Below_any _ _ _ hc5 (by decide) (by decide)).mono ?_
      rintro e w6 ⟨z, hz, _, rfl, hc6, hg6⟩
      have hz := hz (by decide)
      have HR6 := Lib.hid (HR5.out.cur hg6 hc5)
      have hb6 : Below w.heap.size w w6 := hb5.grown hg6 hb5.size (fun r e => by cases e; exact Nat.le_refl _)
      clear HR5 hb5 hg6 hc5
      go_wp2
      go_ret3
      exact DrawEr.mk ⟨hy, ⟨by omega, by omega⟩, ⟨by omega, by omega⟩⟩ HR6.out hb6
    · have HNU := Lib.hid (Nums.lit (P := I64) w5 3 [9223372036854775807, -9223372036854775808] (by unfold I64; decide))
      have hcl := hc5.lt
      go_wp2_with fail
      refine (l01PickInt_any I64 _ _ 2 2 _ (hc5.alloc _) (by decide) (by decide) (by omega) (by decide) HNU.out).mono ?_
      rintro e w6 ⟨z, hz, rfl, hc6, hg6⟩
      have HZ := Lib.hid hz
      have HR6 := Lib.hid (HR5.out.cur ((World.grownBy_alloc w5 _ _).trans hg6) hc5)
      have hb6 : Below w.heap.size w w6 := hb5.grown ((World.grownBy_alloc w5 _ _).trans hg6) hb5.size (fun r e => by cases e; exact Nat.le_refl _)
      clear HR5 hb5 hg6 hc5 hz
      go_wp2_with fail
      refine (l01Below_any _ _ _ hc6 (by decide) (by decide)).mono ?_
      rintro e w7 ⟨z2, hz2, _, rfl, hc7, hg7⟩
      have hz2 := hz2 (by decide)
      have HR7 := Lib.hid (HR6.out.cur hg7 hc6)
      have hb7 : Below w.heap.size w w7 := hb6.grown hg7 hb6.size (fun r e => by cases e; exact Nat.le_refl _)
      clear HR6 hb6 hg7 hc6
      go_wp2
      go_ret3
      exact DrawEr.mk ⟨hy, HZ.out, ⟨by omega, by omega⟩⟩ HR7.out hb7
  · have HNU := Lib.hid (Nums.lit (P := I64) w4 3 [-1, 280, 281] (by unfold I64; decide))
    have hcl := hc4.lt
    go_wp2_with fail
    refine (l01PickInt_any I64 _ _ 3 3 _ (hc4.alloc _) (by decide) (by decide) (by omega) (by decide) HNU.out).mono ?_
    rintro e w6 ⟨z, hz, rfl, hc6, hg6⟩
    have HZ := Lib.hid hz
    have HR6 := Lib.hid (HR4.out.cur ((World.grownBy_alloc w4 _ _).trans hg6) hc4)
    have hb6 : Below w.heap.size w w6 := hb4.grown ((World.grownBy_alloc w4 _ _).trans hg6) hb4.size (fun r e => by cases e; exact Nat.le_refl _)
    clear HR4 hb4 hg6 hc4 hz
    go_wp2
    go_ret3
    exact DrawEr.mk ⟨hy, ⟨by omega, by omega⟩, HZ.out⟩ HR6.out hb6
end Go.Proofs.Ytmelnpimoiipgaa
