/-
  What is proved: the walk of the law FnDelayed.
  Conditions: none beyond the argument's own.
-/
import Derived.Test.YtnkmcjiohmnfhaaDrawF32
import Derived.Test.YtnkmcjiohmnfhaaFSame
import Derived.Test.YtnkmcjiohmnfhaaDelay
namespace Go.Proofs.Ytnkmcjiohmnfhaa
set_option linter.unusedVariables false
open Go.RowKit
attribute [local go_sem] run_store_float run_store_complex unary_negf neg256

theorem delayed_zero0 (xs : List Nat) : delayed xs 0 = xs := by
  refine List.ext_getElem (delayed_len _ _) fun i h1 h2 => ?_
  rw [delayed_get, if_neg (by omega), List.getD_eq_getElem?_getD, Nat.mul_zero, Nat.sub_zero, List.getElem?_eq_getElem h2]; rfl
theorem delayed_twice (xs : List Nat) (a b : Nat) : delayed (delayed xs a) b = delayed xs (a + b) := by
  refine List.ext_getElem (by rw [delayed_len, delayed_len, delayed_len]) fun i h1 h2 => ?_
  rw [delayed_get, delayed_get]
  rw [delayed_len, delayed_len] at h1
  by_cases hb : i < 4 * b
  · rw [if_pos hb, if_pos (by omega)]
  · rw [if_neg hb, List.getD_eq_getElem?_getD, List.getElem?_eq_getElem (by rw [delayed_len]; omega), delayed_get]
    by_cases ha : i - 4 * b < 4 * a
    · rw [if_pos ha, if_pos (by omega)]; rfl
    · rw [if_neg ha, if_neg (by omega)]
      show xs.getD _ 0 = _
      congr 1
      omega
def DrawDl (w : World) (e : Ending) (w' : World) : Prop := ∃ v xs n, xs.length ≤ 5000 ∧ I64 n ∧ e = .returned (.tuple #[v, .int .i64 n]) ∧ FRow w' v xs ∧ Below w.heap.size w w'
theorem DrawDl.mk {w w' : World} {v : Value} {xs : List Nat} {n : Int} (hl : xs.length ≤ 5000) (hn : I64 n) (hr : FRow w' v xs) (hb : Below w.heap.size w w') : DrawDl w (.returned (.tuple #[v, .int .i64 n])) w' := ⟨v, xs, n, hl, hn, rfl, hr, hb⟩
theorem samp_far {w w' : World} {base g n cap b : Nat} {xs : List Nat} (h : OwnF w base (.slice (some ⟨g, 0, none⟩) n cap) xs) (hg : w.grownBy w' (some b)) (hb : b < base) : OwnF w' base (.slice (some ⟨g, 0, none⟩) n cap) xs :=
  h.kept hg (.inr (by intro e; have h1 : g = b := Option.some.inj e; have := (h.lt g rfl).1; omega))
set_option maxHeartbeats 1000000 in
theorem drawDelay_any (a : Option Addr) (len cap : Nat) (w : World) (hs : Src w w.heap.size a len cap) :
    Calls Try.prog 30 #[.slice a len cap] w fun e w' => DrawDl w e w' := by
  have HN := Lib.hid (l01New_any a len cap w hs)
  clear hs
  go_enter Try.func30, Try.ntmps30
  go_wp2_with fail
  refine HN.out.mono ?_
  rintro e w1 ⟨rfl, hc1, hg1⟩
  have hlt := hc1.lt
  go_wp2_with fail
  refine (l03Samples_any _ _ hc1).mono ?_
  rintro e w2 ⟨g, cp, ys, rfl, hyl, ho2, hc2, hg2⟩
  have HO2 := Lib.hid ho2
  clear ho2
  go_wp2_with fail
  refine (l01Once_any _ _ _ hc2 (by decide) (by decide)).mono ?_
  rintro e w3 ⟨t, rfl, hc3, hg3⟩
  have HO3 := Lib.hid (samp_far HO2.out hg3 hlt)
  clear HO2
  cases t
  · go_wp2_with fail
    refine (l01Below_any _ _ _ hc3 (by decide) (by decide)).mono ?_
    rintro e w4 ⟨x, hx, _, rfl, hc4, hg4⟩
    have hx := hx (by decide)
    have HF := Lib.hid (samp_far HO3.out hg4 hlt).new.row
    go_wp2
    go_ret2
    exact DrawDl.mk hyl ⟨by omega, by omega⟩ HF.out (drawn hg1 ((hg2.trans hg3).trans hg4))
  · have HNL := Lib.hid (Nums.lit (P := I64) w3 3 [-1, 64, 65, 9223372036854775807] (by unfold I64; decide))
    go_wp2_with fail
    refine (l01PickInt_any I64 _ _ 4 4 _ (hc3.alloc _) (by decide) (by decide) (by have := hc3.lt; omega) (by decide) HNL.out).mono ?_
    rintro e w4 ⟨z, hz, rfl, hc4, hg4⟩
    have HZ := Lib.hid hz
    have HF := Lib.hid (samp_far (HO3.out.alloc _) hg4 hlt).new.row
    clear hz
    go_wp2
    go_ret2
    exact DrawDl.mk hyl HZ.out HF.out (drawn hg1 ((hg2.trans hg3).trans ((World.grownBy_alloc w3 _ _).trans hg4)))
theorem delayOk_no {n : Int} (h : delayOk n = false) : n < 0 ∨ 64 < n := by unfold delayOk at h; simp at h; omega
theorem delayOk_yes {n : Int} (h : delayOk n = true) : 0 ≤ n ∧ n ≤ 64 := by unfold delayOk at h; simp at h; omega
set_option maxHeartbeats 4000000 in
theorem walk_FnDelayed (a0 : Option Addr) (len0 cap0 : Nat) (z0 : List Int) (w : World) (w0 : IsRow .u8 w a0 len0 cap0 z0) :
    Calls Try.prog 7 #[.slice a0 len0 cap0] w fun e w' => e = .returned (.bool true) ∧ Below w.heap.size w w' := by
  by_cases hbig : 1048576 < len0
  · have hbb : decide ((1048576 : Int) < len0) = true := by simp; omega
    have HB := Lib.hid (big_any a0 len0 cap0 w)
    rw [hbb] at HB
    clear hbb
    go_enter Try.func7, Try.ntmps7
    go_wp2_with fail
    refine HB.out.mono ?_
    rintro e w1 ⟨rfl, rfl⟩
    go_wp2
    go_ret
    exact ⟨rfl, Below.refl _ _⟩
  · have hbb : decide ((1048576 : Int) < len0) = false := by simp; omega
    have HB := Lib.hid (big_any a0 len0 cap0 w)
    rw [hbb] at HB
    have HD := Lib.hid (drawDelay_any a0 len0 cap0 w (w0.src (by omega)))
    clear hbb w0
    go_enter Try.func7, Try.ntmps7
    go_wp2_with fail
    refine HB.out.mono ?_
    rintro e w1 ⟨rfl, rfl⟩
    go_wp2_with fail
    refine HD.out.mono ?_
    rintro e w1 ⟨v, xs, n, hxl, hn, rfl, hr, hb1⟩
    have HR := Lib.hid hr
    have HI := Lib.hid hn
    clear hr hn HD HB
    go_wp2_with fail
    refine (delay_any v xs 0 w1 HR.out (by unfold I64; decide) (by omega)).mono ?_
    rintro e w2 ⟨v2, y2, rfl, h2, hn2, hb2⟩
    have hb12 := below_trans hb1 hb2 hb1.size
    have HR2 := Lib.hid (HR.out.below hb2)
    have N2 := Lib.hid hn2
    have Y2 := Lib.hid (show y2 = xs by rw [h2]; simpa [delayOk] using delayed_zero0 xs)
    have hok0 : delayOk 0 = true := by decide
    rw [hok0]
    clear HR hn2 h2 hok0
    go_wp2_with fail
    refine (delay_any v xs n w2 HR2.out HI.out (by omega)).mono ?_
    rintro e w3 ⟨v3, y3, rfl, h3, hn3, hb3⟩
    have hb13 := below_trans hb12 hb3 hb12.size
    have HR3 := Lib.hid (HR2.out.below hb3)
    have N23 := Lib.hid (N2.out.below hb3)
    have N3 := Lib.hid hn3
    have Y3 := Lib.hid h3
    have hy3 : y3.length ≤ xs.length := by
      rw [show y3 = _ from h3]; split
      · rw [delayed_len]; exact Nat.le_refl _
      · simp
    clear HR2 N2 hn3 h3
    go_wp2_with fail
    refine (delay_any v3 y3 2 w3 N3.out.row (by unfold I64; decide) (by omega)).mono ?_
    rintro e w4 ⟨v4, y4, rfl, h4, hn4, hb4⟩
    have hb14 := below_trans hb13 hb4 hb13.size
    have HR4 := Lib.hid (HR3.out.below hb4)
    have N24 := Lib.hid (N23.out.below hb4)
    have N4 := Lib.hid hn4
    have Y4 := Lib.hid (show y4 = delayed y3 2 by rw [h4]; simp [delayOk])
    have hok2 : delayOk 2 = true := by decide
    rw [hok2]
    clear HR3 N23 hn4 h4 hok2
    go_wp2_with fail
    refine (delay_any v xs (wrap64 (n + 2)) w4 HR4.out (wrap_rng _) (by omega)).mono ?_
    rintro e w5 ⟨v5, y5, rfl, h5, hn5, hb5⟩
    have hb15 := below_trans hb14 hb5 hb14.size
    have HR5 := Lib.hid (HR4.out.below hb5)
    have N25 := Lib.hid (N24.out.below hb5)
    have N45 := Lib.hid (N4.out.below hb5)
    have N5 := Lib.hid hn5
    have Y5 := Lib.hid h5
    clear HR4 N24 N4 hn5 h5
    go_wp2_with fail
    refine (sameSamples_sm v2 v y2 xs w5 N25.out.row HR5.out (by rw [Y2.out]; exact SmL.refl _) (by rw [Y2.out]; omega)).mono ?_
    rintro e w6 ⟨rfl, q6, hq6⟩
    have hb56 : Below w5.heap.size w5 w6 := by rw [hq6]; exact belowDN (Below.refl _ _) _
    have hb16 := below_trans hb15 hb56 hb15.size
    have N46 := Lib.hid (N45.out.below hb56)
    have N56 := Lib.hid (N5.out.below hb56)
    clear hq6 N25 N45 N5 HR5 hb56
    cases hd : delayOk n with
    | false =>
      have hn2 := delayOk_no hd
      clear hd
      rcases hn2 with hn2 | hn2
      all_goals
        go_wp2
        go_ret
        exact ⟨rfl, hb16⟩
    | true =>
      obtain ⟨hn0, hn64⟩ := delayOk_yes hd
      cases hd2 : delayOk (wrap64 (n + 2)) with
      | false =>
        have HD := Lib.hid hd
        clear hd hd2
        go_wp2
        go_ret
        exact ⟨rfl, hb16⟩
      | true =>
        have hw2 : wrap64 (n + 2) = n + 2 := by unfold wrap64; omega
        have hY : y4 = y5 := by
          rw [Y4.out, show y5 = _ from Y5.out, show y3 = _ from Y3.out, hd, hd2, hw2]
          simp only [if_true]
          rw [delayed_twice]
          congr 1
          omega
        have HY := Lib.hid hY
        have hy4 : y4.length ≤ 5000 := by rw [Y4.out, delayed_len]; omega
        have HS := Lib.hid (sameSamples_sm v4 v5 y4 y5 w6 N46.out.row N56.out.row (by rw [HY.out]; exact SmL.refl _) (by omega))
        clear hd hd2 hw2 hY hy4
        go_wp2_with fail
        refine HS.out.mono ?_
        rintro e w7 ⟨rfl, q7, hq7⟩
        have hb67 : Below w6.heap.size w6 w7 := by rw [hq7]; exact belowDN (Below.refl _ _) _
        have hb17 := below_trans hb16 hb67 hb16.size
        clear hq7
        go_wp2
        go_ret
        exact ⟨rfl, hb17⟩
end Go.Proofs.Ytnkmcjiohmnfhaa
