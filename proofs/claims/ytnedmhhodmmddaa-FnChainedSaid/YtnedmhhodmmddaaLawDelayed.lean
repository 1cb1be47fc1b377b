/-
  What is proved: the walk of the law FnDelayed.
  Conditions: none beyond the argument's own.
-/
import Derived.Test.YtnedmhhodmmddaaDrawF32
import Derived.Test.YtnedmhhodmmddaaFSame
import Derived.Test.YtnedmhhodmmddaaDelay
namespace Go.Proofs.Ytnedmhhodmmddaa
set_option linter.unusedVariables false
open Go.RowKit
attribute [local go_sem] run_store_float run_store_complex unary_negf neg256

theorem delayed_zero0 (xs : List Nat) : delayed xs 0 = xs := by
  refine List.ext_getElem (delayed_len _ _) fun i h1 h2 => ?_
  rw [delayed_get, if_neg (by omega), List.getD_eq_getElem?_getD, Nat.mul_zero, Nat.sub_zero, List.getElem?_eq_getElem h2]; rfl
theorem delayed_twice (xs : List Nat) (a b : Nat) : delayed (delayed xs a) b = delayed xs (a + b) := by
  refine List.ext_getElem (by rw [delayed_len, delayed_len, delayed_len]) fun i h1 h2 => ?_
  rw [delayed_get, delayed_get]
  rw [delayed_len, delayed_len] at h1
  by_cases hb : i < 4 * b
  · rw [if_pos hb, if_pos (by omega)]
  · rw [if_neg hb, List.getD_eq_getElem?_getD, List.getElem?_eq_getElem (by rw [delayed_len]; omega), delayed_get]
    by_cases ha : i - 4 * b < 4 * a
    · rw [if_pos ha, if_pos (by omega)]; rfl
    · rw [if_neg ha, if_neg (by omega)]
      show xs.getD _ 0 = _
      congr 1
      omega
def DrawDl (w : World) (e : Ending) (w' : World) : Prop := ∃ v xs n, xs.length ≤ 5000 ∧ I64 n ∧ e = .returned (.tuple #[v, .int .i64 n]) ∧ FRow w' v xs ∧ Below w.heap.size w w'
theorem DrawDl.mk {w w' : World} {v : Value} {xs : List Nat} {n : Int} (hl : xs.length ≤ 5000) (hn : I64 n) (hr : FRow w' v xs) (hb : Below w.heap.size w w') : DrawDl w (.returned (.tuple #[v, .int .i64 n])) w' := ⟨v, xs, n, hl, hn, rfl, hr, hb⟩
theorem samp_far {w w' : World} {base g n cap b : Nat} {xs : List Nat} (h : OwnF w base (.slice (some ⟨g, 0, none⟩) n cap) xs) (hg : w.grownBy w' (some b)) (hb : b < base) : OwnF w' base (.slice (some ⟨g, 0, none⟩) n cap) xs :=
  h.kept hg (.inr (by intro e; have h1 : g = b := Option.some.inj e; have := (h.lt g rfl).1; omega))
set_option maxHeartbeats 1000000 in
theorem drawDelay_any (a : Option Addr) (len cap : Nat) (w : World) (hs : Src w w.heap.size a len cap) :
    Calls Try.prog 49 #[.slice a len cap] w fun e w' => DrawDl w e w' := by
  have HN := Lib.hid (l01New_any a len cap w hs)
  clear hs
  go_enter Try.func49, Try.ntmps49
  go_wp2_with fail
  refine HN.out.mono ?_
  rintro e w1 ⟨rfl, hc1, hg1⟩
  have hlt := hc1.lt
  go_wp2_with fail
  refine (l03Samples_any _ _ hc1).mono ?_
  rintro e w2 ⟨g, cp, ys, rfl, hyl, ho2, hc2, hg2⟩
  have HO2 := Lib.hid ho2
  clear ho2
  go_wp2_with fail
  refine (l01Once_any _ _ _ hc2 (by decide) (by decide)).mono ?_
  rintro e w3 ⟨t, rfl, hc3, hg3⟩
  have HO3 := Lib.hid (samp_far HO2.out hg3 hlt)
  clear HO2
  cases t
  · go_wp2_with fail
    refine (l01Below_any _ _ _ hc3 (by decide) (by decide)).mono ?_
    rintro e w4 ⟨x, hx, _, rfl, hc4, hg4⟩
    have hx := hx (by decide)
    have HF := Lib.hid (samp_far HO3.out hg4 hlt).new.row
    go_wp2
    go_ret2
    exact DrawDl.mk hyl ⟨by omega, by omega⟩ HF.out (drawn hg1 ((hg2.trans hg3).trans hg4))
  · have HNL := Lib.hid (Nums.lit (P := I64) w3 3 [-1, 64, 65, 9223372036854775807] (by unfold I64; decide))
    go_wp2_with fail
    refine (l01PickInt_any I64 _ _ 4 4 _ (hc3.alloc _) (by decide) (by decide) (by have := hc3.lt; omega) (by decide) HNL.out).mono ?_
    rintro e w4 ⟨z, hz, rfl, hc4, hg4⟩
    have HZ := Lib.hid hz
    have HF := Lib.hid (samp_far (HO3.out.alloc _) hg4 hlt).new.row
    clear hz
    go_wp2
    go_ret2
    exact DrawDl.mk hyl HZ.out HF.out (drawn hg1 ((hg2.trans hg3).trans ((World.grownBy_alloc w3 _ _).trans hg4)))
theorem delayOk_no {n : Int} (h : delayOk n = false) : n < 0 ∨ 64 < n := by unfold delayOk at h; simp at h; omega
theorem delayOk_yes {n : Int} (h : delayOk n = true) : 0 ≤ n ∧ n ≤ 64 := by unfold delayOk at h; simp at h; omega
end Go.Proofs.Ytnedmhhodmmddaa
