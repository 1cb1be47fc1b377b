/-
  What is proved: the walk of the law FnErased.
  Conditions: none beyond the argument's own.
-/
import Derived.Test.YtmelnpimoiipgaaDraw6
import Derived.Test.YtmelnpimoiipgaaImplErase
import Derived.Test.YtmelnpimoiipgaaPkEq
import Derived.BigQuiet
import Derived.Deep.QuietTactic
namespace Go.Proofs.Ytmelnpimoiipgaa
set_option linter.unusedVariables false
open Go.RowKit
attribute [local go_sem] run_store_float run_store_complex unary_negf neg256

theorem erased_idem (xs : List Nat) (p n : Int) : erased (erased xs p n) p n = erased xs p n := by
  refine List.ext_getElem (by rw [erased_len]) fun i h1 h2 => ?_
  have hx : i < xs.length := by rwa [erased_len] at h2
  rw [erased_get _ p n i h1 h2, erased_get xs p n i h2 hx]
  split <;> rfl
theorem gone_yes {p n : Int} {k : Nat} (h1 : 0 ≤ n) (h2 : n ≤ 280) (h3 : p ≤ (k : Int)) (h4 : (k : Int) - n < p) : gone p n k = true := by
  unfold gone eraseOk; simp [h1, h2, h3, h4]
theorem gone_no {p n : Int} {k : Nat} (h : ¬ (0 ≤ n ∧ n ≤ 280 ∧ p ≤ (k : Int) ∧ (k : Int) - n < p)) : gone p n k = false := by
  cases hg : gone p n k with
  | false => rfl
  | true => unfold gone eraseOk at hg; simp at hg; exact absurd ⟨hg.1.1, hg.1.2, hg.2.1, hg.2.2⟩ h
theorem lit1 (W : World) : FRow (W.alloc (.cells #[.float .f32 1065353216] 25)) (.slice (some ⟨W.heap.size, 0, none⟩) 1 1) [1065353216] :=
  .inr ⟨_, 0, 1, rfl, Nat.le_refl _, fun i hi => by
    have : i = 0 := by simpa using hi
    subst this
    exact lit_cell 1065353216 W⟩
set_option maxHeartbeats 8000000 in
set_option maxRecDepth 100000 in
theorem walk_FnErased (a0 : Option Addr) (len0 cap0 : Nat) (z0 : List Int) (w : World) (w0 : IsRow .u8 w a0 len0 cap0 z0) :
    Calls Try.prog 5 #[.slice a0 len0 cap0] w fun e w' => e = .returned (.bool true) ∧ Below w.heap.size w w' := by
  by_cases hbig : 1048576 < len0
  · have hbb : decide ((1048576 : Int) < len0) = true := by simp; omega
    have HB := Lib.hid (big_any a0 len0 cap0 w)
    rw [hbb] at HB
    clear hbb
    go_enter Try.func5, Try.ntmps5
    go_wp2_with fail
    refine HB.out.mono ?_
    rintro e w1 ⟨rfl, rfl⟩
    go_wp2
    go_ret
    exact ⟨rfl, Below.refl _ _⟩
  · have hbb : decide ((1048576 : Int) < len0) = false := by simp; omega
    have HB := Lib.hid (big_any a0 len0 cap0 w)
    rw [hbb] at HB
    have HD := Lib.hid (drawErase_any a0 len0 cap0 w (w0.src (by omega)))
    clear hbb w0
    go_enter Try.func5, Try.ntmps5
    go_wp2_with fail
    refine HB.out.mono ?_
    rintro e w1 ⟨rfl, rfl⟩
    go_wp2_with fail
    refine HD.out.mono ?_
    rintro e w1 ⟨v, xs, p, n, ⟨hl, hp, hn⟩, rfl, hr, hb1⟩
    have HIP := Lib.hid (And.intro hp hn)
    have HE1 := Lib.hid (erase_any v xs p n w1 hr hp hn (by omega))
    have HR := Lib.hid hr
    obtain ⟨av, cv, hav⟩ := hr.lenv
    subst hav
    clear hr hp hn HD HB
    go_wp2_with fail
    refine HE1.out.mono ?_
    rintro e w2 ⟨v2, rfl, hn2, hb2⟩
    have HR2 := Lib.hid (HR.out.below hb2)
    have HX2 := Lib.hid hn2.row
    have hb12 := below_trans hb1 hb2 hb1.size
    have HE2 := Lib.hid (erase_any v2 (erased xs p n) p n w2 hn2.row HIP.out.1 HIP.out.2 (by rw [erased_len]; omega))
    rw [erased_idem] at HE2
    obtain ⟨a2, c2, hv2⟩ := hn2.row.lenv
    rw [erased_len] at hv2
    subst hv2
    clear hn2 hb2 hb1 HE1 HR
    go_wp2_with fail
    refine HE2.out.mono ?_
    rintro e w3 ⟨v3, rfl, hn3, hb3⟩
    have HR3 := Lib.hid (HR2.out.below hb3)
    have HX3 := Lib.hid (HX2.out.below hb3)
    have hb13 := below_trans hb12 hb3 hb12.size
    have HSS := Lib.hid (sameSamples_sm v3 (.slice a2 xs.length c2) (erased xs p n) (erased xs p n) w3 hn3.row HX3.out (SmL.refl _) (by rw [erased_len]; omega))
    clear hn3 hb3 HE2 HR2 HX2 hb12
    go_wp2_with fail
    refine HSS.out.mono ?_
    rintro e w4 ⟨rfl, q4, rfl⟩
    have hr4 := HR3.out.below (belowDN (Below.refl _ _) q4)
    have hx4 := HX3.out.below (belowDN (Below.refl _ _) q4)
    have hb14 := belowDN hb13 q4
    clear HSS HR3 HX3 hb13
    generalize w3.drewN q4 = w4 at *
    obtain ⟨ta, tc, hvs, hcs⟩ := hr4.any
    obtain ⟨ax, cx, hvx, hcx⟩ := hx4.any
    cases hvs
    rw [erased_len] at hvx
    cases hvx
    have HCS := Lib.hid hcs
    have HCX := Lib.hid hcx
    have hz0 : FloatKind.f32.format.order 0 0 = some .eq := by decide +kernel
    clear hcs hcx hr4 hx4
    go_wp2
    go_loopw [7] (fun i wr => ∃ k q : Nat, k ≤ xs.length ∧ i = .int .i64 (k : Int) ∧ wr = w4.drewN q) (fun i _ => xs.length - (intOf i).toNat)
    case atStart => exact ⟨0, 0, Nat.zero_le _, rfl, rfl⟩
    case round =>
      obtain ⟨k, q, hk, rfl, rfl⟩ := hrel
      by_cases hlt : k < xs.length
      · have hltx : k < (erased xs p n).length := by rw [erased_len]; exact hlt
        obtain ⟨g1, o1, rfl, hcap1, hc1⟩ := HCS.out k hlt
        obtain ⟨g2, o2, rfl, hcap2, hc2⟩ := HCX.out k hltx
        rw [erased_len] at hcap2
        rw [erased_get xs p n k hltx hlt] at hc2
        have HS := fun W => Lib.hid (same32_sm xs[k] xs[k] W (Sm.refl _))
        have hpI := HIP.out.1
        have hnI := HIP.out.2
        unfold I64 at hpI hnI
        by_cases hall : 0 ≤ n ∧ n ≤ 280 ∧ p ≤ (k : Int) ∧ (k : Int) - n < p
        · rw [if_pos (gone_yes hall.1 hall.2.1 hall.2.2.1 hall.2.2.2)] at hc2
          obtain ⟨h1, h2, h3, h4⟩ := hall
          clear hltx
          generalize xs[k] = x at *
          go_wp2
          go_quiet (fail)
          go_wp2
          go_roundw
          case rel => exact ⟨k + 1, _, by omega, by go_num, rfl⟩
          case measure => simp [intOf]; omega
        · rw [if_neg (by rw [gone_no hall]; decide)] at hc2
          clear hltx
          generalize xs[k] = x at *
          have hway : n < 0 ∨ (0 ≤ n ∧ 280 < n) ∨ (0 ≤ n ∧ n ≤ 280 ∧ (k : Int) < p) ∨ (0 ≤ n ∧ n ≤ 280 ∧ p ≤ (k : Int) ∧ p ≤ (k : Int) - n) := by omega
          clear hall
          rcases hway with h1 | ⟨h1, h2⟩ | ⟨h1, h2, h3⟩ | ⟨h1, h2, h3, h4⟩
          · have b1 : decide (0 ≤ n) = false := decide_eq_false (by omega)
            go_wp2
            go_quiet (first | (go_at_call 24; exact qt_ex (HS _).out))
            go_wp2
            go_roundw
            case rel => exact ⟨k + 1, _, by omega, by go_num, rfl⟩
            case measure => simp [intOf]; omega
          · have b1 : decide (0 ≤ n) = true := decide_eq_true (by omega)
            have b2 : decide (n ≤ 280) = false := decide_eq_false (by omega)
            go_wp2
            go_quiet (first | (go_at_call 24; exact qt_ex (HS _).out))
            go_wp2
            go_roundw
            case rel => exact ⟨k + 1, _, by omega, by go_num, rfl⟩
            case measure => simp [intOf]; omega
          · have b1 : decide (0 ≤ n) = true := decide_eq_true (by omega)
            have b2 : decide (n ≤ 280) = true := decide_eq_true (by omega)
            have b3 : decide (p ≤ (k : Int)) = false := decide_eq_false (by omega)
            go_wp2
            go_quiet (first | (go_at_call 24; exact qt_ex (HS _).out))
            go_wp2
            go_roundw
            case rel => exact ⟨k + 1, _, by omega, by go_num, rfl⟩
            case measure => simp [intOf]; omega
          · have b1 : decide (0 ≤ n) = true := decide_eq_true (by omega)
            have b2 : decide (n ≤ 280) = true := decide_eq_true (by omega)
            have b3 : decide (p ≤ (k : Int)) = true := decide_eq_true (by omega)
            have b4 : decide ((k : Int) - n < p) = false := decide_eq_false (by omega)
            go_wp2
            go_quiet (first | (go_at_call 24; exact qt_ex (HS _).out))
            go_wp2
            go_roundw
            case rel => exact ⟨k + 1, _, by omega, by go_num, rfl⟩
            case measure => simp [intOf]; omega
      · have HL1 := Lib.hid (lit1 (w4.drewN q))
        have HE3 := fun W h => Lib.hid (erase_any (.slice (some ⟨w4.heap.size, 0, none⟩) 1 1) [1065353216] 0 0 W h ⟨by decide, by decide⟩ ⟨by decide, by decide⟩ (by decide))
        go_wp2_with fail
        refine (HE3 _ HL1.out).out.mono ?_
        rintro e w7 ⟨v7, rfl, hn7, hb7⟩
        obtain ⟨a7, c7, hv7⟩ := hn7.row.lenv
        rw [erased_len] at hv7
        subst hv7
        have hb8 := below_trans ((belowDN hb14 q).alloc hb14.size _) hb7 (by have := hb14.size; simp; omega)
        clear hn7 hb7
        go_wp2
        go_ret
        exact ⟨rfl, hb8⟩
end Go.Proofs.Ytmelnpimoiipgaa
