/-
  What is proved: the walk of the program's Levels.
  Conditions: the line can be read.
-/
import Derived.Test.YtmelnpimoiipgaaSpecLevel
namespace Go.Proofs.Ytmelnpimoiipgaa
set_option linter.unusedVariables false
open Go.RowKit
attribute [local go_sem] run_store_float run_store_complex unary_negf neg256

set_option maxHeartbeats 1000000 in
theorem mean_any (g o n cap c r : Nat) (xs : List Nat) (w : World) (h : FRow w (.slice (some ⟨g, o, none⟩) n cap) xs) (hn : xs.length = n) (hm : AllMag xs) (h0 : 1 < n) (hl : n ≤ 50)
    (hc : floatOfInt .f32 (n : Int) = c) (hq : floatBits .quo .f32 (sumF xs) c = some r) :
    Calls Try.prog 82 #[.slice (some ⟨g, o, none⟩) n cap] w fun e w' => e = .returned (.float .f32 r) ∧ w = w' := by
  have hcap : n ≤ cap := by rcases h with ⟨_, h1⟩ | ⟨_, _, _, e, h2, _⟩; (subst h1; simp at hn; omega); (cases e; omega)
  have hcell : ∀ k (hk : k < xs.length), w.cell? ⟨g, o + k, none⟩ = some (.float .f32 xs[k]) := by
    rcases h with ⟨_, h1⟩ | ⟨_, _, _, e, _, h3⟩
    · subst h1; simp
    · cases e; exact h3
  have HC := Lib.hid hcell
  have hc0 := hcell 0 (by omega)
  have hg0 : xs[0]'(by omega) = sumK xs 0 := by unfold sumK; rw [List.getD_eq_getElem?_getD, List.getElem?_eq_getElem (by omega)]; rfl
  rw [hg0, Nat.add_zero] at hc0
  have HM := Lib.hid hm
  have HN := Lib.hid hn
  have HQ := Lib.hid (fun W => arith_ok hq W)
  have hi1 : (1 : Int) ≤ (n : Int) := by omega
  have hi2 : (n : Int) ≤ (cap : Int) := by omega
  have hi3 : ¬ cap = 1 := by omega
  have hi4 : ¬ cap - 1 = 0 := by omega
  clear hcell h hm hg0 hn hq
  go_enter Try.func82, Try.ntmps82
  go_wp2
  go_loop [3, 12] (fun x i => ∃ k : Nat, k < n ∧ i = .int .i64 (k : Int) ∧ x = .float .f32 (sumK xs k)) (fun _ i => n - (intOf i).toNat)
  case atStart => exact ⟨0, by omega, rfl, rfl⟩
  case round =>
    obtain ⟨k, hk, rfl, rfl⟩ := hrel
    by_cases hlt : k + 1 < n
    · have hlx : k + 1 < xs.length := by have := HN.out; omega
      have hc1 := HC.out (k + 1) hlx
      have hrun := fun W => arith_ok (sumK_run HM.out hlx (by omega)) W
      have hg1 : xs[k + 1] = xs.getD (k + 1) 0 := by rw [List.getD_eq_getElem?_getD, List.getElem?_eq_getElem hlx]; rfl
      rw [hg1, show o + (k + 1) = o + 1 + k by omega] at hc1
      generalize xs.getD (k + 1) 0 = z at *
      generalize sumK xs k = s at *
      obtain ⟨r, hr⟩ : ∃ r, sumK xs (k + 1) = r := ⟨_, rfl⟩
      rw [hr] at hrun
      have HR := Lib.hid hr
      have hk1 : k < n - 1 := by omega
      have hk2 : (k : Int) < (n : Int) - 1 := by omega
      have hk3 : (k : Int) < ((n - 1 : Nat) : Int) := by omega
      clear hr hg1 hlx
      go_wp2
      go_round
      case rel => exact ⟨k + 1, hlt, by go_num, by rw [HR.out]⟩
      case measure => simp [intOf]; omega
    · have hkk : sumF xs = sumK xs k := by unfold sumF; rw [show xs.length - 1 = k by have := HN.out; omega]
      have hQ := HQ.out
      rw [hkk] at hQ
      have hk1 : ¬ k < n - 1 := by omega
      have hk2 : ¬ (k : Int) < (n : Int) - 1 := by omega
      have hk3 : ¬ (k : Int) < ((n - 1 : Nat) : Int) := by omega
      clear hkk HC
      go_wp2
      go_ret
      exact ⟨rfl, rfl⟩
theorem conv_8 : floatOfInt .f32 ((8 : Nat) : Int) = 1090519040 := by kernel_rfl
theorem conv_16 : floatOfInt .f32 ((16 : Nat) : Int) = 1098907648 := by kernel_rfl
set_option maxHeartbeats 2000000 in
theorem levels_any (v : Value) (xs : List Nat) (w : World) (h : FRow w v xs) (hl : xs.length ≤ 4000000) :
    Calls Try.prog 49 #[v] w fun e w' => LevPost xs w e w' := by
  have HO := Lib.hid (lineOk_any v xs w h hl)
  cases ho : lineOk xs with
  | false =>
    rw [ho] at HO
    have HNO := Lib.hid (show lvOk xs = false by unfold lvOk; rw [ho]; rfl)
    clear ho h
    go_enter Try.func49, Try.ntmps49
    go_wp2_with fail
    refine HO.out.mono ?_
    rintro e w1 ⟨rfl, rfl⟩
    go_wp2
    exact bodyPost_ret (v := .tuple #[.float .f32 0, .float .f32 0, .bool false]) (by simp [results, Try.results49, go_sem]) rfl (levPost_no HNO.out (Below.refl _ _))
  | true =>
    rw [ho] at HO
    have hlen := lineOk_len ho
    rcases h with ⟨_, h1⟩ | ⟨g, o, cap, rfl, hcap, hcell⟩
    · subst h1; simp at hlen
    · have hR : FRow w (.slice (some ⟨g, o, none⟩) xs.length cap) xs := .inr ⟨g, o, cap, rfl, hcap, hcell⟩
      have hm1 := part_mag (lineOk_mag ho) 0 8
      have hm2 := part_mag (lineOk_mag ho) 8 16
      have hl1 := part_len xs 0 8 (by omega)
      have hl2 := part_len xs 8 16 (by omega)
      have hR1 := FRow.part hR rfl 0 8 8 (by omega) (Nat.le_refl _) (by decide)
      have hR2 := FRow.part hR rfl 8 16 16 (by omega) (Nat.le_refl _) (by decide)
      have HM1 := Lib.hid (mean_any g (o + 0) 8 8 _ (tipOf xs) (part xs 0 8) w hR1 hl1 hm1 (by decide) (by decide) conv_8 (tip_run ho).1)
      have HM2 := Lib.hid (mean_any g (o + 8) 16 16 _ (blackOf xs) (part xs 8 16) w hR2 hl2 hm2 (by decide) (by decide) conv_16 (black_run ho).1)
      rw [Nat.add_zero] at HM1
      have HK1 := fun W => Lib.hid (pulse_any g o xs.length cap W (by omega) hcap hl)
      have HK2 := fun W => Lib.hid (burst_any g o xs.length cap W (by omega) hcap hl)
      have HLV := Lib.hid (show lvOk xs = !leb (blackOf xs) (tipOf xs) by unfold lvOk; rw [ho]; rfl)
      have HYES := Lib.hid (fun (w' : World) => levPost_yes (xs := xs) (w := w) (w' := w'))
      have HNO := Lib.hid (fun (w' : World) => levPost_no (xs := xs) (w := w) (w' := w'))
      clear hcell hR hR1 hR2 hm1 hm2 hl1 hl2 ho hlen
      generalize tipOf xs = tip at *
      generalize blackOf xs = blk at *
      cases hq : leb blk tip with
      | true =>
        have hq' : (FloatKind.f32.format.order blk tip == some .lt || FloatKind.f32.format.order blk tip == some .eq) = true := hq
        rw [hq] at HLV
        clear hq
        go_enter Try.func49, Try.ntmps49
        go_wp2_with fail
        refine HO.out.mono ?_
        rintro e w1 ⟨rfl, rfl⟩
        go_wp2_with fail
        refine (HK1 _).out.mono ?_
        rintro e w1 ⟨rfl, rfl⟩
        go_wp2_with fail
        refine HM1.out.mono ?_
        rintro e w1 ⟨rfl, rfl⟩
        go_wp2_with fail
        refine (HK2 _).out.mono ?_
        rintro e w1 ⟨rfl, rfl⟩
        go_wp2_with fail
        refine HM2.out.mono ?_
        rintro e w1 ⟨rfl, rfl⟩
        go_wp2
        exact bodyPost_ret (v := .tuple #[.float .f32 0, .float .f32 0, .bool false]) (by simp [results, Try.results49, go_sem]) rfl (HNO.out _ HLV.out (Below.refl _ _))
      | false =>
        have hq' : (FloatKind.f32.format.order blk tip == some .lt || FloatKind.f32.format.order blk tip == some .eq) = false := hq
        rw [hq] at HLV
        clear hq
        go_enter Try.func49, Try.ntmps49
        go_wp2_with fail
        refine HO.out.mono ?_
        rintro e w1 ⟨rfl, rfl⟩
        go_wp2_with fail
        refine (HK1 _).out.mono ?_
        rintro e w1 ⟨rfl, rfl⟩
        go_wp2_with fail
        refine HM1.out.mono ?_
        rintro e w1 ⟨rfl, rfl⟩
        go_wp2_with fail
        refine (HK2 _).out.mono ?_
        rintro e w1 ⟨rfl, rfl⟩
        go_wp2_with fail
        refine HM2.out.mono ?_
        rintro e w1 ⟨rfl, rfl⟩
        go_wp2
        exact bodyPost_ret (v := .tuple #[.float .f32 tip, .float .f32 blk, .bool true]) (by simp [results, Try.results49, go_sem]) rfl (HYES.out _ HLV.out (Below.refl _ _))
end Go.Proofs.Ytmelnpimoiipgaa
