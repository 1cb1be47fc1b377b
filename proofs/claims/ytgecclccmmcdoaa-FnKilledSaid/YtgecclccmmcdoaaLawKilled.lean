/-
  What is proved: the walk of the law FnKilled.
  Conditions: none beyond the arguments' own.
-/
import Derived.Test.YtgecclccmmcdoaaPkTake
import Derived.Test.YtgecclccmmcdoaaPkDraw
import Derived.Deep.RegionHeld3
namespace Go.Proofs.Ytgecclccmmcdoaa
set_option linter.unusedVariables false
open Go.RowKit
attribute [local go_sem] run_store_float run_store_complex unary_negf neg256

set_option maxRecDepth 100000 in
set_option maxHeartbeats 8000000 in
theorem walk_FnKilled (a0 : Option Addr) (len0 cap0 : Nat) (z0 : List Int) (w : World) (w0 : IsRow .u8 w a0 len0 cap0 z0) :
    Calls Try.prog 5 #[.slice a0 len0 cap0] w fun e w' => e = .returned (.bool true) ∧ Below w.heap.size w w' := by
  by_cases hbig : 1048576 < len0
  · have hbb : decide ((1048576 : Int) < len0) = true := by simp; omega
    have HB := Lib.hid (big_any a0 len0 cap0 w)
    rw [hbb] at HB
    clear hbb
    go_enter Try.func5, Try.ntmps5
    go_wp2_with fail
    refine HB.out.mono ?_
    rintro e w1 ⟨rfl, rfl⟩
    go_wp2
    go_ret
    exact ⟨rfl, Below.refl _ _⟩
  · have hbb : decide ((1048576 : Int) < len0) = false := by simp; omega
    have HB := Lib.hid (big_any a0 len0 cap0 w)
    rw [hbb] at HB
    have HS := Lib.hid (w0.src (by omega))
    have HD := Lib.hid (drawTake_any a0 len0 cap0 w HS.out)
    clear hbb w0 HS
    go_enter Try.func5, Try.ntmps5
    go_wp2_with fail
    refine HB.out.mono ?_
    rintro e w1 ⟨rfl, rfl⟩
    go_wp2_with fail
    refine HD.out.mono ?_
    rintro e w1 ⟨v, v', xs, ys, least, k, hl, rfl, ⟨hv, hv'⟩, hb1⟩
    have HA := fun V (hV : Below w1.heap.size w1 V) => Lib.hid (hv.row.below hV)
    have HA' := fun V (hV : Below w1.heap.size w1 V) => Lib.hid (hv'.row.below hV)
    have HKI := fun l V (hV : Below w1.heap.size w1 V) => Lib.hid (killed_any v v' xs ys l V (HA V hV).out (HA' V hV).out (by omega) (by omega))
    have HSW := fun V (hV : Below w1.heap.size w1 V) => Lib.hid (swing_any v v' xs ys V (HA V hV).out (HA' V hV).out (by omega) (by omega))
    have HHU := fun V (hV : Below w1.heap.size w1 V) => Lib.hid (hueGain_any v v' xs ys V (HA V hV).out (HA' V hV).out (by omega) (by omega))
    have HTA := fun V (hV : Below w1.heap.size w1 V) => Lib.hid (take_any v v' xs ys least k V (HA V hV).out (HA' V hV).out (by omega) (by omega))
    have HDE := Lib.hid (decodePair_any v v' xs ys w1 hv.row hv'.row (by omega) (by omega))
    clear hv hv' HD HB HA HA'
    go_wp2_with fail
    refine HDE.out.mono ?_
    rintro e w2 ⟨v2, rows, s2, ok, rfl, hpr, hg2, hb2⟩
    have HPR := Lib.hid hpr
    have HG2 := Lib.hid hg2
    clear HDE hpr hg2
    obtain ⟨a2, n2, c2, rfl⟩ : ∃ a n c, v2 = .slice a n c := by
      obtain ⟨a, c, e, _⟩ := rowsC_any HG2.out.own.row
      exact ⟨a, _, c, e⟩
    have hb2' := hb2
    go_wp2_with fail
    refine (HTA _ hb2').out.mono ?_
    rintro e w3 ⟨v3, out, s3, fine, rfl, htk, hg3, hb3⟩
    have HTK := Lib.hid htk
    have HG3 := Lib.hid hg3
    have HG23 := Lib.hid (HG2.out.below hb3)
    clear HTA htk hg3 hb2' HG2
    obtain ⟨a3, n3, c3, rfl⟩ : ∃ a n c, v3 = .slice a n c := by
      obtain ⟨a, c, e, _⟩ := rowsC_any HG3.out.own.row
      exact ⟨a, _, c, e⟩
    have hb13 := below_trans hb2 hb3 hb2.size
    have hb13' := hb13
    go_wp2_with fail
    refine (HHU _ hb13').out.mono ?_
    rintro e w4 ⟨u, z, good, rfl, hhue, hb4⟩
    have HHR := Lib.hid hhue
    have hb14 := below_trans hb13 hb4 hb13.size
    have HG24 := Lib.hid (HG23.out.below hb4)
    have HG34 := Lib.hid (HG3.out.below hb4)
    clear HHU hhue hb13 hb13' HG23 HG3
    obtain ⟨t0, ht0⟩ : ∃ t, feq0 u = t := ⟨_, rfl⟩
    have ht0' : (FloatKind.f32.format.order u 0 == some .eq) = t0 := ht0
    have hb14' := hb14
    have HG2 := HG24
    have HG3 := HG34
    clear HG24 HG34
    have hw4 := Below.refl w4.heap.size w4
    cases good
    rotate_left
    focus
      cases t0
      rotate_left
      focus
        go_wp2_with fail
        refine (HKI 1065353216 _ hb14').out.mono ?_
        rintro e wz ⟨b, rfl, hkb, hbz⟩
        obtain rfl := hkb.zero HHR.out ht0
        have hb4z := hbz
        clear hbz hkb hw4
    all_goals first | (have hb4z := hw4; clear hw4) | skip
    all_goals
      have hb1z := below_trans hb14 hb4z hb14.size
      go_wp2_with fail
      refine (HSW _ hb1z).out.mono ?_
      rintro e w5 ⟨n, rfl, hsw, hb5⟩
      have hb45 := below_trans hb4z hb5 hb4z.size
      have hb15 := below_trans hb14 hb45 hb14.size
      clear hb1z hb4z ht0 ht0'
      by_cases hn : n = 0
      focus
        subst hn
        go_wp2_with fail
        refine (HKI 0 _ hb15).out.mono ?_
        rintro e w6 ⟨b, rfl, hkb, hb6⟩
        obtain rfl := hkb.swing hsw
        have hb46 := below_trans hb45 hb6 hb45.size
        clear hb45 hb15 hsw hkb hb5 hb6
      rotate_left
      have hb46 := hb45
      clear hb45 hb15 hsw hb5
    all_goals
      have hb16 := below_trans hb14 hb46 hb14.size
      cases ok
      · obtain rfl := HTK.out.off HPR.out
        go_wp2
        go_ret
        exact ⟨rfl, below_trans hb1 hb16 hb1.size⟩
      · have HKD := HKI least
        go_wp2_with fail
        refine (HKD _ hb16).out.mono ?_
        rintro e w7 ⟨kb, rfl, hkb, hb7⟩
        have hb47 := below_trans hb46 hb7 hb46.size
        have hb17 := below_trans hb14 hb47 hb14.size
        clear HKD hb7 hb16 hb46
        cases kb
        · go_wp2
          go_ret
          exact ⟨rfl, below_trans hb1 hb17 hb1.size⟩
        · obtain ⟨rfl, rfl⟩ := HTK.out.dead HPR.out hkb
          obtain ⟨r0, r1, rfl, hne, hrr⟩ := HPR.out.both
          have HGR := fun V (hV : Below w4.heap.size w4 V) => Lib.hid (greyed_rows (.slice a2 n2 c2) [r0, r1] s2 V (HG2.out.below hV).rows (by simp) (fun r hr => Nat.le_trans (hrr r hr).1 (by decide)) (fun r hr => by
            rcases List.mem_cons.1 hr with rfl | hr
            · exact hne.1
            · obtain rfl := List.mem_singleton.1 hr; exact hne.2))
          obtain ⟨g2, d2, e2, ht2⟩ := gridPair HG2.out hne.1 hne.2
          obtain ⟨g3, d3, e3, ht3⟩ := gridPair (r0 := r0.map gc) (r1 := r1.map gc) HG3.out (by simpa using hne.1) (by simpa using hne.2)
          have HT2 := Lib.hid ht2
          have HT3 := Lib.hid ht3
          have HR := Lib.hid (fun k (hk : k < 2) => (show (two r0 r1 k) ≠ [] ∧ (two r0 r1 k).length ≤ 64 ∧ ∀ c ∈ two r0 r1 k, Flt.fin c.1 = true by
            rcases (by omega : k = 0 ∨ k = 1) with rfl | rfl
            · exact ⟨hne.1, hrr _ (List.mem_cons_self ..)⟩
            · exact ⟨hne.2, hrr _ (List.mem_cons_of_mem _ (List.mem_cons_self ..))⟩))
          have HNE := Lib.hid hne
          have hc2 := ht2.cap
          have hc3 := ht3.cap
          cases e2
          cases e3
          clear ht2 ht3 hne hrr hkb HKI HSW HTK HPR HHR HG2 HG3
          go_wp2_with fail
          refine (HGR _ hb47).out.mono ?_
          rintro e w8 ⟨v8, s8, rfl, hg8, hb8⟩
          obtain ⟨g8, c8, rfl, ht8⟩ := gridPair (r0 := r0.map gc) (r1 := r1.map gc) hg8 (by simpa using HNE.out.1) (by simpa using HNE.out.2)
          have hc8 := ht8.cap
          have hb48 := below_trans hb47 hb8 hb47.size
          have hb18 := below_trans hb14 hb48 hb14.size
          have HT8 := Lib.hid ht8
          have HT28 := Lib.hid (HT2.out.below hb48)
          have HT38 := Lib.hid (HT3.out.below hb48)
          clear hg8 ht8 HGR HT2 HT3 hb47 hb48 hb8 hb17 HNE
          go_wp2
          go_loopw [14] (fun i wr => ∃ k : Nat, k ≤ 2 ∧ i = .int .i64 (k : Int) ∧ Below w8.heap.size w8 wr) (fun i _ => 2 - (intOf i).toNat)
          case atStart => exact ⟨0, Nat.zero_le _, rfl, Below.refl _ _⟩
          case round =>
            obtain ⟨k, hk, rfl, hb⟩ := hrel
            by_cases hlt : k < 2
            · obtain ⟨hR0, hR1, hR2⟩ := HR.out k hlt
              obtain ⟨x2, y2, m2, b2, q2⟩ := (HT28.out.below hb).ok k hlt
              obtain ⟨x3, y3, m3, b3, q3⟩ := (HT38.out.below hb).grey k hlt
              obtain ⟨x8, y8, m8, b8, q8⟩ := (HT8.out.below hb).grey k hlt
              generalize two r0 r1 k = R at *
              rename_i wr
              have HSR := fun V (hV : Below wr.heap.size wr V) => Lib.hid (sameRow_self _ _ (R.map gc) V (b3.below hV) (b8.below hV) (by rw [List.length_map]; omega) (grey_okc hR2))
              have hrr := Below.refl wr.heap.size wr
              have M2 := Lib.hid m2
              have M3 := Lib.hid m3
              have M8 := Lib.hid m8
              have B2 := Lib.hid b2
              have B3 := Lib.hid b3
              have HF := Lib.hid hR2
              have HK := Lib.hid (And.intro hk hlt)
              clear b2 b3 b8 hR0 hR2
              go_wp2
              go_region_held3 (fun V => V.cell? ⟨g2, k, none⟩ = some (.slice (some ⟨x2, 0, none⟩) R.length y2) ∧ V.cell? ⟨g3, k, none⟩ = some (.slice (some ⟨x3, 0, none⟩) R.length y3) ∧ V.cell? ⟨g8, k, none⟩ = some (.slice (some ⟨x8, 0, none⟩) R.length y8)) (go_keep)
                (first
                  | (go_at_call 28; refine (HSR _ (by first | exact hrr.drew | exact hrr)).out.mono ?_; rintro e w9 ⟨rfl, hb9⟩; have hr9 := below_trans hrr.drew hb9 hrr.drew.size; have n2 := (grown_of hr9).cell M2.out (by simp); have n3 := (grown_of hr9).cell M3.out (by simp); have n8 := (grown_of hr9).cell M8.out (by simp)))
              clear n2 n3 n8
              go_wp2
              go_loopw [15] (fun i wi => ∃ j : Nat, j ≤ R.length ∧ i = .int .i64 (j : Int) ∧ Below wr.heap.size wr wi) (fun i _ => R.length - (intOf i).toNat)
              case atStart => exact ⟨0, Nat.zero_le _, rfl, hr9⟩
              case round =>
                obtain ⟨j, hj, rfl, hbi⟩ := hrel
                have k2 := (grown_of hbi).cell M2.out (by simp)
                have k3 := (grown_of hbi).cell M3.out (by simp)
                by_cases hlj : j < R.length
                · have hj3 : j < (R.map gc).length := by rw [List.length_map]; exact hlj
                  obtain ⟨c20, c21⟩ := rowAt (B2.out.below hbi) hlj
                  obtain ⟨c30, c31⟩ := rowAt (B3.out.below hbi) hj3
                  have hfin := HF.out _ (List.getElem_mem hlj)
                  rw [List.getElem_map] at c30 c31
                  generalize R[j] = c at *
                  have c30' : _ = some (Value.float .f32 c.1) := c30
                  have c31' : _ = some (Value.complex .f32 0 0) := c31
                  have hnq := fun W => neq_colour 0 0 0 0 W
                  have HS32 := fun W => Lib.hid (same32_self c.1 W hfin)
                  clear c30 c31
                  have hz : (FloatKind.f32.format.order 0 0 == some .eq) = true := by decide +kernel
                  go_wp2
                  go_quiet (first | (go_at_call 29; first | exact qt_one (HS32 _).out | exact qt_add (HS32 _).out))
                  go_wp2

                  go_roundw
                  case rel => exact ⟨j + 1, by omega, by go_num, belowDN hbi _⟩
                  case measure => simp [intOf]; omega
                · go_wp2
                  go_roundw
                  case rel => exact ⟨k + 1, by omega, by go_num, below_trans hb hbi hb.size⟩
                  case measure => simp [intOf]; omega
            · go_wp2
              go_ret
              exact ⟨rfl, below_trans hb1 (below_trans hb18 hb hb18.size) hb1.size⟩
end Go.Proofs.Ytgecclccmmcdoaa
