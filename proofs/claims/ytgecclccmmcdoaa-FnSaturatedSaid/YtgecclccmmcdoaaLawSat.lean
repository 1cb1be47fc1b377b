/-
  What is proved: the walk of the law FnSaturated.
  Conditions: none beyond the arguments' own.
-/
import Derived.Test.YtgecclccmmcdoaaSatQ
import Derived.Test.YtgecclccmmcdoaaDrawSat
namespace Go.Proofs.Ytgecclccmmcdoaa
set_option linter.unusedVariables false
open Go.RowKit
attribute [local go_sem] run_store_float run_store_complex unary_negf neg256

theorem takeAll {rows : List (List C3)} {j : Nat} (h : j < rows.length) : (rows.take (j + 1)).all rok = ((rows.take j).all rok && rok rows[j]) := by
  rw [List.take_succ_eq_append_getElem h, List.all_append]
  simp
theorem all_ne {rows : List (List C3)} (h : rows.all rok = true) : ∀ r ∈ rows, r ≠ [] := fun r hr => rok_ne (List.all_eq_true.1 h r hr)
theorem alikeR_len {a b : List (List C3)} {N : Nat} (h : AlikeR a b) (hb : ∀ r ∈ b, r.length ≤ N) : ∀ r ∈ a, r.length ≤ N := by
  intro r hr
  obtain ⟨i, hi, rfl⟩ := List.getElem_of_mem hr
  have h1 := (h.2 i hi (by rw [← h.1]; exact hi)).1
  rw [h1]
  exact hb _ (List.getElem_mem _)
theorem grey_len {rows : List (List C3)} {N : Nat} (hb : ∀ r ∈ rows, r.length ≤ N) : ∀ r ∈ greyL rows, r.length ≤ N := by
  intro r hr
  unfold greyL at hr
  obtain ⟨d, hd, rfl⟩ := List.mem_map.1 hr
  rw [List.length_map]
  exact hb d hd
set_option maxRecDepth 100000 in
set_option maxHeartbeats 8000000 in
theorem walk_FnSaturated (a0 : Option Addr) (len0 cap0 : Nat) (z0 : List Int) (w : World) (w0 : IsRow .u8 w a0 len0 cap0 z0) :
    Calls Try.prog 6 #[.slice a0 len0 cap0] w fun e w' => e = .returned (.bool true) ∧ Below w.heap.size w w' := by
  by_cases hbig : 1048576 < len0
  · have hbb : decide ((1048576 : Int) < len0) = true := by simp; omega
    have HB := Lib.hid (big_any a0 len0 cap0 w)
    rw [hbb] at HB
    clear hbb
    go_enter Try.func6, Try.ntmps6
    go_wp2_with fail
    refine HB.out.mono ?_
    rintro e w1 ⟨rfl, rfl⟩
    go_wp2
    go_ret
    exact ⟨rfl, Below.refl _ _⟩
  · have hbb : decide ((1048576 : Int) < len0) = false := by simp; omega
    have HB := Lib.hid (big_any a0 len0 cap0 w)
    rw [hbb] at HB
    have HS := Lib.hid (w0.src (by omega))
    have HD := Lib.hid (drawSat_any a0 len0 cap0 w HS.out)
    clear hbb w0 HS
    go_enter Try.func6, Try.ntmps6
    go_wp2_with fail
    refine HB.out.mono ?_
    rintro e w1 ⟨rfl, rfl⟩
    go_wp2_with fail
    refine HD.out.mono ?_
    rintro e w1 ⟨v, rows, ss, x, hl, rfl, hr, hb1⟩
    obtain ⟨ad, cp, rfl, hcell⟩ := hr.any
    have hsl := hr.len
    have hl1 : rows.length ≤ 1000000 := by omega
    have HV := Lib.hid hr
    have HC := Lib.hid hcell
    have HSL := Lib.hid hsl
    have HL := Lib.hid hl
    have hsm : ss.length ≤ 1000000 := by omega
    have HSA := fun k V (hV : Below w1.heap.size w1 V) => Lib.hid (saturate_any _ rows ss k V (HV.out.below hV) hl1 hl.2)
    have HSI := fun k z V (hV : Below w1.heap.size w1 V) => Lib.hid (toSize_any _ rows ss k z V (HV.out.below hV) hl1 hl.2)
    clear hr hcell hl HD HB hl1 hsl
    have hw1 := Below.refl w1.heap.size w1
    have HS0 := HSA 0
    go_wp2_with fail
    refine (HS0 _ hw1).out.mono ?_
    rintro e w2 ⟨v2, o2, s2, k2, rfl, hs2, hg2, hb2⟩
    obtain ⟨e2, q2⟩ := sat_zero hs2
    subst e2
    have HQ2 := Lib.hid (And.intro q2 hg2)
    obtain ⟨x2, y2, z2, rfl⟩ : ∃ a n c, v2 = .slice a n c := by
      obtain ⟨a, c, e, _⟩ := rowsC_any hg2.own.row
      exact ⟨a, _, c, e⟩
    obtain ⟨A, hA⟩ : ∃ A, rows.all rok = A := ⟨_, rfl⟩
    have HA := Lib.hid hA
    have HS1 := HSA 1065353216
    clear q2 hg2 hs2 HS0 HSA
    rw [hA]
    go_wp2_with fail
    refine (HS1 _ hb2).out.mono ?_
    rintro e w3 ⟨v3, o3, s3, k3, rfl, hs3, hg3, hb3⟩
    obtain ⟨e3, q3⟩ := sat_one hs3
    rw [hA] at e3
    obtain rfl := e3.symm
    have HQ3 := Lib.hid (And.intro q3 hg3)
    obtain ⟨x3, y3, z3, rfl⟩ : ∃ a n c, v3 = .slice a n c := by
      obtain ⟨a, c, e, _⟩ := rowsC_any hg3.own.row
      exact ⟨a, _, c, e⟩
    have hb13 := below_trans hb2 hb3 hb2.size
    have HI := HSI 1065353216 1084227584
    clear q3 hg3 hs3 HS1 HSI
    go_wp2_with fail
    refine (HI _ hb13).out.mono ?_
    rintro e w4 ⟨v4, o4, s4, k4, rfl, hs4, hg4, hb4⟩
    obtain ⟨e4, q4⟩ := size_one hs4
    rw [hA] at e4
    obtain rfl := e4.symm
    have HQ4 := Lib.hid (And.intro q4 hg4)
    obtain ⟨x4, y4, z4, rfl⟩ : ∃ a n c, v4 = .slice a n c := by
      obtain ⟨a, c, e, _⟩ := rowsC_any hg4.own.row
      exact ⟨a, _, c, e⟩
    have hb14 := below_trans hb13 hb4 hb13.size
    have hb34 := hb4
    have hb24 := below_trans hb3 hb4 hb3.size
    clear q4 hg4 hs4 HI hA hb4 hb13
    go_wp2
    go_loopw [11, 12] (fun al i wr => ∃ j : Nat, j ≤ ss.length ∧ i = .int .i64 (j : Int) ∧ al = .bool ((rows.take j).all rok) ∧ Below w4.heap.size w4 wr) (fun _ i _ => ss.length - (intOf i).toNat)
    case atStart => exact ⟨0, Nat.zero_le _, rfl, by simp, Below.refl _ _⟩
    case round =>
      obtain ⟨j, hj, rfl, rfl, hb⟩ := hrel
      have hbw := below_trans hb14 hb hb14.size
      by_cases hlt : j < ss.length
      · have hltr : j < rows.length := by have := HSL.out; omega
        obtain ⟨g5, o5, rfl, hcap5, hc5⟩ := HC.out j hlt
        have hc5' := (grown_of hbw).cell hc5 (by simp)
        have HR := Lib.hid (rowOk_any ss[j].v rows[j] _ ((HV.out.each j hlt hltr).below hbw) (HL.out.2 _ (List.getElem_mem hltr)))
        have HT := Lib.hid (takeAll hltr)
        clear hc5
        obtain ⟨t1, ht1⟩ : ∃ t, (rows.take j).all rok = t := ⟨_, rfl⟩
        obtain ⟨t2, ht2⟩ : ∃ t, rok rows[j] = t := ⟨_, rfl⟩
        rw [ht1, ht2] at HT
        rw [ht2] at HR
        rw [ht1]
        clear ht1 ht2
        generalize ss[j].v = s at *
        cases t1
        · go_wp2
          go_roundw
          case rel => exact ⟨j + 1, by omega, by go_num, by rw [HT.out]; rfl, hb⟩
          case measure => simp [intOf]; omega
        · go_wp2_with fail
          refine HR.out.mono ?_
          rintro e w5 ⟨rfl, hb5⟩
          have hb45 := below_trans hb hb5 hb.size
          go_wp2
          go_roundw
          case rel => exact ⟨j + 1, by omega, by go_num, by rw [HT.out]; rfl, hb45⟩
          case measure => simp [intOf]; omega
      · have hjj : j = ss.length := by omega
        subst hjj
        have HTA := Lib.hid (show (rows.take ss.length).all rok = A by rw [HSL.out, List.take_length]; exact HA.out)
        rw [HTA.out]
        have hb3w := below_trans hb34 hb hb34.size
        have hb2w := below_trans hb24 hb hb24.size
        have hb4w := hb
        have hb0w := below_trans hb1 hbw hb1.size
        clear hb hb14 hb34 hb24 HTA HC
        cases A
        · go_wp2
          go_ret
          exact ⟨rfl, hb0w⟩
        · have hne := all_ne HA.out
          have HGY := Lib.hid (greyed_rows _ rows ss _ (HV.out.below hbw) (by have := HL.out.1; omega) HL.out.2 hne)
          clear hne
          go_wp2_with fail
          refine HGY.out.mono ?_
          rintro e w5 ⟨v5, s5, rfl, hg5, hb5⟩
          have hb15 := below_trans hbw hb5 hbw.size
          have hb25 := below_trans hb2w hb5 hb2w.size
          have hb35 := below_trans hb3w hb5 hb3w.size
          have hb45 := below_trans hb4w hb5 hb4w.size
          have hb05 := below_trans hb0w hb5 hb0w.size
          have hal := HQ2.out.1 HA.out
          have hal3 := HQ3.out.1 (by first | trivial | rfl)
          have hal4 := HQ4.out.1 (by first | trivial | rfl)
          have HR1 := Lib.hid (sameRows_any _ _ o2 (greyL rows) s2 s5 w5 (HQ2.out.2.rows.below hb25) hg5.rows (by have h1 := hal.1; have h2 := HL.out.1; unfold greyL at h1; rw [List.length_map] at h1; omega) (alikeR_len hal (grey_len HL.out.2)) hal)
          have HR2 := fun V (hV : Below w5.heap.size w5 V) => Lib.hid (sameRows_any _ _ o3 rows s3 ss V ((HQ3.out.2.rows.below hb35).below hV) ((HV.out.below hb15).below hV) (by have h1 := hal3.1; have h2 := HL.out.1; omega) (alikeR_len hal3 HL.out.2) hal3)
          have HR3 := fun V (hV : Below w5.heap.size w5 V) => Lib.hid (sameRows_any _ _ o4 rows s4 ss V ((HQ4.out.2.rows.below hb45).below hV) ((HV.out.below hb15).below hV) (by have h1 := hal4.1; have h2 := HL.out.1; omega) (alikeR_len hal4 HL.out.2) hal4)
          clear hg5 hal hal3 hal4 HGY HQ2 HQ3 HQ4 HV HL HSL
          go_wp2_with fail
          refine HR1.out.mono ?_
          rintro e w6 ⟨rfl, hb6⟩
          have hb6' := hb6
          go_wp2_with fail
          refine (HR2 _ hb6').out.mono ?_
          rintro e w7 ⟨rfl, hb7⟩
          have hb57 := below_trans hb6 hb7 hb6.size
          have hb57' := hb57
          go_wp2_with fail
          refine (HR3 _ hb57').out.mono ?_
          rintro e w8 ⟨rfl, hb8⟩
          have hb58 := below_trans hb57 hb8 hb57.size
          go_wp2
          go_ret
          exact ⟨rfl, below_trans hb05 hb58 hb05.size⟩
end Go.Proofs.Ytgecclccmmcdoaa
