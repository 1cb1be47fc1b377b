/-
  What is proved: the walk of the law FnFieldsWoven.
  Conditions: none beyond the argument's own.
-/
import Derived.Test.YtfoggbcfkniimaaWeaveYes
import Derived.Test.YtfoggbcfkniimaaWeaveNone
import Derived.Test.YtfoggbcfkniimaaPlace
import Derived.Test.YtfoggbcfkniimaaSpecPic
import Derived.Test.YtfoggbcfkniimaaPkCell
namespace Go.Proofs.Ytfoggbcfkniimaa
set_option linter.unusedVariables false
open Go.RowKit Go.Shelf

/-- The two fields of a picture, woven. -/
theorem weave_fields (v v' : Value) (rs : List (List C3)) (n : Nat) (hn : rs.length = 2 * n) (h1 : 1 ≤ n) (h2 : n ≤ 1000) (ht : Thin rs) (w : World) (h : PicV w v (fld rs 0)) (h' : PicV w v' (fld rs 1)) :
    (∃ a c, v = .slice a n c) ∧ (∃ a c, v' = .slice a n c) ∧ Calls Try.prog 19 #[v, v'] w fun e w' => WeavePost rs w e w' := by
  have hl0 : (fld rs 0).length = n := by rw [fld_len]; omega
  have hl1 : (fld rs 1).length = n := by rw [fld_len]; omega
  have hne0 : fld rs 0 ≠ [] := by intro e; rw [e] at hl0; simp at hl0; omega
  have hne1 : fld rs 1 ≠ [] := by intro e; rw [e] at hl1; simp at hl1; omega
  obtain ⟨g, o, cap, rfl, _, hc⟩ := h.len hne0
  obtain ⟨g', o', cap', rfl, _, hc'⟩ := h'.len hne1
  rw [hl0, hl1]
  refine ⟨⟨_, _, rfl⟩, ⟨_, _, rfl⟩, weave_yes g o cap g' o' cap' n h2 rs hn ht w (fun k hk hq => ?_) (fun k hk hq => ?_)⟩
  · obtain ⟨a, c, e1, e2⟩ := hc k (by omega)
    have e : (fld rs 0)[k]'(by omega) = rs[2 * k] := by
      obtain ⟨h3, e⟩ := fld_at (rs := rs) (k := 0) (j := k) (by omega)
      rw [e]; congr 1; omega
    rw [e] at e1 e2
    exact ⟨a, c, e1, e2⟩
  · obtain ⟨a, c, e1, e2⟩ := hc' k (by omega)
    have e : (fld rs 1)[k]'(by omega) = rs[2 * k + 1] := by
      obtain ⟨h3, e⟩ := fld_at (rs := rs) (k := 1) (j := k) (by omega)
      rw [e]; congr 1; omega
    rw [e] at e1 e2
    exact ⟨a, c, e1, e2⟩
theorem weave_nones (v v' : Value) (w : World) (h : PicV w v []) (h' : PicV w v' []) :
    (∃ a c, v = .slice a 0 c) ∧ (∃ a c, v' = .slice a 0 c) ∧ Calls Try.prog 19 #[v, v'] w fun e w' => ∃ v', e = .returned (.tuple #[v', .bool false]) ∧ Below w.heap.size w w' := by
  obtain ⟨a, c, e⟩ := h.lenv
  obtain ⟨a', c', e'⟩ := h'.lenv
  exact ⟨⟨a, c, e⟩, ⟨a', c', e'⟩, weave_none v v' w h h'⟩
theorem pok_ok {rs : List (List C3)} (h : pok rs = true) : ∀ r ∈ rs, (r.all fun c => okc c.1 c.2.1 c.2.2) = true := by
  intro r hr
  unfold pok at h
  rw [Bool.and_eq_true] at h
  have h1 := List.all_eq_true.1 h.2 r hr
  unfold rowFit at h1
  rw [Bool.and_eq_true] at h1
  have h2 := h1.1
  unfold rok at h2
  simp only [Bool.and_eq_true] at h2
  exact h2.2

set_option maxRecDepth 100000 in
set_option maxHeartbeats 4000000 in
theorem walk_FnFieldsWoven (a0 : Option Addr) (len0 cap0 : Nat) (z0 : List Int) (w : World) (w0 : IsRow .u8 w a0 len0 cap0 z0) :
    Calls Try.prog 5 #[.slice a0 len0 cap0] w fun e w' => e = .returned (.bool true) ∧ Below w.heap.size w w' := by
  by_cases hbig : 1048576 < len0
  · have hbb : decide ((1048576 : Int) < len0) = true := by simp; omega
    have HB := Lib.hid (big_any a0 len0 cap0 w)
    rw [hbb] at HB
    clear hbb
    go_enter Try.func5, Try.ntmps5
    go_wp2_with fail
    refine HB.out.mono ?_
    rintro e w1 ⟨rfl, rfl⟩
    go_wp2
    go_ret
    exact ⟨rfl, Below.refl _ _⟩
  · have hbb : decide ((1048576 : Int) < len0) = false := by simp; omega
    have HB := Lib.hid (big_any a0 len0 cap0 w)
    rw [hbb] at HB
    have HD := Lib.hid (drawFieldOf_any a0 len0 cap0 w (w0.src (by omega)))
    clear hbb w0
    go_enter Try.func5, Try.ntmps5
    go_wp2_with fail
    refine HB.out.mono ?_
    rintro e w1 ⟨rfl, rfl⟩
    go_wp2_with fail
    refine HD.out.mono ?_
    rintro e w1 ⟨v, rs, z, ⟨ht, hl⟩, rfl, hp, hb1⟩
    have HP := Lib.hid hp
    have HT := Lib.hid ht
    have HFO := fun k W (hW : Aft w1 W) (hk : k ≤ 1) => Lib.hid (fieldOf_any v rs k W (HP.out.below hW) HT.out (by omega) hk)
    have HSP := fun W (hW : Aft w1 W) => Lib.hid (specPicture_any v rs W (HP.out.below hW) HT.out (by omega))
    clear hp ht HD HB
    cases hpk : pok rs with
    | false =>
      rw [hpk] at HSP
      simp only [hpk, Bool.false_eq_true, if_false] at HFO
      clear hpk
      go_wp2_with fail
      refine (HFO 0 w1 (Aft.start w1) (by omega)).out.mono ?_
      rintro e w2 ⟨va, rfl, ha, hb2⟩
      have hw2 : Aft w1 w2 := hb2
      have HA := Lib.hid ha
      clear ha
      go_wp2_with fail
      refine (HFO 1 w2 hw2 (by omega)).out.mono ?_
      rintro e w3 ⟨vb, rfl, hbv, hb3⟩
      have hw3 := hw2.next hb3
      obtain ⟨⟨a1, c1, rfl⟩, ⟨a2, c2, rfl⟩, hW⟩ := weave_nones va vb w3 (HA.out.below hb3) hbv
      have HW := Lib.hid hW
      clear hW hbv
      go_wp2_with fail
      refine HW.out.mono ?_
      rintro e w4 ⟨vq, rfl, hb4⟩
      have hw4 := hw3.next hb4
      go_wp2_with fail
      refine (HSP w4 hw4).out.mono ?_
      rintro e w5 ⟨rfl, hb5⟩
      have hw5 := hw4.next hb5
      go_wp2
      go_ret
      exact ⟨rfl, below_trans hb1 hw5 hb1.size⟩
    | true =>
      rw [hpk] at HSP
      simp only [hpk, if_true] at HFO
      have HPK := Lib.hid hpk
      obtain ⟨h4, h5, h6⟩ := pok_size_of hpk
      obtain ⟨n, hn⟩ : ∃ n, rs.length = 2 * n := ⟨rs.length / 2, by omega⟩
      have HN := Lib.hid hn
      have h1n : 1 ≤ n := by omega
      have h2n : n ≤ 32 := by omega
      have hne : rs ≠ [] := by rintro rfl; simp at h5
      obtain ⟨g, o, cap, rfl, _, hcell⟩ := HP.out.len hne
      have HC := Lib.hid hcell
      have HOK := Lib.hid (pok_ok hpk)
      clear hpk hcell hn h4 hne HP
      go_wp2_with fail
      refine (HFO 0 w1 (Aft.start w1) (by omega)).out.mono ?_
      rintro e w2 ⟨va, rfl, ha, hb2⟩
      have hw2 : Aft w1 w2 := hb2
      have HA := Lib.hid ha
      clear ha
      go_wp2_with fail
      refine (HFO 1 w2 hw2 (by omega)).out.mono ?_
      rintro e w3 ⟨vb, rfl, hbv, hb3⟩
      have hw3 := hw2.next hb3
      obtain ⟨⟨a1, c1, rfl⟩, ⟨a2, c2, rfl⟩, hW⟩ := weave_fields va vb rs n HN.out h1n (by omega) HT.out w3 (HA.out.below hb3) hbv
      have HW := Lib.hid hW
      clear hW hbv HA
      go_wp2_with fail
      refine HW.out.mono ?_
      rintro e w4 ⟨vq, rfl, hq, hb4⟩
      have hw4 := hw3.next hb4
      have HQ := Lib.hid (hq HPK.out)
      have HPKE := Lib.hid HPK.out
      clear hq HW
      rw [HPK.out]
      go_wp2_with fail
      refine (HSP w4 hw4).out.mono ?_
      rintro e w5 ⟨rfl, hb5⟩
      have hw5 := hw4.next hb5
      have hne : rs ≠ [] := by rintro rfl; simp at h5
      obtain ⟨g2, o2, cap2, rfl, _, hcell2⟩ := (HQ.out.below hb5).len hne
      have HC2 := Lib.hid hcell2
      have HCW := Lib.hid (fun i (h : i < rs.length) => by
        obtain ⟨a, c, e1, e2⟩ := HC.out i h
        exact (⟨a, c, hw5.load e1, e2.below hw5⟩ : ∃ a c, w5.cell? ⟨g, o + i, none⟩ = some (.slice a rs[i].length c) ∧ RowV w5 (.slice a rs[i].length c) rs[i]))
      have hbw5 := below_trans hb1 hw5 hb1.size
      clear hcell2 hne HFO HSP HQ HC HPK HPKE hw2 hw3 hw4 hw5 hb1 hb2 hb3 hb4 hb5
      go_wp2
      go_loopw [9] (fun i wr => ∃ k : Nat, k ≤ rs.length ∧ i = .int .i64 (k : Int) ∧ Aft w5 wr) (fun i _ => rs.length - (intOf i).toNat)
      case atStart => exact ⟨0, Nat.zero_le _, rfl, Aft.start w5⟩
      case round =>
        obtain ⟨k, hk, rfl, hb⟩ := hrel
        by_cases hlt : k < rs.length
        · obtain ⟨a, c, hc, hr⟩ := HCW.out k hlt
          obtain ⟨a', c', hc', hr'⟩ := HC2.out k hlt
          have hlk := HT.out _ (List.getElem_mem hlt)
          have hok := HOK.out _ (List.getElem_mem hlt)
          generalize rs[k] = r at *
          have HR := fun W (hW : Aft w5 W) => Lib.hid (sameRow_self _ _ r W (hr.below hW) (hr'.below hW) hlk hok)
          have m0 := fun x : After w5 => x.h.load hc
          have m1 := fun x : After w5 => x.h.load hc'
          clear hr hr' hc hc' hok
          go_wp2
          refine wp_region_after (w0 := w5) (by kernel_rfl) (by kernel_rfl) hb ?_
          iterate 8 (quiet_step (fail))
          quiet_step ((go_at_call 21; exact calls_after (HR (After.W _) (After.h _)).out))
          quiet_step (fail)
          refine wpQuiet_nil ?_
          intro _ hw'
          obtain ⟨x, hw''⟩ := hw'
          subst hw''
          obtain ⟨w6, hK6⟩ := x
          clear m0 m1
          dsimp only
          go_wp2
          go_roundw
          case rel => exact ⟨k + 1, by omega, by go_num, hK6⟩
          case measure => simp [intOf]; omega
        · go_wp2
          go_ret
          exact ⟨rfl, below_trans hbw5 hb hbw5.size⟩
end Go.Proofs.Ytfoggbcfkniimaa
