/-
  What is proved: the walk of the law FnFieldsAgain.
  Conditions: the library's tables of powers of ten and of spaces hold what their initialisers lay.
-/
import Derived.Test.YtakephomkapmjaaDoorDrawF
import Derived.Test.YtakephomkapmjaaDoorJoin
import Derived.Test.YtakephomkapmjaaDoorTabS
namespace Go.Proofs.YtakephomkapmjaaDoor
set_option linter.unusedVariables false
open Go.RowKit

set_option maxHeartbeats 1000000 in
theorem sameTexts_any (v v' : Value) (ls : List (List UInt8)) (b b' : Nat) (w : World) (h : OwnS w b v ls) (h' : OwnS w b' v' ls) (hl : ls.length ≤ 1000000) :
    Calls Tryd.prog 21 #[v, v'] w fun e w' => e = .returned (.bool true) ∧ Below w.heap.size w w' := by
  by_cases h0 : ls = []
  · subst h0
    rcases h.shape with ⟨rfl, _⟩ | ⟨g, cap, rfl, _, _, _, _⟩ <;> rcases h'.shape with ⟨rfl, _⟩ | ⟨g', cap', rfl, _, _, _, _⟩
    all_goals
      clear h h' hl
      go_enter Tryd.func21, Tryd.ntmps21
      go_wp2
      go_loopw [5] (fun i wr => i = .int .i64 0 ∧ wr = w) (fun i _ => 0)
      case atStart => exact ⟨rfl, rfl⟩
      case round =>
        obtain ⟨rfl, rfl⟩ := hrel
        go_wp2
        go_ret
        exact ⟨rfl, Below.refl _ _⟩
  · rcases h.shape with ⟨rfl, e⟩ | ⟨g, cap, rfl, _, _, hc1, _⟩
    · exact absurd e h0
    · rcases h'.shape with ⟨rfl, e⟩ | ⟨g', cap', rfl, _, _, hc2, _⟩
      · exact absurd e h0
      · have H := Lib.hid h
        have H' := Lib.hid h'
        have H0 := Lib.hid h0
        clear h h' h0
        go_enter Tryd.func21, Tryd.ntmps21
        go_wp2
        go_loopw [5] (fun i wr => ∃ k q : Nat, k ≤ ls.length ∧ i = .int .i64 (k : Int) ∧ wr = w.drewN q) (fun i _ => ls.length - (intOf i).toNat)
        case atStart => exact ⟨0, 0, Nat.zero_le _, rfl, rfl⟩
        case round =>
          obtain ⟨k, q, hk, rfl, rfl⟩ := hrel
          by_cases hlt : k < ls.length
          · obtain ⟨c1, _⟩ := H.out.cell k hlt
            obtain ⟨c2, _⟩ := H'.out.cell k hlt
            unfold strV at c1 c2
            go_wp2
            go_quiet (fail)
            go_wp2
            go_roundw
            case rel => exact ⟨k + 1, _, by omega, by go_num, rfl⟩
            case measure => simp [intOf]; omega
          · go_wp2
            go_ret
            exact ⟨rfl, belowN (Below.refl _ _) _⟩

theorem tab_ofF {W : World} (h : laidMetH Tryd.prog Rows.fnFieldsAgainRow.laid W) : Tab W := by
  have h1 := laidMetH.filter (fun x => x.1 == "internal/strconv.uint64pow10") h
  rw [MakeChecks.laidMetH_plain _ _ _ (by kernel_rfl)] at h1
  exact tab_one (rest := []) h1
theorem tabS_ofF {W : World} (h : laidMetH Tryd.prog Rows.fnFieldsAgainRow.laid W) : TabS W := by
  have h1 := laidMetH.filter (fun x => x.1 == "strings.asciiSpace") h
  rw [MakeChecks.laidMetH_plain _ _ _ (by kernel_rfl)] at h1
  exact tabS_one (rest := []) h1
theorem itoa_m3 : Lib.itoa (-3) = [45, 51] := by decide +kernel

set_option maxHeartbeats 1000000 in
theorem walk_FnFieldsAgain (a0 : Option Addr) (len0 cap0 : Nat) (z0 : List Int) (w : World) (w0 : IsRow .u8 w a0 len0 cap0 z0) (ht : Tab w) (hts : TabS w) :
    Calls Tryd.prog 5 #[.slice a0 len0 cap0] w fun e w' => e = .returned (.bool true) ∧ Below w.heap.size w w' := by
  by_cases hbig : 1048576 < len0
  · have hbb : decide ((1048576 : Int) < len0) = true := by simp; omega
    have HB := Lib.hid (big_any a0 len0 cap0 w)
    rw [hbb] at HB
    clear hbb
    go_enter Tryd.func5, Tryd.ntmps5
    go_wp2_with fail
    refine HB.out.mono ?_
    rintro e w1 ⟨rfl, rfl⟩
    go_wp2
    go_ret
    exact ⟨rfl, Below.refl _ _⟩
  · have hbb : decide ((1048576 : Int) < len0) = false := by simp; omega
    have HB := Lib.hid (big_any a0 len0 cap0 w)
    rw [hbb] at HB
    have HD := Lib.hid (drawSplitFields_any a0 len0 cap0 w (w0.src (by omega)))
    clear hbb w0
    go_enter Tryd.func5, Tryd.ntmps5
    go_wp2_with fail
    refine HB.out.mono ?_
    rintro e w1 ⟨rfl, rfl⟩
    go_wp2_with fail
    refine HD.out.mono ?_
    rintro e w1 ⟨s, hss, rfl, hbel⟩
    have HA := Lib.hid (splitFields_any s w1 (by omega) (hts.below hbel))
    have HBB := Lib.hid (fun W => specSplitFields_any s W (by omega))
    have HS2 := Lib.hid (fun (t : ByteArray) W h1 h2 => splitFields_any t W h1 h2)
    have HT := Lib.hid ht
    have HTS := Lib.hid hts
    have HBEL := Lib.hid hbel
    have hmem := fields_mem s.data.toList []
    have hsz : s.data.toList.length = s.size := by simp
    have HM := Lib.hid (show ∀ f ∈ Lib.fields s.data.toList, f.length ≤ 10000 from fun f hf => by have := hmem f hf; simp at this; omega)
    clear ht hts hbel hmem
    go_wp2_with fail
    refine HA.out.mono ?_
    clear HA
    rintro e w2 ⟨v1, rfl, ho1, hb1⟩
    rcases spl_cases s.data.toList with ⟨hB, hL⟩ | ⟨hB, hL, hG⟩
    · rw [hL] at ho1
      rw [hB]
      have H1 := Lib.hid ho1
      have HB1 := Lib.hid (HBEL.out.trans (hb1.mono HBEL.out.size))
      have HSB := Lib.hid hB
      clear ho1 hb1 hB hL hsz
      go_wp2_with fail
      refine (HBB.out _).mono ?_
      rintro e w3 ⟨v2, rfl, ho2, hb2⟩
      rw [HSB.out]
      have HB2 := Lib.hid (HB1.out.trans (hb2.mono HB1.out.size))
      clear ho2 hb2
      have hF := formatInt_any (-3) w3 (by decide) (by decide) (HT.out.below HB2.out)
      rw [itoa_m3] at hF
      have HF := Lib.hid hF
      clear hF
      rcases H1.out.shape with ⟨rfl, _⟩ | ⟨g, cap, rfl, _, _, _, _⟩
      all_goals
        go_wp2_with fail
        refine HF.out.mono ?_
        rintro e w4 ⟨rfl, hb4⟩
        go_wp2
        go_ret
        exact ⟨rfl, HB2.out.trans (hb4.mono HB2.out.size)⟩
    · rw [hL] at ho1
      rw [hB]
      have H1 := Lib.hid ho1
      have HB1 := Lib.hid (HBEL.out.trans (hb1.mono HBEL.out.size))
      have HSB := Lib.hid hB
      have HJ := Lib.hid (spl_jn hG)
      have h24 := hG.2.2
      have HG := Lib.hid hG
      clear ho1 hb1 hB hL hG
      have hjl : ∀ j, (jn ((Lib.fields s.data.toList).take j)).length ≤ 300000 := fun j => by
        have h1 := jn_len ((Lib.fields s.data.toList).take j) (fun f hf => by
          have := fields_mem s.data.toList [] f (List.mem_of_mem_take hf)
          have := HG.out.1
          simp at *
          omega)
        have h2 : ((Lib.fields s.data.toList).take j).length ≤ 24 := by rw [List.length_take]; omega
        omega
      have HJL := Lib.hid hjl
      have HFL := Lib.hid (show ∀ f ∈ Lib.fields s.data.toList, f.length ≤ 600 from fun f hf => by have := fields_mem s.data.toList [] f hf; have := HG.out.1; simp at *; omega)
      clear hjl hsz
      generalize hfs : Lib.fields s.data.toList = fs at *
      have HFS := Lib.hid hfs
      clear hfs
      go_wp2_with fail
      refine (HBB.out _).mono ?_
      rintro e w3 ⟨v2, rfl, ho2, hb2⟩
      rw [HSB.out]
      have HB2 := Lib.hid (HB1.out.trans (hb2.mono HB1.out.size))
      have H1' := Lib.hid (H1.out.below hb2)
      clear ho2 hb2
      -- the loop that joins
      rcases H1'.out.shape with ⟨rfl, rfl⟩ | ⟨g, cap, rfl, _, _, hcap, _⟩
      · go_wp2
        go_loop [8, 9] (fun t i => i = .int .i64 0 ∧ t = .string ⟨#[]⟩) (fun _ _ => 0)
        case atStart => exact ⟨rfl, rfl⟩
        case round =>
          obtain ⟨rfl, rfl⟩ := hrel
          go_wp2_with fail
          refine (HS2.out ⟨#[]⟩ w3 (by decide) (HTS.out.below HB2.out)).mono ?_
          rintro e w4 ⟨v3, rfl, ho3, hb3⟩
          obtain ⟨e1, e2⟩ := HJ.out (by decide)
          have ho3 : OwnS w4 w3.heap.size v3 [] := by
            have e1' : spl ((⟨#[]⟩ : ByteArray).data.toList) = [] := e1
            rw [e1'] at ho3; exact ho3
          have e2' : splB ((⟨#[]⟩ : ByteArray).data.toList) = true := e2
          rw [e2']
          have H3 := Lib.hid ho3
          have HB3 := Lib.hid hb3
          clear ho3 hb3 e1 e2 e2'
          go_wp2_with fail
          refine (sameTexts_any _ v3 [] _ _ _ (H1'.out.below HB3.out) H3.out (by decide)).mono ?_
          rintro e w5 ⟨rfl, hb5⟩
          go_wp2
          go_ret
          exact ⟨rfl, (HB2.out.trans (HB3.out.mono HB2.out.size)).trans (hb5.mono (HB2.out.trans (HB3.out.mono HB2.out.size)).size)⟩
      · go_wp2
        go_loop [8, 9] (fun t i => ∃ j : Nat, j ≤ fs.length ∧ i = .int .i64 (j : Int) ∧ t = .string ⟨(jn (fs.take j)).toArray⟩) (fun _ i => fs.length - (intOf i).toNat)
        case atStart => exact ⟨0, Nat.zero_le _, rfl, rfl⟩
        case round =>
          obtain ⟨j, hj, rfl, rfl⟩ := hrel
          by_cases hlt : j < fs.length
          · obtain ⟨c1, _⟩ := H1'.out.cell j hlt
            have l1 := HJL.out j
            have l2 := HFL.out fs[j] (List.getElem_mem hlt)
            have HTK := Lib.hid (jn_take fs j hlt)
            unfold strV at c1
            have l3 : (jn (fs.take j)).length + fs[j].length ≤ 400000 := by omega
            go_wp2
            go_round
            case rel => exact ⟨j + 1, by omega, by go_num, congrArg Value.string HTK.out⟩
            case measure => simp [intOf]; omega
          · have hjn : j = fs.length := by omega
            have hlt0 := HJL.out j
            have e0 : fs.take j = fs := by rw [hjn, List.take_length]
            rw [e0] at hlt0 ⊢
            clear e0
            have HJJ := HJ
            by_cases h6 : 600 < (jn fs).length
            · generalize hjf : jn fs = t at *
              clear hjf
              go_wp2_with fail
              refine (HS2.out ⟨t.toArray⟩ w3 (by show t.toArray.size ≤ _; simp; omega) (HTS.out.below HB2.out)).mono ?_
              rintro e w4 ⟨v3, rfl, ho3, hb3⟩
              generalize splB _ = ag
              clear ho3
              go_wp2
              go_ret
              exact ⟨rfl, HB2.out.trans (hb3.mono HB2.out.size)⟩
            · obtain ⟨e1, e2⟩ := HJ.out (by omega)
              have hl6 : (jn fs).length ≤ 600 := by omega
              clear h6
              generalize hjf : jn fs = t at *
              clear hjf
              go_wp2_with fail
              refine (HS2.out ⟨t.toArray⟩ w3 (by show t.toArray.size ≤ _; simp; omega) (HTS.out.below HB2.out)).mono ?_
              rintro e w4 ⟨v3, rfl, ho3, hb3⟩
              have ho3 : OwnS w4 w3.heap.size v3 fs := by
                have e1' : spl ((⟨t.toArray⟩ : ByteArray).data.toList) = fs := e1
                rw [e1'] at ho3; exact ho3
              have e2' : splB ((⟨t.toArray⟩ : ByteArray).data.toList) = true := e2
              rw [e2']
              have H3 := Lib.hid ho3
              have HB3 := Lib.hid hb3
              clear ho3 hb3 e1 e2 e2'
              go_wp2_with fail
              refine (sameTexts_any _ v3 fs _ _ _ (H1'.out.below HB3.out) H3.out (by omega)).mono ?_
              rintro e w5 ⟨rfl, hb5⟩
              go_wp2
              go_ret
              exact ⟨rfl, (HB2.out.trans (HB3.out.mono HB2.out.size)).trans (hb5.mono (HB2.out.trans (HB3.out.mono HB2.out.size)).size)⟩
end Go.Proofs.YtakephomkapmjaaDoor
