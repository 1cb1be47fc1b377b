/-
  What is proved: what the model answers of rows whose colours are taken away.
  Conditions: the rows can be read, and have cells.
-/
import Derived.Test.YtgecclccmmcdoaaPkScale
import Derived.Test.YtgecclccmmcdoaaPairD
namespace Go.Proofs.Ytgecclccmmcdoaa
set_option linter.unusedVariables false
open Go.RowKit
attribute [local go_sem] run_store_float run_store_complex unary_negf neg256

theorem l02Row_any (v : Value) (cs : List C3) (w : World) (h : RowV w v cs) (h0 : cs ≠ []) (hl : cs.length ≤ 100000) :
    Calls Try.prog 128 #[v] w fun e w' => ∃ g cap, e = .returned (.slice (some ⟨g, 0, none⟩) cs.length cap) ∧ OwnC w' w.heap.size (.slice (some ⟨g, 0, none⟩) cs.length cap) cs ∧ Below w.heap.size w w' := by
  obtain ⟨g, o, cap, rfl, hcap, hcell⟩ := h.resolve_left (fun e => h0 e.2)
  have hb := (Below.refl w.heap.size w).alloc (Nat.le_refl _) (.cells #[] 40)
  have HV := Lib.hid (show RowV (w.alloc (.cells #[] 40)) (.slice (some ⟨g, o, none⟩) cs.length cap) cs from h.below hb)
  have HO := Lib.hid (OwnC.made0 w)
  have hpos : 0 < cs.length := List.length_pos_iff.2 h0
  clear h hcell h0
  go_enter Try.func128, Try.ntmps128
  go_wp2_with (at_builtin; refine own_append rfl (.tmp 3) (.tmp 4) rfl w.heap.size _ [] cs rfl HO.out g o cap rfl HV.out hpos (by simp; omega) (by simp) ?_; intro g6 cap6 w6 ho6 hg6 hor6 hlt6)
  have HF := Lib.hid (show OwnC w6 w.heap.size (.slice (some ⟨g6, 0, none⟩) cs.length cap6) cs by simpa using ho6)
  have hb6 := hb.grown hg6 hb.size (fun k e => by have := Option.some.inj e; simp at this; omega)
  clear ho6 hg6 hor6 hlt6
  go_wp2
  go_ret
  exact ⟨g6, cap6, by simp, HF.out, hb6⟩
theorem gc_take {cs : List C3} {k : Nat} (h : k < cs.length) (hl : k < ((cs.map gc).take k ++ cs.drop k).length) : ((cs.map gc).take k ++ cs.drop k).set k (((cs.map gc).take k ++ cs.drop k)[k].1, 0, 0) = (cs.map gc).take (k + 1) ++ cs.drop (k + 1) := by
  have hm : (cs.map gc).length = cs.length := List.length_map _
  rw [take_drop_at hm h hl]
  exact set_take_drop (by omega) h (by rw [List.getElem_map]; rfl)
set_option maxRecDepth 100000 in
set_option maxHeartbeats 4000000 in
theorem specGreyed_rows (v : Value) (rows : List (List C3)) (ss : List SV) (w : World) (h : RowsV w v rows ss) (hl : rows.length ≤ 1000000) (hr : ∀ r ∈ rows, r.length ≤ 100000) (hne : ∀ r ∈ rows, r ≠ []) :
    Calls Try.prog 91 #[v] w fun e w' => ∃ v' so, e = .returned v' ∧ GridN w' w.heap.size v' (greyL rows) so ∧ Below w.heap.size w w' := by
  obtain ⟨a, c, rfl, hcell⟩ := h.any
  have hl1 := h.len
  have HC := Lib.hid hcell
  have HE := Lib.hid h.each
  have HRL := Lib.hid hr
  have HNE := Lib.hid hne
  have HL1 := Lib.hid hl1
  have hls : ss.length ≤ 1000000 := by omega
  have HG0 := Lib.hid (GridC.nil w).new
  have HB0 := Lib.hid ((Below.refl w.heap.size w).alloc (Nat.le_refl _) (.cells #[] 36))
  clear h hcell hr hl1 hne
  go_enter Try.func91, Try.ntmps91
  go_wp2
  go_loopw [3, 4] (fun m i wr => ∃ (j : Nat) (so : List SV), j ≤ ss.length ∧ i = .int .i64 (j : Int) ∧ GridN wr w.heap.size m (greyL (rows.take j)) so ∧ Below w.heap.size w wr) (fun _ i _ => ss.length - (intOf i).toNat)
  case atStart => exact ⟨0, [], Nat.zero_le _, rfl, HG0.out, HB0.out⟩
  case round =>
    obtain ⟨j, so, hj, rfl, hgr, hb⟩ := hrel
    have HGR := Lib.hid hgr
    have hsol : so.length ≤ j := by have := hgr.len; unfold greyL at this; simp at this; omega
    clear HG0 HB0 hgr
    by_cases hlt : j < ss.length
    · obtain ⟨g1, o1, rfl, hcap1, hc1⟩ := HC.out j hlt
      have hltr : j < rows.length := by have := HL1.out; omega
      have hc1' := (grown_of hb).cell hc1 (by simp)
      have HSR := Lib.hid (l02Row_any ss[j].v rows[j] wr ((HE.out j hlt hltr).below hb) (HNE.out _ (List.getElem_mem hltr)) (HRL.out _ (List.getElem_mem hltr)))
      have hcl : rows[j].length ≤ 100000 := HRL.out _ (List.getElem_mem hltr)
      have HTK := Lib.hid (show greyL (rows.take (j + 1)) = greyL (rows.take j) ++ [rows[j].map gc] by unfold greyL; rw [List.take_succ_eq_append_getElem hltr, List.map_append]; rfl)
      clear hc1
      generalize ss[j].v = x at *
      generalize rows[j] = cs at *
      go_wp2_with fail
      refine HSR.out.mono ?_
      rintro e w5 ⟨g5, cap5, rfl, ho5, hb5⟩
      have hsz : w.heap.size ≤ wr.heap.size := hb.size
      have hn5 := ho5.rnew
      have hlt5 := hn5.lt g5 rfl
      have HN5 := Lib.hid hn5
      have HB5 := Lib.hid hb5
      clear ho5 hn5 hb5 HSR hc1'
      obtain ⟨wo, hwo⟩ : ∃ wo, wr = wo := ⟨_, rfl⟩
      rw [hwo] at hb HGR HN5 HB5 hsz hlt5
      clear hwo wr
      go_wp2
      go_loopw [6] (fun i wi => ∃ k : Nat, k ≤ cs.length ∧ i = .int .i64 (k : Int) ∧ RNew wi wo.heap.size (.slice (some ⟨g5, 0, none⟩) cs.length cap5) ((cs.map gc).take k ++ cs.drop k) ∧ w5.grownBy wi (some g5)) (fun i _ => cs.length - (intOf i).toNat)
      case atStart => exact ⟨0, Nat.zero_le _, rfl, by simpa using HN5.out, World.grownBy.refl _ _⟩
      case round =>
        obtain ⟨k, hk, rfl, hn, hgw⟩ := hrel
        have HN := Lib.hid hn
        clear hn
        by_cases hltk : k < cs.length
        · have hkl : k < ((cs.map gc).take k ++ cs.drop k).length := by rw [take_drop_len (by simp) (by omega)]; exact hltk
          obtain ⟨x0, x1, x3, x2⟩ := HN.out.rd hkl
          clear x0 x3
          generalize ((cs.map gc).take k ++ cs.drop k)[k] = cc at x1
          have HP := Lib.hid (show RNew (wr.setCell ⟨g5, k * 2 + 1, none⟩ (.complex .f32 0 0)) wo.heap.size (.slice (some ⟨g5, 0, none⟩) cs.length cap5) ((cs.map gc).take (k + 1) ++ cs.drop (k + 1)) from by
            have := HN.out.putC hkl 0 0
            rwa [gc_take hltk hkl] at this)
          have hcc : cs.length ≤ cap5 := by
            obtain ⟨g7, cap7, e7, h7, _⟩ := HN5.out.some5 (by intro e; subst e; simp at hltk)
            cases e7
            exact h7
          have HGW := Lib.hid (hgw.trans (Lib.grownBy_setCell wr g5 (k * 2 + 1) (.complex .f32 0 0)))
          clear hkl
          go_wp2
          go_roundw
          case rel => exact ⟨k + 1, by omega, by go_num, HP.out, HGW.out⟩
          case measure => simp [intOf]; omega
        · have hkk : k = cs.length := by omega
          have HNF := Lib.hid (show RNew wr wo.heap.size (.slice (some ⟨g5, 0, none⟩) cs.length cap5) (cs.map gc) from by
            have := HN.out
            rwa [hkk, List.take_of_length_le (by simp), List.drop_length, List.append_nil] at this)
          have hb5w : Below wo.heap.size wo wr := HB5.out.grown hgw HB5.out.size (fun k e => by have := Option.some.inj e; omega)
          have HB5W := Lib.hid hb5w
          have h5s := hb5w.size
          have HOW5 := Lib.hid ((HGR.out.own.kept (grown_of hb5w) (by cases u3.ownBlock <;> simp)).alloc (.cells #[.slice (some ⟨g5, 0, none⟩) cs.length cap5] 36))
          have HST := Lib.hid (fun (w6 : World) (g6 cap6 : Nat) ho hg hor => HGR.out.step (w6 := w6) (g6 := g6) (n6 := so.length + 1) (cap6 := cap6) (s := (some ⟨g5, 0, none⟩, cs.length, cap5)) (ys := cs.map gc) hsz HB5W.out HNF.out (.cells #[.slice (some ⟨g5, 0, none⟩) cs.length cap5] 36) ho hg hor)
          clear hb5w HN
          subst hkk
          go_wp2_with (at_builtin; refine LSc_ok.snoc rfl (.tmp 29) (.tmp 31) rfl w.heap.size u3 so so.length rfl HOW5.out rfl _ rfl (some ⟨g5, 0, none⟩, cs.length, cap5) (lit_cells wr _ _) (by omega) (by simp; omega) ?_; intro g6 cap6 w6 ho6 hg6 hor6 hlt6)
          obtain ⟨hgn, hgww⟩ := HST.out w6 g6 cap6 ho6 hg6 hor6
          have HGN := Lib.hid hgn
          have hb6 := hb.grown hgww hsz (fun k e => (HGR.out.own.lt k e).1)
          clear ho6 hg6 hor6 hgn hgww HST
          go_wp2
          go_roundw
          case rel => exact ⟨j + 1, so ++ [(some ⟨g5, 0, none⟩, cs.length, cap5)], by omega, by go_num, by rw [HTK.out]; exact HGN.out, hb6⟩
          case measure => simp [intOf]; omega
    · have hkk : j = rows.length := by have := HL1.out; omega
      have HF := Lib.hid (show GridN wr w.heap.size u3 (greyL rows) so by have := HGR.out; rwa [hkk, List.take_length] at this)
      clear HGR hkk
      have hjj : j = ss.length := by omega
      subst hjj
      go_wp2
      go_ret
      exact ⟨_, so, rfl, HF.out, hb⟩
end Go.Proofs.Ytgecclccmmcdoaa
