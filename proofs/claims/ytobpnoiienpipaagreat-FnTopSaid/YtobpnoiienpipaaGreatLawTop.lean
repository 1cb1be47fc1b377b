/-
  What is proved: the walk of laws.FnTop.
  Conditions: the bytes can be read.
-/
import Derived.Test.YtobpnoiienpipaaGreatTopU
import Derived.Test.YtobpnoiienpipaaGreatPz32
import Derived.Deep.RegionHeld3
namespace Go.Proofs.YtobpnoiienpipaaGreat
set_option linter.unusedVariables false
open Go.RowKit
attribute [local go_sem] run_store_float run_store_complex unary_negf neg256

theorem rowsOf {w : World} {v : Value} {rs : List (List C3)} (h : PicV w v rs) : ∃ ss, RowsV w v rs ss := by
  rcases h with ⟨rfl, rfl⟩ | ⟨g, o, cap, rfl, h2, h3⟩
  · exact ⟨[], .inl ⟨⟨_, _, rfl⟩, rfl⟩, rfl, fun i h => absurd h (by simp)⟩
  · obtain ⟨ss, e1, e2⟩ := exists_list rs.length (fun i (s : SV) => w.cell? ⟨g, o + i, none⟩ = some s.v ∧ ∀ h : i < rs.length, RowV w s.v rs[i]) (fun i hi => by
      obtain ⟨rv, k1, k2⟩ := h3 i hi
      obtain ⟨a, c, rfl⟩ := k2.lenv
      exact ⟨(a, rs[i].length, c), k1, fun _ => k2⟩)
    refine ⟨ss, .inr ⟨g, o, cap, by rw [e1], by rw [e1]; exact h2, fun j u hu => ?_⟩, e1, fun i hi hi' => (e2 i hi).2 hi'⟩
    have hj : j < ss.length := by
      have := (List.getElem?_eq_some_iff.1 hu).1
      rw [LSc_ok.cells_len] at this
      simpa [LSc] using this
    have h4 := LSc_ok.cells_get ss j 0 hj (by decide)
    rw [show j * LSc.size + 0 = j from Nat.mul_one j, hu] at h4
    have h5 : u = ss[j].v := by injection h4
    rw [h5]
    exact (e2 j hj).1
theorem picV_of {w : World} {base g cap : Nat} {rs : List (List C3)} {ss : List SV} (h : GridN w base (.slice (some ⟨g, 0, none⟩) rs.length cap) rs ss) : PicV w (.slice (some ⟨g, 0, none⟩) rs.length cap) rs := by
  refine .inr ⟨g, 0, cap, rfl, ?_, fun i hi => ?_⟩
  · rcases h.own.shape with ⟨e, _⟩ | ⟨g', cap', e, _, _, hc, _⟩
    · cases e
    · have hl := h.len
      injection e with e1 e2 e3
      omega
  · obtain ⟨a, c, k1, k2⟩ := h.rows.cells hi
    rw [getD_in hi] at k1 k2
    rw [Nat.zero_add]
    exact ⟨_, k1, k2⟩
theorem AlikeR.refl {rs : List (List C3)} (h : pok rs = true) : AlikeR rs rs := by
  refine ⟨rfl, fun j hj _ => ⟨rfl, fun i hi hi' => ?_⟩⟩
  unfold pok at h
  rw [Bool.and_eq_true] at h
  have h1 := List.all_eq_true.1 h.2 _ (List.getElem_mem hj)
  unfold rowFit at h1
  rw [Bool.and_eq_true] at h1
  obtain ⟨e1, e2, e3⟩ := (rok_iff.1 h1.1).2 _ (List.getElem_mem hi)
  have f : ∀ {x : Nat}, Flt.fin x = true → feq x x = true := fun hx => by
    obtain ⟨s, u, hn, _⟩ := Flt.fin_of hx
    exact feq_self (Flt.num_read hn)
  rw [f e1, f e2, f e3]
  rfl
theorem newB_link {W N : Nat} (hW : 1 ≤ W ∧ W ≤ 4) (hN : N = 4 ∨ N = 8) : newB (W : Int) (N : Int) = true := by
  unfold newB
  rw [setB_parts]
  unfold newC
  simp only
  rw [show fin1 3250585600 = true by decide +kernel, show ge0 1040187392 = true by decide +kernel, show le16 1040187392 = true by decide +kernel, show ge0 1065353216 = true by decide +kernel, show le16 1065353216 = true by decide +kernel]
  have h1 : decide (1 ≤ (W : Int)) = true := decide_eq_true (by omega)
  have h2 : decide ((W : Int) ≤ 64) = true := decide_eq_true (by omega)
  have h3 : decide (4 ≤ (N : Int)) = true := decide_eq_true (by omega)
  have h4 : decide ((N : Int) ≤ 64) = true := decide_eq_true (by omega)
  have h5 : decide ((N : Int) % 4 = 0) = true := decide_eq_true (by omega)
  rw [h1, h2, h3, h4, h5]
  rfl
/-- What is received of a link. -/
theorem top_got {h : Chn} {rs : List (List C3)} {W : Nat} (ht : TopF h rs W) : ∃ RS, (∀ out, TakenK (studL h rs) 1040187392 1065353216 (rs.length / 2) out → wv (rs.length / 2) out = RS) ∧ pok RS = true ∧ AlikeR rs RS := by
  by_cases he : ∃ out, TakenK (studL h rs) 1040187392 1065353216 (rs.length / 2) out
  · obtain ⟨out, ho⟩ := he
    exact ⟨_, fun out' h' => by rw [ho.same h'], ht.back out ho⟩
  · exact ⟨rs, fun out h' => absurd ⟨out, h'⟩ he, ht.pic, AlikeR.refl ht.pic⟩
set_option maxRecDepth 100000 in
set_option maxHeartbeats 4000000 in
theorem walk_FnTop (a0 : Option Addr) (len0 cap0 : Nat) (z0 : List Int) (w : World) (w0 : IsRow .u8 w a0 len0 cap0 z0) :
    Calls Tryz.prog 3 #[.slice a0 len0 cap0] w fun e w' => e = .returned (.bool true) ∧ Below w.heap.size w w' := by
  by_cases hbig : 1048576 < len0
  · have hbb : decide ((1048576 : Int) < len0) = true := by simp; omega
    have HB := Lib.hid (big_any a0 len0 cap0 w)
    rw [hbb] at HB
    clear hbb
    go_enter Tryz.func3, Tryz.ntmps3
    go_wp2_with fail
    refine HB.out.mono ?_
    rintro e w1 ⟨rfl, rfl⟩
    go_wp2
    go_ret
    exact ⟨rfl, Below.refl _ _⟩
  · have hbb : decide ((1048576 : Int) < len0) = false := by simp; omega
    have HB := Lib.hid (big_any a0 len0 cap0 w)
    rw [hbb] at HB
    have HD := Lib.hid (drawLink_any a0 len0 cap0 w (w0.src (by omega)))
    clear hbb w0
    go_enter Tryz.func3, Tryz.ntmps3
    go_wp2_with fail
    refine HB.out.mono ?_
    rintro e w1 ⟨rfl, rfl⟩
    go_wp2_with fail
    refine HD.out.mono ?_
    rintro e w1 ⟨W, g, cap, base, rs, ss, A, O, X, Y, hlp, rfl⟩
    have g1 := hlp.below
    have hW := hlp.wide1
    have hH := hlp.high
    have hwid := hlp.wide
    have hT := link_top hlp.chan hlp.wide1 hlp.high hlp.done hlp.wide
    have hpv := picV_of hlp.grid.new
    have hnb := newB_link (W := W) (N := rs.length) hW hH
    obtain ⟨RS, hRS, hpk, hal⟩ := top_got hT
    obtain ⟨g', o', cap', e, hcap, hcs⟩ := hpv.len (by intro h; rw [h] at hH; simp at hH)
    obtain ⟨ar, cr, hc0, hrv0⟩ := hcs 0 (by omega)
    cases e
    rw [Nat.zero_add, hwid _ (List.getElem_mem _)] at hc0
    have HS := fun V hv => Lib.hid (studio_yes A O X Y (.slice (some ⟨g, 0, none⟩) rs.length cap) rs V hv hT.thin (by omega) hT.pic hT.ok.1 hT.ok.2 hT.t0 hT.t1 hT.n0 hT.n1)
    have HP := fun V hv => Lib.hid (isPaired_any (.slice (some ⟨g, 0, none⟩) rs.length cap) rs V hv hT.thin (by omega))
    have hyes : ∀ b : Bool, (b = true ↔ pok rs = true ∧ PairP rs rs.length) → b = true := fun b hb => hb.2 ⟨hT.pic, hT.pair⟩
    have HN := fun V => Lib.hid (newSet_any (W : Int) (rs.length : Int) V ⟨by omega, by omega⟩ ⟨by omega, by omega⟩)
    rw [show newR (W : Int) (rs.length : Int) = newC (W : Int) (rs.length : Int) by unfold newR; rw [hnb]; rfl, hnb] at HN
    obtain ⟨xs, hx⟩ : ∃ xs, xs = (studL ⟨A, O, X, Y⟩ rs).flatten := ⟨_, rfl⟩
    rw [← hx] at HS
    have HRC := fun v V (hv : FRow V v xs) => Lib.hid (receive_yes (newC (W : Int) (rs.length : Int)) (.slice none 0 0) v [] xs (rs.length / 2) V (newC_ok ⟨by omega, by omega⟩ ⟨by omega, by omega⟩) (.inl ⟨⟨_, _, rfl⟩, rfl⟩) (by simp) hv (by rw [hx]; exact hT.few) hnb ⟨by show 1 ≤ (W : Int); omega, by show (W : Int) ≤ 64; omega⟩ (by show (rs.length : Int) = _; omega) (by omega) (by rw [hx, hT.cut, hT.count]; omega) (by rw [hx, hT.cut]; exact hT.wide) (by rw [hx, hT.cut]; exact hT.rows) RS (by rw [hx, hT.cut]; exact hRS))
    unfold WeavePost at HRC
    clear hx
    rw [hpk] at HRC
    have HSR := fun v' ss' V h1 h2 => Lib.hid (sameRows_any (.slice (some ⟨g, 0, none⟩) rs.length cap) v' rs RS ss ss' V h1 h2 (by omega) hT.thin hal)
    have HV := Lib.hid hpv
    have HRV := Lib.hid hlp.grid.new.rows
    have HPAIR := Lib.hid hyes
    simp only [SetC.val, newC] at HN HRC
    have hlt0 : (0 : Int) < (rs.length : Int) := by omega
    obtain ⟨N, hN⟩ : ∃ N, N = rs.length := ⟨_, rfl⟩
    have c0 := (cell_of_row _ _ 0 _ _ _ (heap_alloc_new w1 (.cells #[.float .f32 A, .float .f32 O, .complex .f32 X Y] 28))).trans rfl
    have c1 := (cell_of_row _ _ 1 _ _ _ (heap_alloc_new w1 (.cells #[.float .f32 A, .float .f32 O, .complex .f32 X Y] 28))).trans rfl
    have c2 := (cell_of_row _ _ 2 _ _ _ (heap_alloc_new w1 (.cells #[.float .f32 A, .float .f32 O, .complex .f32 X Y] 28))).trans rfl
    have b12 := (Below.refl w1.heap.size w1).alloc (Nat.le_refl _) (.cells #[.float .f32 A, .float .f32 O, .complex .f32 X Y] 28)
    rw [← hN] at HS HP HN HRC HSR HV HRV hlt0 ⊢
    clear hlp hT hpv hnb hRS hpk hal hyes hcs hrv0 hcap hwid HD HB
    clear hH hN
    go_wp2_with fail
    generalize World.alloc w1 _ = w2 at *
    refine (HS w2 (HV.out.below b12)).out.mono ?_
    rintro e w3 ⟨v3, rfl, ho3, b3⟩
    have b13 := below_trans b12 b3 b12.size
    obtain ⟨a3, n3, hv3⟩ := ho3.new.row.lenv
    have HO := Lib.hid ho3.new.row
    have b33 := Below.refl w3.heap.size w3
    subst hv3
    clear HS c0 c1 c2 b12 b3 ho3
    go_wp2_with fail
    refine (HP w3 (HV.out.below b13)).out.mono ?_
    rintro e w4 ⟨b, rfl, hb, b4⟩
    obtain rfl := HPAIR.out b hb
    have b14 := below_trans b13 b4 b13.size
    have b34 := below_trans b33 b4 b33.size
    have q0 := (grown_of b14).cell hc0 (by simp)
    clear hb HP HPAIR b13
    go_wp2_with fail
    refine (HN w4).out.mono ?_
    rintro e w5 ⟨rfl, b5⟩
    have b15 := below_trans b14 b5 b14.size
    have b35 := below_trans b34 b5 b34.size
    have b16b := b35.alloc b35.size (.cells #[.int .i64 (W : Int), .int .i64 (N : Int), .float .f32 3250585600, .float .f32 1040187392, .float .f32 1065353216, .slice none 0 0] 37)
    have b16 := b15.alloc b15.size (.cells #[.int .i64 (W : Int), .int .i64 (N : Int), .float .f32 3250585600, .float .f32 1040187392, .float .f32 1065353216, .slice none 0 0] 37)
    have k6 := heap_alloc_new w5 (.cells #[.int .i64 (W : Int), .int .i64 (N : Int), .float .f32 3250585600, .float .f32 1040187392, .float .f32 1065353216, .slice none 0 0] 37)
    obtain ⟨p0, p1, p2, p3, p4, p5⟩ := SetAt.of (x := ⟨(W : Int), (N : Int), 3250585600, 1040187392, 1065353216⟩) (v := .slice none 0 0) k6
    simp only [SetC.val] at *
    clear q0 b14 b15 b5 k6 HN hc0
    go_wp2_with fail
    generalize World.alloc w5 _ = w6 at *
    refine (HRC _ w6 (HO.out.below b16b)).out.mono ?_
    rintro e w7 ⟨v7, rfl, hp7, b7⟩
    have b17 := below_trans b16 b7 b16.size
    obtain ⟨s7, hr7⟩ := rowsOf (hp7 trivial)
    obtain ⟨a7, n7, rfl⟩ := (hp7 trivial).lenv
    have HS7 := Lib.hid (HSR _ s7 w7 (HRV.out.below b17) hr7)
    clear HSR HRC HO hr7 hp7 b7 p0 p1 p2 p3 p4 p5
    go_wp2_with fail
    refine HS7.out.out.mono ?_
    rintro e w8 ⟨rfl, b8⟩
    go_wp2
    go_ret
    exact ⟨rfl, g1.trans ((below_trans b17 b8 b17.size).mono g1.size)⟩
end Go.Proofs.YtobpnoiienpipaaGreat
