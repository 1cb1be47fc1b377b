/-
  What is proved: the walk of the law FnTuneOne.
  Conditions: the library's table of spaces holds what its initialiser lays.
-/
import Derived.Test.YtobpnoiienpipaaDoorPkRD
import Derived.Test.YtobpnoiienpipaaDoorSameS
namespace Go.Proofs.YtobpnoiienpipaaDoor
set_option linter.unusedVariables false
open Go.RowKit
attribute [local go_sem] run_store_float run_store_complex unary_negf neg256

/-- All texts of a list but the last. -/
theorem front_row {W : World} {base n c : Nat} {a : Option Addr} {ls : List (List UInt8)} {x : List UInt8} (h : OwnS W base (.slice a (n + 1) c) (ls ++ [x])) (hn : ls.length = n) : TRow W (.slice a n c) ls := by
  subst hn
  rcases h.shape with ⟨hv, _⟩ | ⟨g, cap, hv, _, _, hc, _⟩
  · cases hv
  injection hv with h1 h2 h3
  subst h1 h3
  rw [List.length_append] at hc
  refine .inr ⟨g, 0, c, rfl, by omega, fun k hk => ?_⟩
  have h4 := (h.cell k (by rw [List.length_append]; omega)).1
  rw [Nat.zero_add, h4, List.getElem_append_left hk]
theorem last_cell {W : World} {base n c : Nat} {a : Option Addr} {ls : List (List UInt8)} {x : List UInt8} (h : OwnS W base (.slice a (n + 1) c) (ls ++ [x])) (hn : ls.length = n) : ∃ g, a = some ⟨g, 0, none⟩ ∧ n + 1 ≤ c ∧ W.cell? ⟨g, n, none⟩ = some (strV x) := by
  subst hn
  rcases h.shape with ⟨hv, _⟩ | ⟨g, cap, hv, _, _, hc, _⟩
  · cases hv
  injection hv with h1 h2 h3
  subst h1 h3
  rw [List.length_append] at hc
  have h4 := (h.cell ls.length (by rw [List.length_append]; simp)).1
  refine ⟨g, rfl, by simpa using hc, ?_⟩
  rw [h4, List.getElem_append_right (Nat.le_refl _)]
  simp
set_option maxRecDepth 100000 in
set_option maxHeartbeats 4000000 in
theorem walk_FnTuneOne (a0 : Option Addr) (len0 cap0 : Nat) (z0 : List Int) (w : World) (w0 : IsRow .u8 w a0 len0 cap0 z0) (ht : TabS w) :
    Calls Tryd.prog 4 #[.slice a0 len0 cap0] w fun e w' => e = .returned (.bool true) ∧ Below w.heap.size w w' := by
  by_cases hbig : 1048576 < len0
  · have hbb : decide ((1048576 : Int) < len0) = true := by simp; omega
    have HB := Lib.hid (big_any a0 len0 cap0 w)
    rw [hbb] at HB
    clear hbb
    go_enter Tryd.func4, Tryd.ntmps4
    go_wp2_with fail
    refine HB.out.mono ?_
    rintro e w1 ⟨rfl, rfl⟩
    go_wp2
    go_ret
    exact ⟨rfl, Below.refl _ _⟩
  · have hbb : decide ((1048576 : Int) < len0) = false := by simp; omega
    have HB := Lib.hid (big_any a0 len0 cap0 w)
    rw [hbb] at HB
    have HD := Lib.hid (drawTune_any a0 len0 cap0 w (w0.src (by omega)))
    have HTS := Lib.hid ht
    clear hbb w0 ht
    go_enter Tryd.func4, Tryd.ntmps4
    go_wp2_with fail
    refine HB.out.mono ?_
    rintro e w1 ⟨rfl, rfl⟩
    go_wp2_with fail
    refine HD.out.mono ?_
    rintro e w1 ⟨x, v, log, s, hx, hsh, hss, rfl, ho, g1⟩
    obtain ⟨a1, c1, rfl⟩ := ho.row.lenv
    have hll := hsh.1
    have HTU := fun v W hr (hb : Below w.heap.size w W) => Lib.hid (tune_any x v log s W hx hr hsh (by omega) (HTS.out.below hb))
    have HSX := fun v v' W h h' => Lib.hid (sameSet_any x v v' log W h h' hll)
    have HSL := fun v v' W h h' => Lib.hid (sameTextsR_any v v' log W h h' (by omega))
    have HSP := fun W (hb : Below w.heap.size w W) => Lib.hid (splitFields_any s W (by omega) (HTS.out.below hb))
    have HSQ := fun (t : ByteArray) W (ht : t.size ≤ 1048576) (hb : Below w.heap.size w W) => Lib.hid (splitFields_any t W ht (HTS.out.below hb))
    unfold TunePost at HTU
    have hfine := tuneR_fine (q := (x, log)) (line := s.data.toList) ⟨hx, hsh⟩
    cases hq : tuneF x log s.data.toList with
    | none =>
      rw [tuneR_no (q := (x, log)) hq] at HTU
      obtain ⟨xc, xr, xs, xl, xt⟩ := x
      simp only [SetC.val] at *
      have k1 := heap_alloc_new w1 (.cells #[.int .i64 xc, .int .i64 xr, .float .f32 xs, .float .f32 xl, .float .f32 xt, .slice a1 log.length c1] 27)
      have g2 := g1.alloc g1.size (.cells #[.int .i64 xc, .int .i64 xr, .float .f32 xs, .float .f32 xl, .float .f32 xt, .slice a1 log.length c1] 27)
      have hz2 : (w1.alloc (.cells #[.int .i64 xc, .int .i64 xr, .float .f32 xs, .float .f32 xl, .float .f32 xt, .slice a1 log.length c1] 27)).heap.size = w1.heap.size + 1 := by simp
      have HO := Lib.hid (ho.alloc (.cells #[.int .i64 xc, .int .i64 xr, .float .f32 xs, .float .f32 xl, .float .f32 xt, .slice a1 log.length c1] 27))
      obtain ⟨p0, p1, p2, p3, p4, p5⟩ := SetAt.of (x := ⟨xc, xr, xs, xl, xt⟩) (v := .slice a1 log.length c1) k1
      clear ho hq hfine hsh hx HD HB
      go_wp2_with fail
      generalize World.alloc w1 _ = X at *
      refine (HTU _ X HO.out.row g2).out.mono ?_
      rintro e w3 ⟨v3, rfl, ho3, hb3⟩
      obtain ⟨a3, c3, rfl⟩ := ho3.row.lenv
      have g3 := below_trans g2 hb3 g2.size
      replace k1 := (hb3.block w1.heap.size (by omega)).trans k1
      have hz3 := hb3.size
      have k3 := heap_alloc_new w3 (.cells #[.int .i64 xc, .int .i64 xr, .float .f32 xs, .float .f32 xl, .float .f32 xt, .slice a3 log.length c3] 27)
      replace k1 := (alloc_keeps w3 (.cells #[.int .i64 xc, .int .i64 xr, .float .f32 xs, .float .f32 xl, .float .f32 xt, .slice a3 log.length c3] 27) (show w1.heap.size < w3.heap.size by omega)).trans k1
      have g4 := g3.alloc g3.size (.cells #[.int .i64 xc, .int .i64 xr, .float .f32 xs, .float .f32 xl, .float .f32 xt, .slice a3 log.length c3] 27)
      have H1 := Lib.hid ((HO.out.below hb3).alloc (.cells #[.int .i64 xc, .int .i64 xr, .float .f32 xs, .float .f32 xl, .float .f32 xt, .slice a3 log.length c3] 27)).row
      have H3 := Lib.hid (ho3.alloc (.cells #[.int .i64 xc, .int .i64 xr, .float .f32 xs, .float .f32 xl, .float .f32 xt, .slice a3 log.length c3] 27)).row
      clear p0 p1 p2 p3 p4 p5 hb3 ho3
      obtain ⟨p0, p1, p2, p3, p4, p5⟩ := SetAt.of (x := ⟨xc, xr, xs, xl, xt⟩) (v := .slice a1 log.length c1) k1
      obtain ⟨q0, q1, q2, q3, q4, q5⟩ := SetAt.of (x := ⟨xc, xr, xs, xl, xt⟩) (v := .slice a3 log.length c3) k3
      go_wp2_with fail
      generalize World.alloc w3 _ = X4 at *
      refine (HSX _ _ X4 H1.out H3.out).out.mono ?_
      rintro e w5 ⟨rfl, hb5⟩
      have g5 := below_trans g4 hb5 g4.size
      go_wp2
      go_ret
      exact ⟨rfl, g5⟩
    | some q =>
      rw [tuneR_yes (q := (x, log)) hq] at HTU hfine
      obtain ⟨hb1, hb2, hb3, hb4, hb5⟩ := tuneF_parts (q := (x, log)) hq
      obtain ⟨hj1, hj2⟩ := spl_join hb1
      have hjl : (Lib.join (spl s.data.toList) [32]).length ≤ 1048576 := by
        rcases spl_cases s.data.toList with ⟨h0, _⟩ | ⟨_, h1, h2⟩
        · rw [hb1] at h0; cases h0
        · rw [h1]
          have := join_small (l := s.data.toList)
          omega
      obtain ⟨y, out⟩ := q
      have hb5' : out = log ++ [Lib.join (spl s.data.toList) [32]] := hb5
      have hyok : y.ok := hfine.ok
      have hb4' : setB y (log.length + 1) = true := hb4
      have HOK := fun v W hr => Lib.hid (setOk_any y v (log ++ [Lib.join (spl s.data.toList) [32]]) W hyok hr (by have := hfine.log.1; rw [hb5'] at this; exact this))
      rw [show (log ++ [Lib.join (spl s.data.toList) [32]]).length = log.length + 1 by simp, hb4'] at HOK
      rw [hb5'] at HTU
      unfold SplitPost at HSP HSQ
      rw [hb1] at HSP
      have h24 : (spl s.data.toList).length ≤ 24 := spl_len _
      have HJ := Lib.hid (show spl (⟨(Lib.join (spl s.data.toList) [32]).toArray⟩ : ByteArray).data.toList = spl s.data.toList ∧ splB (⟨(Lib.join (spl s.data.toList) [32]).toArray⟩ : ByteArray).data.toList = true from ⟨by simpa using hj1, by simpa using hj2⟩)
      have HSQ1 := fun W hb => Lib.hid (HSQ ⟨(Lib.join (spl s.data.toList) [32]).toArray⟩ W (by simpa [ByteArray.size] using hjl) hb).out
      rw [HJ.out.1, HJ.out.2] at HSQ1
      clear hq hb1 hb2 hb3 hb4 hb5 hb4' hb5' hj1 hj2 hjl hfine HSQ HJ hyok HD HB
      have HSF := fun v v' W h h' => Lib.hid (sameTextsR_any v v' (spl s.data.toList) W h h' (by omega))
      generalize Lib.join (spl s.data.toList) [32] = J at *
      generalize spl s.data.toList = fs at *
      clear out
      obtain ⟨xc, xr, xs, xl, xt⟩ := x
      obtain ⟨yc, yr, ys, yl, yt⟩ := y
      simp only [SetC.val] at *
      have k1 := heap_alloc_new w1 (.cells #[.int .i64 xc, .int .i64 xr, .float .f32 xs, .float .f32 xl, .float .f32 xt, .slice a1 log.length c1] 27)
      have g2 := g1.alloc g1.size (.cells #[.int .i64 xc, .int .i64 xr, .float .f32 xs, .float .f32 xl, .float .f32 xt, .slice a1 log.length c1] 27)
      have hz2 : (w1.alloc (.cells #[.int .i64 xc, .int .i64 xr, .float .f32 xs, .float .f32 xl, .float .f32 xt, .slice a1 log.length c1] 27)).heap.size = w1.heap.size + 1 := by simp
      have HO := Lib.hid (ho.alloc (.cells #[.int .i64 xc, .int .i64 xr, .float .f32 xs, .float .f32 xl, .float .f32 xt, .slice a1 log.length c1] 27))
      obtain ⟨p0, p1, p2, p3, p4, p5⟩ := SetAt.of (x := ⟨xc, xr, xs, xl, xt⟩) (v := .slice a1 log.length c1) k1
      clear ho hsh hx
      go_wp2_with fail
      generalize World.alloc w1 _ = X at *
      refine (HTU _ X HO.out.row g2).out.mono ?_
      rintro e w3 ⟨v3, rfl, ho3, hb3⟩
      obtain ⟨a3, c3, hv3⟩ := ho3.row.lenv
      rw [show (log ++ [J]).length = log.length + 1 by simp] at hv3
      subst hv3
      have g3 := below_trans g2 hb3 g2.size
      have hz3 := hb3.size
      replace k1 := (hb3.block w1.heap.size (by omega)).trans k1
      have k3 := heap_alloc_new w3 (.cells #[.int .i64 yc, .int .i64 yr, .float .f32 ys, .float .f32 yl, .float .f32 yt, .slice a3 (log.length + 1) c3] 27)
      replace k1 := (alloc_keeps w3 (.cells #[.int .i64 yc, .int .i64 yr, .float .f32 ys, .float .f32 yl, .float .f32 yt, .slice a3 (log.length + 1) c3] 27) (show w1.heap.size < w3.heap.size by omega)).trans k1
      have g4 := g3.alloc g3.size (.cells #[.int .i64 yc, .int .i64 yr, .float .f32 ys, .float .f32 yl, .float .f32 yt, .slice a3 (log.length + 1) c3] 27)
      have hz4 : (w3.alloc (.cells #[.int .i64 yc, .int .i64 yr, .float .f32 ys, .float .f32 yl, .float .f32 yt, .slice a3 (log.length + 1) c3] 27)).heap.size = w3.heap.size + 1 := by simp
      replace HO := Lib.hid ((HO.out.below hb3).alloc (.cells #[.int .i64 yc, .int .i64 yr, .float .f32 ys, .float .f32 yl, .float .f32 yt, .slice a3 (log.length + 1) c3] 27))
      have H3 := Lib.hid (ho3.alloc (.cells #[.int .i64 yc, .int .i64 yr, .float .f32 ys, .float .f32 yl, .float .f32 yt, .slice a3 (log.length + 1) c3] 27))
      clear p0 p1 p2 p3 p4 p5 hb3 ho3 HTU
      obtain ⟨p0, p1, p2, p3, p4, p5⟩ := SetAt.of (x := ⟨xc, xr, xs, xl, xt⟩) (v := .slice a1 log.length c1) k1
      obtain ⟨q0, q1, q2, q3, q4, q5⟩ := SetAt.of (x := ⟨yc, yr, ys, yl, yt⟩) (v := .slice a3 (log.length + 1) c3) k3
      go_wp2_with fail
      generalize World.alloc w3 _ = X4 at *
      refine (HOK _ X4 H3.out.row).out.mono ?_
      rintro e w5 ⟨rfl, hb5⟩
      have g5 := below_trans g4 hb5 g4.size
      have hz5 := hb5.size
      replace k1 := (hb5.block w1.heap.size (by omega)).trans k1
      replace k3 := (hb5.block w3.heap.size (by omega)).trans k3
      replace HO := Lib.hid (HO.out.below hb5)
      replace H3 := Lib.hid (H3.out.below hb5)
      clear p0 p1 p2 p3 p4 p5 q0 q1 q2 q3 q4 q5 hb5
      go_wp2_with fail
      refine (HSP w5 g5).out.mono ?_
      rintro e w6 ⟨v6, rfl, ho6, hb6⟩
      obtain ⟨a6, c6, rfl⟩ := ho6.row.lenv
      have g6 := below_trans g5 hb6 g5.size
      have hz6 := hb6.size
      replace k1 := (hb6.block w1.heap.size (by omega)).trans k1
      replace k3 := (hb6.block w3.heap.size (by omega)).trans k3
      replace HO := Lib.hid (HO.out.below hb6)
      replace H3 := Lib.hid (H3.out.below hb6)
      obtain ⟨g, hg, hcap, hlc⟩ := last_cell H3.out rfl
      subst hg
      unfold strV at hlc
      have H6 := Lib.hid ho6
      obtain ⟨q0, q1, q2, q3, q4, q5⟩ := SetAt.of (x := ⟨yc, yr, ys, yl, yt⟩) (v := .slice (some ⟨g, 0, none⟩) (log.length + 1) c3) k3
      clear ho6 hb6
      go_wp2_with fail
      refine (HSQ1 w6 g6).out.mono ?_
      rintro e w7 ⟨v7, rfl, ho7, hb7⟩
      obtain ⟨a7, c7, rfl⟩ := ho7.row.lenv
      have g7 := below_trans g6 hb7 g6.size
      have hz7 := hb7.size
      replace k1 := (hb7.block w1.heap.size (by omega)).trans k1
      replace k3 := (hb7.block w3.heap.size (by omega)).trans k3
      replace HO := Lib.hid (HO.out.below hb7)
      replace H3 := Lib.hid (H3.out.below hb7)
      replace H6 := Lib.hid (H6.out.below hb7)
      have H7 := Lib.hid ho7
      have HFR := Lib.hid (front_row H3.out rfl)
      clear q0 q1 q2 q3 q4 q5 ho7 hb7 hlc
      obtain ⟨p0, p1, p2, p3, p4, p5⟩ := SetAt.of (x := ⟨xc, xr, xs, xl, xt⟩) (v := .slice a1 log.length c1) k1
      obtain ⟨q0, q1, q2, q3, q4, q5⟩ := SetAt.of (x := ⟨yc, yr, ys, yl, yt⟩) (v := .slice (some ⟨g, 0, none⟩) (log.length + 1) c3) k3
      have hcz : ¬ (c3 : Int) < (log.length : Int) := by omega
      have HQ1 := fun n => Lib.hid (HSF (.slice a6 fs.length c6) (.slice a7 fs.length c7) (w7.drewN n) (H6.out.row.below (belowN (Below.refl _ _) n)) (H7.out.row.below (belowN (Below.refl _ _) n))).out
      have HQ2 := fun n => Lib.hid (HSL (.slice (some ⟨g, 0, none⟩) log.length c3) (.slice a1 log.length c1) (w7.drewN n) (HFR.out.below (belowN (Below.refl _ _) n)) (HO.out.row.below (belowN (Below.refl _ _) n))).out
      go_wp2
      go_quiet (first
        | (go_at_call 19; with_reducible (first | exact qt_ex (HQ1 _).out | exact qt_ex1 (HQ1 _).out | exact qt_ex (HQ2 _).out | exact qt_ex1 (HQ2 _).out)))
      go_wp2
      go_ret
      exact ⟨rfl, belowN g7 _⟩
theorem tabS_ofT {W : World} (h : laidMetH Tryd.prog Rows.fnTuneOneRow.laid W) : TabS W := by
  have h1 := laidMetH.filter (fun x => x.1 == "strings.asciiSpace") h
  rw [MakeChecks.laidMetH_plain _ _ _ (by kernel_rfl)] at h1
  exact tabS_one (rest := []) h1
end Go.Proofs.YtobpnoiienpipaaDoor
