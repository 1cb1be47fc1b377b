/-
  What is proved: the walk of the law FnReported.
  Conditions: the library's tables of spaces and of powers of ten hold what their initialisers lay.
-/
import Derived.Test.YtobpnoiienpipaaDoorPkRR
import Derived.Test.YtobpnoiienpipaaDoorPkRD
import Derived.Deep.RegionHeld3
import Derived.Test.YtobpnoiienpipaaDoorPkTA
import Derived.Deep.RegionLaw
namespace Go.Proofs.YtobpnoiienpipaaDoor
set_option linter.unusedVariables false
open Go.RowKit
attribute [local go_sem] run_store_float run_store_complex unary_negf neg256

set_option maxHeartbeats 1000000 in
theorem sameBools_any (v v' : Value) (xs : List Bool) (w : World) (h : LB.Row w v xs) (h' : LB.Row w v' xs) (hl : xs.length ≤ 1000000000) :
    Calls Tryd.prog 24 #[v, v'] w fun e w' => e = .returned (.bool true) ∧ ∃ n, w' = w.drewN n := by
  obtain ⟨a, c, rfl, hcell⟩ := bools_any h
  obtain ⟨a', c', rfl, hcell'⟩ := bools_any h'
  have HC := Lib.hid hcell
  have HC' := Lib.hid hcell'
  clear hcell hcell' h h'
  go_enter Tryd.func24, Tryd.ntmps24
  go_wp2
  go_loopw [5] (fun i wr => ∃ k q : Nat, k ≤ xs.length ∧ i = .int .i64 (k : Int) ∧ wr = w.drewN q) (fun i _ => xs.length - (intOf i).toNat)
  case atStart => exact ⟨0, 0, Nat.zero_le _, rfl, rfl⟩
  case round =>
    obtain ⟨k, q, hk, rfl, rfl⟩ := hrel
    by_cases hlt : k < xs.length
    · obtain ⟨g, o, rfl, hcap, hc0⟩ := HC.out k hlt
      obtain ⟨g', o', rfl, hcap', hc0'⟩ := HC'.out k hlt
      generalize xs[k] = x at *
      go_wp2
      go_quiet (fail)
      go_wp2
      go_roundw
      case rel => exact ⟨k + 1, _, by omega, by go_num, rfl⟩
      case measure => simp [intOf]; omega
    · go_wp2
      go_ret
      exact ⟨rfl, _, rfl⟩
theorem three_texts (W : World) (s t u : List UInt8) : OwnS (W.alloc (.cells #[.string ⟨s.toArray⟩, .string ⟨t.toArray⟩, .string ⟨u.toArray⟩] 9)) W.heap.size (.slice (some ⟨W.heap.size, 0, none⟩) 3 3) [s, t, u] :=
  ⟨rfl, .inr ⟨W.heap.size, 3, #[strV s, strV t, strV u], rfl, Nat.le_refl _, heap_alloc_new W _, Nat.le_refl _, by unfold maxLen; omega, rfl, rfl⟩⟩
theorem three_bools (W : World) : LB.Own (W.alloc (.cells #[.bool true, .bool true, .bool true] 4)) W.heap.size (.slice (some ⟨W.heap.size, 0, none⟩) 3 3) [true, true, true] :=
  ⟨rfl, .inr ⟨W.heap.size, 3, #[.bool true, .bool true, .bool true], rfl, Nat.le_refl _, heap_alloc_new W _, Nat.le_refl _, by unfold maxLen; omega, rfl, rfl⟩⟩
theorem cat_text (a b : List UInt8) : (⟨a.toArray⟩ : ByteArray) ++ ⟨b.toArray⟩ = ⟨(a ++ b).toArray⟩ := by
  apply ByteArray.ext
  simp [ByteArray.data_append]
set_option maxRecDepth 100000 in
set_option maxHeartbeats 8000000 in
theorem walk_FnReported (a0 : Option Addr) (len0 cap0 : Nat) (z0 : List Int) (w : World) (w0 : IsRow .u8 w a0 len0 cap0 z0) (htab : Tab w) (ht : TabS w) :
    Calls Tryd.prog 5 #[.slice a0 len0 cap0] w fun e w' => e = .returned (.bool true) ∧ Below w.heap.size w w' := by
  by_cases hbig : 1048576 < len0
  · have hbb : decide ((1048576 : Int) < len0) = true := by simp; omega
    have HB := Lib.hid (big_any a0 len0 cap0 w)
    rw [hbb] at HB
    clear hbb
    go_enter Tryd.func5, Tryd.ntmps5
    go_wp2_with fail
    refine HB.out.mono ?_
    rintro e w1 ⟨rfl, rfl⟩
    go_wp2
    go_ret
    exact ⟨rfl, Below.refl _ _⟩
  · have hbb : decide ((1048576 : Int) < len0) = false := by simp; omega
    have HB := Lib.hid (big_any a0 len0 cap0 w)
    rw [hbb] at HB
    have HD := Lib.hid (drawReport_any a0 len0 cap0 w (w0.src (by omega)))
    have HTS := Lib.hid ht
    have HTT := Lib.hid htab
    clear hbb w0 ht htab
    go_enter Tryd.func5, Tryd.ntmps5
    go_wp2_with fail
    refine HB.out.mono ?_
    rintro e w1 ⟨rfl, rfl⟩
    go_wp2_with fail
    refine HD.out.mono ?_
    rintro e w1 ⟨x, v, log, hx, hsh, rfl, ho, g1⟩
    obtain ⟨a1, c1, rfl⟩ := ho.row.lenv
    have hll := hsh.1
    have HREP := fun W hr (hb : Below w.heap.size w W) => Lib.hid (report_any x (.slice a1 log.length c1) log W hx hr hll (HTT.out.below hb))
    have HOK := fun W hr => Lib.hid (specSetOk_any x (.slice a1 log.length c1) log W hx hr hll)
    have HSP := fun (t : ByteArray) W (ht : t.size ≤ 1048576) (hb : Below w.heap.size w W) => Lib.hid (splitFields_any t W ht (HTS.out.below hb))
    have HNEW := fun W => Lib.hid (newSet_any x.c x.r W hx.1 hx.2)
    unfold SplitPost at HSP
    have hx1 := hx.1
    have hx2 := hx.2
    cases hv : setB x log.length with
    | false =>
      rw [hv] at HREP HOK
      simp only [Bool.false_eq_true, if_false] at HREP
      obtain ⟨xc, xr, xs, xl, xt⟩ := x
      simp only [SetC.val] at *
      have k1 := heap_alloc_new w1 (.cells #[.int .i64 xc, .int .i64 xr, .float .f32 xs, .float .f32 xl, .float .f32 xt, .slice a1 log.length c1] 27)
      have g2 := g1.alloc g1.size (.cells #[.int .i64 xc, .int .i64 xr, .float .f32 xs, .float .f32 xl, .float .f32 xt, .slice a1 log.length c1] 27)
      have hz2 : (w1.alloc (.cells #[.int .i64 xc, .int .i64 xr, .float .f32 xs, .float .f32 xl, .float .f32 xt, .slice a1 log.length c1] 27)).heap.size = w1.heap.size + 1 := by simp
      have HO := Lib.hid (ho.alloc (.cells #[.int .i64 xc, .int .i64 xr, .float .f32 xs, .float .f32 xl, .float .f32 xt, .slice a1 log.length c1] 27))
      obtain ⟨p0, p1, p2, p3, p4, p5⟩ := SetAt.of (x := ⟨xc, xr, xs, xl, xt⟩) (v := .slice a1 log.length c1) k1
      clear ho hsh hx HD HB hv HSP HNEW hx1 hx2
      go_wp2_with fail
      generalize World.alloc w1 _ = X at *
      refine (HREP X HO.out.row g2).out.mono ?_
      rintro e w3 ⟨rfl, hb3⟩
      have g3 := below_trans g2 hb3 g2.size
      replace k1 := (hb3.block w1.heap.size (by omega)).trans k1
      replace HO := Lib.hid (HO.out.below hb3)
      clear p0 p1 p2 p3 p4 p5 hb3
      obtain ⟨p0, p1, p2, p3, p4, p5⟩ := SetAt.of (x := ⟨xc, xr, xs, xl, xt⟩) (v := .slice a1 log.length c1) k1
      go_wp2_with fail
      refine (HOK w3 HO.out.row).out.mono ?_
      rintro e w4 ⟨rfl, hb4⟩
      have g4 := below_trans g3 hb4 g3.size
      go_wp2
      go_ret
      exact ⟨rfl, g4⟩
    | true =>
      obtain ⟨ns, nl, nt, hk⟩ := repK hv
      obtain ⟨hf1, hf2, hf3⟩ := hk.fields
      obtain ⟨ht1, ht2, ht3, ht4⟩ := hk.tuned
      rw [hv] at HREP HOK
      simp only [if_true] at HREP
      have hcr := rowCnt_pos hk.r
      have hlok : Short (repLines ns nl nt) := ⟨by simp [repLines], fun l hl => by
        have l3 := ffx_len ns
        have l4 := ffx_len nl
        have l5 := ffx_len nt
        simp only [repLines, List.mem_cons, List.not_mem_nil, or_false] at hl
        rcases hl with rfl | rfl | rfl <;> simp [kSlice, kKiller, kSat] <;> omega⟩
      have hnok : (newC x.c x.r).ok := newC_ok hx1 hx2
      have HALL := fun u W hr (hb : Below w.heap.size w W) => Lib.hid (tuneAll_any (newC x.c x.r) (.slice none 0 0) u [] (repLines ns nl nt) W hnok (.inl ⟨⟨_, _, rfl⟩, rfl⟩) ⟨by simp, by simp⟩ hr hlok (HTS.out.below hb))
      unfold AllPost at HALL
      rw [ht2] at HALL
      have hnr : newR x.c x.r = newC x.c x.r := by unfold newR; rw [if_pos ht1]
      rw [hnr, ht1] at HNEW
      have hok2 : (repSet x ns nl nt).ok := ⟨hx1, hx2⟩
      have hln3 : (repLines ns nl nt).length = 3 := rfl
      have HREP2 := fun v W hr (hb : Below w.heap.size w W) => Lib.hid (report_any (repSet x ns nl nt) v (repLines ns nl nt) W hok2 hr (by rw [hln3]; decide) (HTT.out.below hb))
      rw [hln3, ht3, ht4] at HREP2
      simp only [if_true] at HREP2
      have HSP1 := fun W hb => Lib.hid (HSP ⟨(repT x).toArray⟩ W (by simp [ByteArray.size]; omega) hb).out
      rw [show ((⟨(repT x).toArray⟩ : ByteArray).data.toList) = repT x by simp, hf1, hf2] at HSP1
      have HL3 := Lib.hid (show repLines ns nl nt = [kSlice ++ 32 :: ffx ns, kKiller ++ 32 :: ffx nl, kSat ++ 32 :: ffx nt] from rfl)
      have hs1 : (ffx ns).length ≤ 100 := ffx_len ns
      have hs2 : (ffx nl).length ≤ 100 := ffx_len nl
      have hs3 : (ffx nt).length ≤ 100 := ffx_len nt
      clear hf1 hf2 ht1 ht2 ht3 ht4 hk hv HSP hnok hlok hok2 hnr hcr hsh hx HD HB hx1 hx2
      have hc1 : (⟨#[115, 108, 105, 99, 101, 32]⟩ : ByteArray) ++ ⟨(ffx ns).toArray⟩ = ⟨(kSlice ++ 32 :: ffx ns).toArray⟩ := cat_text [115, 108, 105, 99, 101, 32] (ffx ns)
      have hc2 : (⟨#[107, 105, 108, 108, 101, 114, 32]⟩ : ByteArray) ++ ⟨(ffx nl).toArray⟩ = ⟨(kKiller ++ 32 :: ffx nl).toArray⟩ := cat_text [107, 105, 108, 108, 101, 114, 32] (ffx nl)
      have hc3 : (⟨#[115, 97, 116, 117, 114, 97, 116, 105, 111, 110, 32]⟩ : ByteArray) ++ ⟨(ffx nt).toArray⟩ = ⟨(kSat ++ 32 :: ffx nt).toArray⟩ := cat_text [115, 97, 116, 117, 114, 97, 116, 105, 111, 110, 32] (ffx nt)
      have HC1 := Lib.hid hc1
      have HC2 := Lib.hid hc2
      have HC3 := Lib.hid hc3
      clear hc1 hc2 hc3
      generalize Lib.itoa x.c = ic at *
      generalize Lib.itoa x.r = ir at *
      generalize hrl : repLines ns nl nt = RL at *
      generalize kSlice ++ 32 :: ffx ns = L1 at *
      generalize kKiller ++ 32 :: ffx nl = L2 at *
      generalize kSat ++ 32 :: ffx nt = L3 at *
      clear hrl
      have HR3 := Lib.hid (show RL = [L1, L2, L3] from HL3.out)
      clear HL3
      generalize ffx ns = f3 at *
      generalize ffx nl = f4 at *
      generalize ffx nt = f5 at *
      generalize repSet x ns nl nt = y at *
      generalize repT x = R at *
      obtain ⟨xc, xr, xs, xl, xt⟩ := x
      obtain ⟨yc, yr, ys, yl, yt⟩ := y
      simp only [SetC.val, newC] at *
      have k1 := heap_alloc_new w1 (.cells #[.int .i64 xc, .int .i64 xr, .float .f32 xs, .float .f32 xl, .float .f32 xt, .slice a1 log.length c1] 27)
      have g2 := g1.alloc g1.size (.cells #[.int .i64 xc, .int .i64 xr, .float .f32 xs, .float .f32 xl, .float .f32 xt, .slice a1 log.length c1] 27)
      have hz2 : (w1.alloc (.cells #[.int .i64 xc, .int .i64 xr, .float .f32 xs, .float .f32 xl, .float .f32 xt, .slice a1 log.length c1] 27)).heap.size = w1.heap.size + 1 := by simp
      have HO := Lib.hid (ho.alloc (.cells #[.int .i64 xc, .int .i64 xr, .float .f32 xs, .float .f32 xl, .float .f32 xt, .slice a1 log.length c1] 27))
      obtain ⟨p0, p1, p2, p3, p4, p5⟩ := SetAt.of (x := ⟨xc, xr, xs, xl, xt⟩) (v := .slice a1 log.length c1) k1
      clear ho
      go_wp2_with fail
      generalize World.alloc w1 _ = X at *
      refine (HREP X HO.out.row g2).out.mono ?_
      rintro e w3 ⟨rfl, hb3⟩
      have g3 := below_trans g2 hb3 g2.size
      have hz3 := hb3.size
      replace k1 := (hb3.block w1.heap.size (by omega)).trans k1
      replace HO := Lib.hid (HO.out.below hb3)
      clear p0 p1 p2 p3 p4 p5 hb3 HREP
      obtain ⟨p0, p1, p2, p3, p4, p5⟩ := SetAt.of (x := ⟨xc, xr, xs, xl, xt⟩) (v := .slice a1 log.length c1) k1
      go_wp2_with fail
      refine (HOK w3 HO.out.row).out.mono ?_
      rintro e w4 ⟨rfl, hb4⟩
      have g4 := below_trans g3 hb4 g3.size
      have hz4 := hb4.size
      replace k1 := (hb4.block w1.heap.size (by omega)).trans k1
      clear p0 p1 p2 p3 p4 p5 hb4 HOK HO
      go_wp2_with fail
      refine (HSP1 w4 g4).out.mono ?_
      rintro e w5 ⟨v5, rfl, ho5, hb5⟩
      rcases ho5.shape with ⟨_, e⟩ | ⟨g, cap, rfl, hgb, hgl, hcap, _⟩
      · cases e
      have g5 := below_trans g4 hb5 g4.size
      have hz5 := hb5.size
      replace k1 := (hb5.block w1.heap.size (by omega)).trans k1
      have hcap5 : 5 ≤ cap := hcap
      have H5 := Lib.hid ho5
      obtain ⟨p0, p1, p2, p3, p4, p5⟩ := SetAt.of (x := ⟨xc, xr, xs, xl, xt⟩) (v := .slice a1 log.length c1) k1
      clear ho5 hb5 hcap HSP1
      simp only [List.length_cons, List.length_nil, Nat.zero_add, Nat.reduceAdd] at *
      go_wp2_with fail
      refine (HNEW w5).out.mono ?_
      rintro e w6 ⟨rfl, hb6⟩
      have g6 := below_trans g5 hb6 g5.size
      have hz6 := hb6.size
      replace H5 := Lib.hid (H5.out.below hb6)
      clear p0 p1 p2 p3 p4 p5 hb6 k1
      have k6 := heap_alloc_new w6 (.cells #[.int .i64 xc, .int .i64 xr, .float .f32 3250585600, .float .f32 1040187392, .float .f32 1065353216, .slice none 0 0] 27)
      have g7 := g6.alloc g6.size (.cells #[.int .i64 xc, .int .i64 xr, .float .f32 3250585600, .float .f32 1040187392, .float .f32 1065353216, .slice none 0 0] 27)
      have hz7 : (w6.alloc (.cells #[.int .i64 xc, .int .i64 xr, .float .f32 3250585600, .float .f32 1040187392, .float .f32 1065353216, .slice none 0 0] 27)).heap.size = w6.heap.size + 1 := by simp
      replace H5 := Lib.hid (H5.out.alloc (.cells #[.int .i64 xc, .int .i64 xr, .float .f32 3250585600, .float .f32 1040187392, .float .f32 1065353216, .slice none 0 0] 27))
      have c2' := (H5.out.cell 2 (by simp)).1
      have c3' := (H5.out.cell 3 (by simp)).1
      have c4' := (H5.out.cell 4 (by simp)).1
      simp only [List.getElem_cons_succ, List.getElem_cons_zero, strV] at c2' c3' c4'
      have hgl7 : g < (w6.alloc (.cells #[.int .i64 xc, .int .i64 xr, .float .f32 3250585600, .float .f32 1040187392, .float .f32 1065353216, .slice none 0 0] 27)).heap.size := by omega
      go_wp2_with fail
      generalize World.alloc w6 _ = W7 at *
      have A7 := SetAt.of (x := ⟨xc, xr, 3250585600, 1040187392, 1065353216⟩) (v := .slice none 0 0) k6
      obtain ⟨q0, q1, q2, q3, q4, q5⟩ := id A7
      have HT3 := Lib.hid (show TRow (W7.alloc (.cells #[.string ((⟨#[115, 108, 105, 99, 101, 32]⟩ : ByteArray) ++ (⟨f3.toArray⟩ : ByteArray)), .string ((⟨#[107, 105, 108, 108, 101, 114, 32]⟩ : ByteArray) ++ (⟨f4.toArray⟩ : ByteArray)), .string ((⟨#[115, 97, 116, 117, 114, 97, 116, 105, 111, 110, 32]⟩ : ByteArray) ++ (⟨f5.toArray⟩ : ByteArray))] 9)).drew (.slice (some ⟨w6.heap.size + 1, 0, none⟩) 3 3) RL from by
        rw [← hz7, HC1.out, HC2.out, HC3.out, HR3.out]
        exact ((three_texts W7 L1 L2 L3).below (Below.refl _ _).drew).row)
      have HB7 := Lib.hid (show Below w.heap.size w (W7.alloc (.cells #[.string ((⟨#[115, 108, 105, 99, 101, 32]⟩ : ByteArray) ++ (⟨f3.toArray⟩ : ByteArray)), .string ((⟨#[107, 105, 108, 108, 101, 114, 32]⟩ : ByteArray) ++ (⟨f4.toArray⟩ : ByteArray)), .string ((⟨#[115, 97, 116, 117, 114, 97, 116, 105, 111, 110, 32]⟩ : ByteArray) ++ (⟨f5.toArray⟩ : ByteArray))] 9)).drew from (g7.alloc g7.size _).drew)
      have HK7 := Lib.hid (show (W7.alloc (.cells #[.string ((⟨#[115, 108, 105, 99, 101, 32]⟩ : ByteArray) ++ (⟨f3.toArray⟩ : ByteArray)), .string ((⟨#[107, 105, 108, 108, 101, 114, 32]⟩ : ByteArray) ++ (⟨f4.toArray⟩ : ByteArray)), .string ((⟨#[115, 97, 116, 117, 114, 97, 116, 105, 111, 110, 32]⟩ : ByteArray) ++ (⟨f5.toArray⟩ : ByteArray))] 9)).drew.heap[w6.heap.size]? = some (.cells #[.int .i64 xc, .int .i64 xr, .float .f32 3250585600, .float .f32 1040187392, .float .f32 1065353216, .slice none 0 0] 27 (0, 0)) from (alloc_keeps W7 (.cells #[.string ((⟨#[115, 108, 105, 99, 101, 32]⟩ : ByteArray) ++ (⟨f3.toArray⟩ : ByteArray)), .string ((⟨#[107, 105, 108, 108, 101, 114, 32]⟩ : ByteArray) ++ (⟨f4.toArray⟩ : ByteArray)), .string ((⟨#[115, 97, 116, 117, 114, 97, 116, 105, 111, 110, 32]⟩ : ByteArray) ++ (⟨f5.toArray⟩ : ByteArray))] 9) (show w6.heap.size < W7.heap.size by omega)).trans k6)
      have hzz7 : (W7.alloc (.cells #[.string ((⟨#[115, 108, 105, 99, 101, 32]⟩ : ByteArray) ++ (⟨f3.toArray⟩ : ByteArray)), .string ((⟨#[107, 105, 108, 108, 101, 114, 32]⟩ : ByteArray) ++ (⟨f4.toArray⟩ : ByteArray)), .string ((⟨#[115, 97, 116, 117, 114, 97, 116, 105, 111, 110, 32]⟩ : ByteArray) ++ (⟨f5.toArray⟩ : ByteArray))] 9)).drew.heap.size = W7.heap.size + 1 := by show (W7.alloc (.cells #[.string ((⟨#[115, 108, 105, 99, 101, 32]⟩ : ByteArray) ++ (⟨f3.toArray⟩ : ByteArray)), .string ((⟨#[107, 105, 108, 108, 101, 114, 32]⟩ : ByteArray) ++ (⟨f4.toArray⟩ : ByteArray)), .string ((⟨#[115, 97, 116, 117, 114, 97, 116, 105, 111, 110, 32]⟩ : ByteArray) ++ (⟨f5.toArray⟩ : ByteArray))] 9)).heap.size = _; simp
      have n1 : ¬ 9223372036854775807 < 6 + f3.length := by omega
      have n2 : ¬ 9223372036854775807 < 7 + f4.length := by omega
      have n3 : ¬ 9223372036854775807 < 11 + f5.length := by omega
      clear A7 k6 HC1 HC2 HC3
      have hgw : g ≠ w6.heap.size := by omega
      have hwg : w6.heap.size ≠ g := by omega
      refine wp_region_noPanic ?_
      refine wp_region_held_drew (S := fun V => V.cell? ⟨g, 2, none⟩ = some (.string ⟨f3.toArray⟩) ∧ V.cell? ⟨g, 3, none⟩ = some (.string ⟨f4.toArray⟩) ∧ V.cell? ⟨g, 4, none⟩ = some (.string ⟨f5.toArray⟩)) (by kernel_rfl) ⟨c2', c3', c4'⟩ (fun hHeld => ?_)
      refine wpAnyH_take (i := 1) (oi := ⟨some 43, Op.move (Operand.tmp 5), 25, _, _, none⟩) (v := ?_) rfl (by kernel_rfl) (by kernel_rfl) (by kernel_rfl) (fun _ _ _ h => h) (Or.inl ⟨by rfl, ?_⟩) (by assumption) ?_
      rotate_left
      · intro w hSw; (try dsimp only at hSw); go_simp; (try with_reducible rfl)
      try simp only [Act.put, List.setIfInBounds_toArray, List.set_cons_zero, List.set_cons_succ]
      refine wpAnyH_take (i := 2) (oi := ⟨some 44, Op.indexAddr 25 (Operand.tmp 43) (Operand.const (Value.int IntKind.i64 2)), _, _, _, none⟩) (v := ?_) rfl (by kernel_rfl) (by kernel_rfl) (by kernel_rfl) (fun _ _ _ h => h) (Or.inl ⟨by rfl, ?_⟩) (by assumption) ?_
      rotate_left
      · intro w hSw; (try dsimp only at hSw); go_simp; (try with_reducible rfl)
      try simp only [Act.put, List.setIfInBounds_toArray, List.set_cons_zero, List.set_cons_succ]
      refine wpAnyH_take (i := 3) (oi := ⟨some 45, Op.load 9 (Operand.tmp 44), 9, _, _, none⟩) (v := ?_) rfl (by kernel_rfl) (by kernel_rfl) (by kernel_rfl) (fun _ _ _ h => h) (Or.inl ⟨by rfl, ?_⟩) (by assumption) ?_
      rotate_left
      · intro w hSw; (try dsimp only at hSw); go_simp; (try with_reducible rfl)
      try simp only [Act.put, List.setIfInBounds_toArray, List.set_cons_zero, List.set_cons_succ]
      refine wpAnyH_take (i := 4) (oi := ⟨some 46, Op.binOp BinOp.add 9 (Operand.const (Value.string ⟨#[115, 108, 105, 99, 101, 32]⟩)) (Operand.tmp 45) 9, 9, _, _, none⟩) (v := ?_) rfl (by kernel_rfl) (by kernel_rfl) (by kernel_rfl) (fun _ _ _ h => h) (Or.inl ⟨by rfl, ?_⟩) (by assumption) ?_
      rotate_left
      · intro w hSw; (try dsimp only at hSw); go_simp; (try with_reducible rfl)
      try simp only [Act.put, List.setIfInBounds_toArray, List.set_cons_zero, List.set_cons_succ]
      refine wpAnyH_take (i := 5) (oi := ⟨some 47, Op.move (Operand.tmp 5), 25, _, _, none⟩) (v := ?_) rfl (by kernel_rfl) (by kernel_rfl) (by kernel_rfl) (fun _ _ _ h => h) (Or.inl ⟨by rfl, ?_⟩) (by assumption) ?_
      rotate_left
      · intro w hSw; (try dsimp only at hSw); go_simp; (try with_reducible rfl)
      try simp only [Act.put, List.setIfInBounds_toArray, List.set_cons_zero, List.set_cons_succ]
      refine wpAnyH_take (i := 6) (oi := ⟨some 48, Op.indexAddr 25 (Operand.tmp 47) (Operand.const (Value.int IntKind.i64 3)), _, _, _, none⟩) (v := ?_) rfl (by kernel_rfl) (by kernel_rfl) (by kernel_rfl) (fun _ _ _ h => h) (Or.inl ⟨by rfl, ?_⟩) (by assumption) ?_
      rotate_left
      · intro w hSw; (try dsimp only at hSw); go_simp; (try with_reducible rfl)
      try simp only [Act.put, List.setIfInBounds_toArray, List.set_cons_zero, List.set_cons_succ]
      refine wpAnyH_take (i := 7) (oi := ⟨some 49, Op.load 9 (Operand.tmp 48), 9, _, _, none⟩) (v := ?_) rfl (by kernel_rfl) (by kernel_rfl) (by kernel_rfl) (fun _ _ _ h => h) (Or.inl ⟨by rfl, ?_⟩) (by assumption) ?_
      rotate_left
      · intro w hSw; (try dsimp only at hSw); go_simp; (try with_reducible rfl)
      try simp only [Act.put, List.setIfInBounds_toArray, List.set_cons_zero, List.set_cons_succ]
      refine wpAnyH_take (i := 8) (oi := ⟨some 50, Op.binOp BinOp.add 9 (Operand.const (Value.string ⟨#[107, 105, 108, 108, 101, 114, 32]⟩)) (Operand.tmp 49) 9, 9, _, _, none⟩) (v := ?_) rfl (by kernel_rfl) (by kernel_rfl) (by kernel_rfl) (fun _ _ _ h => h) (Or.inl ⟨by rfl, ?_⟩) (by assumption) ?_
      rotate_left
      · intro w hSw; (try dsimp only at hSw); go_simp; (try with_reducible rfl)
      try simp only [Act.put, List.setIfInBounds_toArray, List.set_cons_zero, List.set_cons_succ]
      refine wpAnyH_take (i := 9) (oi := ⟨some 51, Op.move (Operand.tmp 5), 25, _, _, none⟩) (v := ?_) rfl (by kernel_rfl) (by kernel_rfl) (by kernel_rfl) (fun _ _ _ h => h) (Or.inl ⟨by rfl, ?_⟩) (by assumption) ?_
      rotate_left
      · intro w hSw; (try dsimp only at hSw); go_simp; (try with_reducible rfl)
      try simp only [Act.put, List.setIfInBounds_toArray, List.set_cons_zero, List.set_cons_succ]
      refine wpAnyH_take (i := 10) (oi := ⟨some 52, Op.indexAddr 25 (Operand.tmp 51) (Operand.const (Value.int IntKind.i64 4)), _, _, _, none⟩) (v := ?_) rfl (by kernel_rfl) (by kernel_rfl) (by kernel_rfl) (fun _ _ _ h => h) (Or.inl ⟨by rfl, ?_⟩) (by assumption) ?_
      rotate_left
      · intro w hSw; (try dsimp only at hSw); go_simp; (try with_reducible rfl)
      try simp only [Act.put, List.setIfInBounds_toArray, List.set_cons_zero, List.set_cons_succ]
      refine wpAnyH_take (i := 11) (oi := ⟨some 53, Op.load 9 (Operand.tmp 52), 9, _, _, none⟩) (v := ?_) rfl (by kernel_rfl) (by kernel_rfl) (by kernel_rfl) (fun _ _ _ h => h) (Or.inl ⟨by rfl, ?_⟩) (by assumption) ?_
      rotate_left
      · intro w hSw; (try dsimp only at hSw); go_simp; (try with_reducible rfl)
      try simp only [Act.put, List.setIfInBounds_toArray, List.set_cons_zero, List.set_cons_succ]
      refine wpAnyH_take (i := 12) (oi := ⟨some 54, Op.binOp BinOp.add 9 (Operand.const (Value.string ⟨#[115, 97, 116, 117, 114, 97, 116, 105, 111, 110, 32]⟩)) (Operand.tmp 53) 9, 9, _, _, none⟩) (v := ?_) rfl (by kernel_rfl) (by kernel_rfl) (by kernel_rfl) (fun _ _ _ h => h) (Or.inl ⟨by rfl, ?_⟩) (by assumption) ?_
      rotate_left
      · intro w hSw; (try dsimp only at hSw); go_simp; (try with_reducible rfl)
      try simp only [Act.put, List.setIfInBounds_toArray, List.set_cons_zero, List.set_cons_succ]
      refine wpAnyH_ready (rs := [0, 13]) (by kernel_rfl) (by simp) (AllReadyH.cons (o := ⟨some 42, Op.load 27 (Operand.tmp 7), 27, _, _, none⟩) rfl (fun K hK => ?_) (AllReadyH.cons (o := ⟨some 55, Op.buildSlice 25 3 #[(0, Operand.tmp 46), (1, Operand.tmp 50), (2, Operand.tmp 54)], 25, _, _, none⟩) rfl (fun K hK => ?_) AllReadyH.nil))
      focus
        go_simp
        refine hK.out _ _ ?_ (fun hHeld => ?_)
        · (try dsimp only); go_keep
        clear hK K
        try simp only [Act.put, List.setIfInBounds_toArray, List.set_cons_zero, List.set_cons_succ]
        refine wpAnyH_ready (rs := [13]) (by kernel_rfl) (by simp) (AllReadyH.cons (o := ⟨some 55, Op.buildSlice 25 3 #[(0, Operand.tmp 46), (1, Operand.tmp 50), (2, Operand.tmp 54)], 25, _, _, none⟩) rfl (fun K hK => ?_) AllReadyH.nil)
        go_simp
        refine hK.out _ _ ?_ (fun hHeld => ?_)
        · (try dsimp only); go_keep
        clear hK K
        try simp only [Act.put, List.setIfInBounds_toArray, List.set_cons_zero, List.set_cons_succ]
      rotate_left
      focus
        go_simp
        refine hK.out _ _ ?_ (fun hHeld => ?_)
        · (try dsimp only); go_keep
        clear hK K
        try simp only [Act.put, List.setIfInBounds_toArray, List.set_cons_zero, List.set_cons_succ]
        refine wpAnyH_ready (rs := [0]) (by kernel_rfl) (by simp) (AllReadyH.cons (o := ⟨some 42, Op.load 27 (Operand.tmp 7), 27, _, _, none⟩) rfl (fun K hK => ?_) AllReadyH.nil)
        go_simp
        refine hK.out _ _ ?_ (fun hHeld => ?_)
        · (try dsimp only); go_keep
        clear hK K
        try simp only [Act.put, List.setIfInBounds_toArray, List.set_cons_zero, List.set_cons_succ]
      all_goals
        refine wpAnyH_ready (rs := [14]) (by kernel_rfl) (by simp) (AllReadyH.cons (o := ⟨some 56, Op.call ⟨Callee.value (Operand.func 12), #[Operand.tmp 42, Operand.tmp 55], #[27, 25]⟩, _, _, _, none⟩) rfl (fun K hK => ?_) AllReadyH.nil)
        (try go_simp)
        go_at_call 12
        refine (HALL _ _ HT3.out HB7.out).out.mono ?_
        rintro e w8 ⟨v8, d8, rfl, ho8, hd8, hb8⟩
        obtain ⟨a8, c8, hv8⟩ := ho8.row.lenv
        obtain ⟨ad, cd, hd⟩ := hd8.row.lenv
        rw [hln3] at hv8
        subst hv8 hd
        have hz8 : W7.heap.size + 1 ≤ w8.heap.size := by have := hb8.size; omega
        have m8 := (hb8.block w6.heap.size (by omega)).trans HK7.out
        have g8 := below_trans HB7.out hb8 HB7.out.size
        obtain ⟨t0, t1, t2, t3, t4, t5⟩ := froz6 m8
        obtain ⟨p0, p1, p2, p3, p4, p5⟩ := SetAt.of (x := ⟨xc, xr, 3250585600, 1040187392, 1065353216⟩) (v := .slice none 0 0) m8
        have c2'' := (hb8.cell (p := ⟨g, 2, none⟩) (show g < _ by omega)).trans ((by go_keep : (W7.alloc (.cells #[.string ((⟨#[115, 108, 105, 99, 101, 32]⟩ : ByteArray) ++ (⟨f3.toArray⟩ : ByteArray)), .string ((⟨#[107, 105, 108, 108, 101, 114, 32]⟩ : ByteArray) ++ (⟨f4.toArray⟩ : ByteArray)), .string ((⟨#[115, 97, 116, 117, 114, 97, 116, 105, 111, 110, 32]⟩ : ByteArray) ++ (⟨f5.toArray⟩ : ByteArray))] 9)).drew.cell? ⟨g, 2, none⟩ = some (.string ⟨f3.toArray⟩)))
        have c3'' := (hb8.cell (p := ⟨g, 3, none⟩) (show g < _ by omega)).trans ((by go_keep : (W7.alloc (.cells #[.string ((⟨#[115, 108, 105, 99, 101, 32]⟩ : ByteArray) ++ (⟨f3.toArray⟩ : ByteArray)), .string ((⟨#[107, 105, 108, 108, 101, 114, 32]⟩ : ByteArray) ++ (⟨f4.toArray⟩ : ByteArray)), .string ((⟨#[115, 97, 116, 117, 114, 97, 116, 105, 111, 110, 32]⟩ : ByteArray) ++ (⟨f5.toArray⟩ : ByteArray))] 9)).drew.cell? ⟨g, 3, none⟩ = some (.string ⟨f4.toArray⟩)))
        have c4'' := (hb8.cell (p := ⟨g, 4, none⟩) (show g < _ by omega)).trans ((by go_keep : (W7.alloc (.cells #[.string ((⟨#[115, 108, 105, 99, 101, 32]⟩ : ByteArray) ++ (⟨f3.toArray⟩ : ByteArray)), .string ((⟨#[107, 105, 108, 108, 101, 114, 32]⟩ : ByteArray) ++ (⟨f4.toArray⟩ : ByteArray)), .string ((⟨#[115, 97, 116, 117, 114, 97, 116, 105, 111, 110, 32]⟩ : ByteArray) ++ (⟨f5.toArray⟩ : ByteArray))] 9)).drew.cell? ⟨g, 4, none⟩ = some (.string ⟨f5.toArray⟩)))
        have KK := And.intro c2'' (And.intro c3'' c4'')
        refine hK.out _ _ ?_ (fun hHeld => ?_)
        · (try dsimp only); with_reducible exact KK
        clear hK K
        try simp only [Act.put, List.setIfInBounds_toArray, List.set_cons_zero, List.set_cons_succ]
        refine wpAnyH_take (i := 15) (oi := ⟨some 41, Op.move (Operand.tmp 56), _, _, _, none⟩) (v := ?_) rfl (by kernel_rfl) (by kernel_rfl) (by kernel_rfl) (fun _ _ _ h => h) (Or.inl ⟨by rfl, ?_⟩) (by assumption) ?_
        rotate_left
        · intro w hSw; (try dsimp only at hSw); go_simp; (try with_reducible rfl)
        try simp only [Act.put, List.setIfInBounds_toArray, List.set_cons_zero, List.set_cons_succ]
        refine wpAnyH_take (i := 16) (oi := ⟨some 57, Op.extract (Operand.tmp 41) 0, _, _, _, none⟩) (v := ?_) rfl (by kernel_rfl) (by kernel_rfl) (by kernel_rfl) (fun _ _ _ h => h) (Or.inl ⟨by rfl, ?_⟩) (by assumption) ?_
        rotate_left
        · intro w hSw; (try dsimp only at hSw); go_simp; (try with_reducible rfl)
        try simp only [Act.put, List.setIfInBounds_toArray, List.set_cons_zero, List.set_cons_succ]
        refine wpAnyH_take (i := 17) (oi := ⟨some 58, Op.extract (Operand.tmp 41) 1, _, _, _, none⟩) (v := ?_) rfl (by kernel_rfl) (by kernel_rfl) (by kernel_rfl) (fun _ _ _ h => h) (Or.inl ⟨by rfl, ?_⟩) (by assumption) ?_
        rotate_left
        · intro w hSw; (try dsimp only at hSw); go_simp; (try with_reducible rfl)
        try simp only [Act.put, List.setIfInBounds_toArray, List.set_cons_zero, List.set_cons_succ]
        refine wpAnyH_ready (rs := [18]) (by kernel_rfl) (by simp) (AllReadyH.cons (o := ⟨none, Op.store 27 (Operand.tmp 7) (Operand.tmp 57), _, _, _, none⟩) rfl (fun K hK => ?_) AllReadyH.nil)
        go_simp
        refine hK.out _ _ ?_ (fun hHeld => ?_)
        · (try dsimp only); go_keep
        clear hK K
        try simp only [Act.put, List.setIfInBounds_toArray, List.set_cons_zero, List.set_cons_succ]
        refine wpAnyH_take (i := 19) (oi := ⟨some 9, Op.assign (Operand.tmp 58), _, _, _, none⟩) (v := ?_) rfl (by kernel_rfl) (by kernel_rfl) (by kernel_rfl) (fun _ _ _ h => h) (Or.inl ⟨by rfl, ?_⟩) (by assumption) ?_
        rotate_left
        · intro w hSw; (try dsimp only at hSw); go_simp; (try with_reducible rfl)
        try simp only [Act.put, List.setIfInBounds_toArray, List.set_cons_zero, List.set_cons_succ]
        refine wpAnyH_done (by kernel_rfl) ?_ _
        refine NoPanic.normal ?_
        have hg9 : w8.grownBy ((((((w8.setCell ⟨w6.heap.size, 0, none⟩ (.int .i64 yc)).setCell ⟨w6.heap.size, 1, none⟩ (.int .i64 yr)).setCell ⟨w6.heap.size, 2, none⟩ (.float .f32 ys)).setCell ⟨w6.heap.size, 3, none⟩ (.float .f32 yl)).setCell ⟨w6.heap.size, 4, none⟩ (.float .f32 yt)).setCell ⟨w6.heap.size, 5, none⟩ (.slice a8 3 c8)) (some w6.heap.size) := (((((Lib.grownBy_setCell w8 w6.heap.size 0 _).trans (Lib.grownBy_setCell _ w6.heap.size 1 _)).trans (Lib.grownBy_setCell _ w6.heap.size 2 _)).trans (Lib.grownBy_setCell _ w6.heap.size 3 _)).trans (Lib.grownBy_setCell _ w6.heap.size 4 _)).trans (Lib.grownBy_setCell _ w6.heap.size 5 _)
        have k9 : ((((((w8.setCell ⟨w6.heap.size, 0, none⟩ (.int .i64 yc)).setCell ⟨w6.heap.size, 1, none⟩ (.int .i64 yr)).setCell ⟨w6.heap.size, 2, none⟩ (.float .f32 ys)).setCell ⟨w6.heap.size, 3, none⟩ (.float .f32 yl)).setCell ⟨w6.heap.size, 4, none⟩ (.float .f32 yt)).setCell ⟨w6.heap.size, 5, none⟩ (.slice a8 3 c8)).heap[w6.heap.size]? = some (.cells #[.int .i64 yc, .int .i64 yr, .float .f32 ys, .float .f32 yl, .float .f32 yt, .slice a8 3 c8] 27 (0, 0)) := by simp [World.setCell, Array.getElem?_modify, m8]
        have HO9 := Lib.hid (ho8.kept hg9 (by
          cases hob : (Value.slice a8 3 c8).ownBlock with
          | none => exact .inl rfl
          | some k => exact .inr fun e => by have := (ho8.lt k hob).1; have := Option.some.inj e; omega))
        have HD9 := Lib.hid (hd8.kept hg9 (by
          cases hob : (Value.slice ad [true, true, true].length cd).ownBlock with
          | none => exact .inl rfl
          | some k => exact .inr fun e => by have := (hd8.lt k hob).1; have := Option.some.inj e; omega))
        have G9 : Below w.heap.size w ((((((w8.setCell ⟨w6.heap.size, 0, none⟩ (.int .i64 yc)).setCell ⟨w6.heap.size, 1, none⟩ (.int .i64 yr)).setCell ⟨w6.heap.size, 2, none⟩ (.float .f32 ys)).setCell ⟨w6.heap.size, 3, none⟩ (.float .f32 yl)).setCell ⟨w6.heap.size, 4, none⟩ (.float .f32 yt)).setCell ⟨w6.heap.size, 5, none⟩ (.slice a8 3 c8)) := (((((g8.setCell (p := ⟨w6.heap.size, 0, none⟩) (by show w.heap.size ≤ w6.heap.size; exact g6.size) _).setCell (p := ⟨w6.heap.size, 1, none⟩) (by show w.heap.size ≤ w6.heap.size; exact g6.size) _).setCell (p := ⟨w6.heap.size, 2, none⟩) (by show w.heap.size ≤ w6.heap.size; exact g6.size) _).setCell (p := ⟨w6.heap.size, 3, none⟩) (by show w.heap.size ≤ w6.heap.size; exact g6.size) _).setCell (p := ⟨w6.heap.size, 4, none⟩) (by show w.heap.size ≤ w6.heap.size; exact g6.size) _).setCell (p := ⟨w6.heap.size, 5, none⟩) (by show w.heap.size ≤ w6.heap.size; exact g6.size) _
        have hz9 : w6.heap.size < ((((((w8.setCell ⟨w6.heap.size, 0, none⟩ (.int .i64 yc)).setCell ⟨w6.heap.size, 1, none⟩ (.int .i64 yr)).setCell ⟨w6.heap.size, 2, none⟩ (.float .f32 ys)).setCell ⟨w6.heap.size, 3, none⟩ (.float .f32 yl)).setCell ⟨w6.heap.size, 4, none⟩ (.float .f32 yt)).setCell ⟨w6.heap.size, 5, none⟩ (.slice a8 3 c8)).heap.size := by have := hg9.size; omega
        clear hHeld KK c2'' c3'' c4'' p0 p1 p2 p3 p4 p5 t0 t1 t2 t3 t4 t5 m8 ho8 hd8 hb8 hg9 HT3 HB7 HK7 HALL HR3 c2' c3' c4' q0 q1 q2 q3 q4 q5 H5
        simp only [List.length_cons, List.length_nil, Nat.zero_add, Nat.reduceAdd] at *
        generalize ((((((w8.setCell ⟨w6.heap.size, 0, none⟩ (.int .i64 yc)).setCell ⟨w6.heap.size, 1, none⟩ (.int .i64 yr)).setCell ⟨w6.heap.size, 2, none⟩ (.float .f32 ys)).setCell ⟨w6.heap.size, 3, none⟩ (.float .f32 yl)).setCell ⟨w6.heap.size, 4, none⟩ (.float .f32 yt)).setCell ⟨w6.heap.size, 5, none⟩ (.slice a8 3 c8)) = W9 at *
        have HSB := Lib.hid (fun W' (hr : LB.Row W' (.slice ad 3 cd) [true, true, true]) (hr' : LB.Row W' (.slice (some ⟨W9.heap.size, 0, none⟩) 3 3) [true, true, true]) => sameBools_any (.slice ad 3 cd) (.slice (some ⟨W9.heap.size, 0, none⟩) 3 3) [true, true, true] W' hr hr' (by decide))
        go_wp2_with fail
        refine (HSB.out _ ((HD9.out.alloc _).row) ((three_bools W9).row)).mono ?_
        rintro e w10 ⟨rfl, nq, rfl⟩
        have k10 : ((W9.alloc (.cells #[.bool true, .bool true, .bool true] 4)).drewN nq).heap[w6.heap.size]? = some (.cells #[.int .i64 yc, .int .i64 yr, .float .f32 ys, .float .f32 yl, .float .f32 yt, .slice a8 3 c8] 27 (0, 0)) := (alloc_keeps W9 (.cells #[.bool true, .bool true, .bool true] 4) hz9).trans k9
        have G10 : Below w.heap.size w ((W9.alloc (.cells #[.bool true, .bool true, .bool true] 4)).drewN nq) := belowD (G9.alloc G9.size _) nq
        have HO10 := Lib.hid (show TRow ((W9.alloc (.cells #[.bool true, .bool true, .bool true] 4)).drewN nq) (.slice a8 3 c8) RL from ((HO9.out.alloc (.cells #[.bool true, .bool true, .bool true] 4)).row).below (belowD (Below.refl _ _) nq))
        obtain ⟨p0, p1, p2, p3, p4, p5⟩ := SetAt.of (x := ⟨yc, yr, ys, yl, yt⟩) (v := .slice a8 3 c8) k10
        clear k9 k10 G9 HO9 HD9 HSB
        go_wp2_with fail
        refine (HREP2 _ _ HO10.out G10).out.mono ?_
        rintro e w11 ⟨rfl, hb11⟩
        have G11 := below_trans G10 hb11 G10.size
        go_wp2
        go_ret
        exact ⟨rfl, G11⟩
theorem tab_ofP {W : World} (h : laidMetH Tryd.prog Rows.fnReportedRow.laid W) : Tab W := by
  have h1 := laidMetH.filter (fun x => x.1 == "internal/strconv.uint64pow10") h
  rw [MakeChecks.laidMetH_plain _ _ _ (by kernel_rfl)] at h1
  exact tab_one (rest := []) h1
theorem tabS_ofP {W : World} (h : laidMetH Tryd.prog Rows.fnReportedRow.laid W) : TabS W := by
  have h1 := laidMetH.filter (fun x => x.1 == "strings.asciiSpace") h
  rw [MakeChecks.laidMetH_plain _ _ _ (by kernel_rfl)] at h1
  exact tabS_one (rest := []) h1
end Go.Proofs.YtobpnoiienpipaaDoor
