/-
  What is proved: the walk of the law FnTuned.
  Conditions: the library's table of spaces holds what its initialiser lays.
-/
import Derived.Test.YtobpnoiienpipaaDoorRetuneI
import Derived.Test.YtobpnoiienpipaaDoorDrawAll
import Derived.Test.YtobpnoiienpipaaDoorSameS
namespace Go.Proofs.YtobpnoiienpipaaDoor
set_option linter.unusedVariables false
open Go.RowKit
attribute [local go_sem] run_store_float run_store_complex unary_negf neg256

theorem trues_take {bs : List Bool} {k : Nat} (h : k < bs.length) : trues (bs.take (k + 1)) = trues (bs.take k) + (if bs[k] = true then 1 else 0) := by
  unfold trues
  rw [List.take_succ_eq_append_getElem h, List.filter_append, List.length_append]
  cases bs[k] <;> simp
theorem trues_le (bs : List Bool) : trues bs ≤ bs.length := List.length_filter_le _ _
/-- What becomes of a new set: the log has as many lines as were done; done again it makes the same. -/
theorem tuned_facts (c r : Int) (lines : List (List UInt8)) : (tuneAll (newR c r, []) lines).1.2.length = trues (tuneAll (newR c r, []) lines).2 ∧
    (newB c r = true → retuneR c r (tuneAll (newR c r, []) lines).1.2 = ((tuneAll (newR c r, []) lines).1, true)) ∧
    (newB c r = false → (tuneAll (newR c r, []) lines).1 = (newR c r, []) ∧ trues (tuneAll (newR c r, []) lines).2 = 0) := by
  obtain ⟨add, h1, h2, h3⟩ := tuneAll_again lines (newR c r, [])
  rw [List.nil_append] at h1
  refine ⟨by rw [h1, h2], fun h => ?_, fun h => ?_⟩
  · have hn : newR c r = newC c r := by unfold newR; rw [if_pos h]
    rw [hn] at h1 h3 ⊢
    rw [h1, retuneR_yes h (by rw [h3]; simp), h3]
  · have hn : newR c r = zeroC := by unfold newR; rw [if_neg (by rw [h]; decide)]
    rw [hn]
    exact tuneAll_bad lines (zeroC, []) (by decide +kernel)
theorem new_valid (c r : Int) : setB (newR c r) 0 = newB c r := by
  unfold newR
  split
  · rfl
  · rename_i h
    rw [show newB c r = false by simpa using h]
    decide +kernel
set_option maxRecDepth 100000 in
set_option maxHeartbeats 4000000 in
theorem walk_FnTuned (a0 : Option Addr) (len0 cap0 : Nat) (z0 : List Int) (w : World) (w0 : IsRow .u8 w a0 len0 cap0 z0) (ht : TabS w) :
    Calls Tryd.prog 3 #[.slice a0 len0 cap0] w fun e w' => e = .returned (.bool true) ∧ Below w.heap.size w w' := by
  by_cases hbig : 1048576 < len0
  · have hbb : decide ((1048576 : Int) < len0) = true := by simp; omega
    have HB := Lib.hid (big_any a0 len0 cap0 w)
    rw [hbb] at HB
    clear hbb
    go_enter Tryd.func3, Tryd.ntmps3
    go_wp2_with fail
    refine HB.out.mono ?_
    rintro e w1 ⟨rfl, rfl⟩
    go_wp2
    go_ret
    exact ⟨rfl, Below.refl _ _⟩
  · have hbb : decide ((1048576 : Int) < len0) = false := by simp; omega
    have HB := Lib.hid (big_any a0 len0 cap0 w)
    rw [hbb] at HB
    have HD := Lib.hid (drawTuneAll_any a0 len0 cap0 w (w0.src (by omega)))
    have HTS := Lib.hid ht
    clear hbb w0 ht
    go_enter Tryd.func3, Tryd.ntmps3
    go_wp2_with fail
    refine HB.out.mono ?_
    rintro e w1 ⟨rfl, rfl⟩
    go_wp2_with fail
    refine HD.out.mono ?_
    rintro e w1 ⟨c, r, v1, lines, hc, hr, hl6, hl4, rfl, ho, g1⟩
    have hsl : Short lines := ⟨by omega, fun l hl => by have := hl4 l hl; omega⟩
    have hnok := newR_ok hc hr
    have hbl := tuneAll_len lines (newR c r, [])
    obtain ⟨f1, f2, f3⟩ := tuned_facts c r lines
    have hnv := new_valid c r
    have HALL := fun u W hr (hb : Below w.heap.size w W) => Lib.hid (tuneAll_any (newR c r) (.slice none 0 0) u [] lines W hnok (.inl ⟨⟨_, _, rfl⟩, rfl⟩) ⟨by simp, by simp⟩ hr hsl (HTS.out.below hb))
    have hfine := tuneAll_fine lines (q := (newR c r, [])) ⟨hnok, by simp, by simp⟩
    have HOK := fun W => Lib.hid (setOk_any (newR c r) (.slice none 0 0) [] W hnok (.inl ⟨⟨_, _, rfl⟩, rfl⟩) (by simp))
    rw [show ([] : List (List UInt8)).length = 0 from rfl, hnv] at HOK
    have HRE := fun u log W hr hs (hb : Below w.heap.size w W) => Lib.hid (retune_any c r u log W hc ‹I64 r› hr hs (HTS.out.below hb))
    unfold AllPost at HALL
    unfold RetPost at HRE
    generalize tuneAll (newR c r, []) lines = Q at *
    obtain ⟨⟨y, out⟩, bs⟩ := Q
    have hso : Short out := hfine.log
    have HRE1 := fun u W h b => Lib.hid (HRE u out W h hso b).out
    have HNC := Lib.hid (show newB c r = true → (newR c r).c = c ∧ (newR c r).r = r from fun h => by unfold newR; rw [if_pos h]; exact ⟨rfl, rfl⟩)
    have hbl' : bs.length = lines.length := hbl
    have hf1 : out.length = trues bs := f1
    have hout : out.length ≤ 3000000 := hso.1
    have HF1 := Lib.hid hf1
    clear hf1
    have HS1 := fun v v' W h h' => Lib.hid (sameSet_any y v v' out W h h' hout)
    obtain ⟨nb, hnb⟩ : ∃ nb, newB c r = nb := ⟨_, rfl⟩
    rw [hnb] at HOK f2 f3 HNC
    obtain ⟨nc, hnc⟩ : ∃ nc, newR c r = nc := ⟨_, rfl⟩
    rw [hnc] at HALL HOK f3 HNC ⊢
    clear hnc hnb hnok hnv hbl hfine hsl hl4 f1 HRE
    obtain ⟨xc, xr, xs, xl, xt⟩ := nc
    obtain ⟨a1, c1, rfl⟩ := ho.row.lenv
    have HO := Lib.hid ho
    have F2 := Lib.hid f2
    have F3 := Lib.hid f3
    have HTAKE := Lib.hid (fun k (h : k < bs.length) => trues_take h)
    have HLE := Lib.hid (fun k => Nat.le_trans (trues_le (bs.take k)) (by rw [List.length_take]; omega : (bs.take k).length ≤ k))
    clear ho f2 f3 HD HB
    obtain ⟨yc, yr, ys, yl, yt⟩ := y
    simp only [SetC.val] at *
    have k1 := heap_alloc_new w1 (.cells #[.int .i64 xc, .int .i64 xr, .float .f32 xs, .float .f32 xl, .float .f32 xt, .slice none 0 0] 27)
    have g2 := g1.alloc g1.size (.cells #[.int .i64 xc, .int .i64 xr, .float .f32 xs, .float .f32 xl, .float .f32 xt, .slice none 0 0] 27)
    have hz2 : (w1.alloc (.cells #[.int .i64 xc, .int .i64 xr, .float .f32 xs, .float .f32 xl, .float .f32 xt, .slice none 0 0] 27)).heap.size = w1.heap.size + 1 := by simp
    replace HO := Lib.hid (HO.out.alloc (.cells #[.int .i64 xc, .int .i64 xr, .float .f32 xs, .float .f32 xl, .float .f32 xt, .slice none 0 0] 27))
    obtain ⟨p0, p1, p2, p3, p4, p5⟩ := SetAt.of (x := ⟨xc, xr, xs, xl, xt⟩) (v := .slice none 0 0) k1
    go_wp2_with fail
    generalize World.alloc w1 _ = X at *
    refine (HALL _ X HO.out.row g2).out.mono ?_
    rintro e w3 ⟨v3, d3, rfl, ho3, hd3, hb3⟩
    obtain ⟨a3, c3, hv3⟩ := ho3.row.lenv
    obtain ⟨ad, cd, hd⟩ := hd3.row.lenv
    rw [hbl'] at hd
    subst hv3 hd
    have g3 := below_trans g2 hb3 g2.size
    have hz3 := hb3.size
    replace k1 := (hb3.block w1.heap.size (by omega)).trans k1
    have k3 := heap_alloc_new w3 (.cells #[.int .i64 yc, .int .i64 yr, .float .f32 ys, .float .f32 yl, .float .f32 yt, .slice a3 out.length c3] 27)
    replace k1 := (alloc_keeps w3 (.cells #[.int .i64 yc, .int .i64 yr, .float .f32 ys, .float .f32 yl, .float .f32 yt, .slice a3 out.length c3] 27) (show w1.heap.size < w3.heap.size by omega)).trans k1
    have g4 := g3.alloc g3.size (.cells #[.int .i64 yc, .int .i64 yr, .float .f32 ys, .float .f32 yl, .float .f32 yt, .slice a3 out.length c3] 27)
    have hz4 : (w3.alloc (.cells #[.int .i64 yc, .int .i64 yr, .float .f32 ys, .float .f32 yl, .float .f32 yt, .slice a3 out.length c3] 27)).heap.size = w3.heap.size + 1 := by simp
    replace HO := Lib.hid (ho3.alloc (.cells #[.int .i64 yc, .int .i64 yr, .float .f32 ys, .float .f32 yl, .float .f32 yt, .slice a3 out.length c3] 27))
    have HDD := Lib.hid (hd3.alloc (.cells #[.int .i64 yc, .int .i64 yr, .float .f32 ys, .float .f32 yl, .float .f32 yt, .slice a3 out.length c3] 27))
    clear p0 p1 p2 p3 p4 p5 hb3 ho3 hd3 HALL
    obtain ⟨p0, p1, p2, p3, p4, p5⟩ := SetAt.of (x := ⟨xc, xr, xs, xl, xt⟩) (v := .slice none 0 0) k1
    obtain ⟨q0, q1, q2, q3, q4, q5⟩ := SetAt.of (x := ⟨yc, yr, ys, yl, yt⟩) (v := .slice a3 out.length c3) k3
    go_wp2
    generalize World.alloc w3 _ = X4 at *
    have HBL := Lib.hid hbl'
    have hcl : ∀ k (hk : k < bs.length), ∃ g o, ad = some ⟨g, o, none⟩ ∧ bs.length ≤ cd ∧ X4.cell? ⟨g, o + k, none⟩ = some (.bool bs[k]) := by
      obtain ⟨a', c', e, hh⟩ := bools_any HDD.out.row
      injection e with e1 _ e3
      subst e1 e3
      exact hh
    have HCELL := Lib.hid hcl
    clear hcl
    clear hbl'
    go_loop [7, 8] (fun n i => ∃ k : Nat, k ≤ lines.length ∧ i = .int .i64 (k : Int) ∧ n = .int .i64 ((trues (bs.take k) : Nat) : Int)) (fun _ i => lines.length - (intOf i).toNat)
    case atStart => exact ⟨0, Nat.zero_le _, rfl, rfl⟩
    case round =>
      obtain ⟨k, hk, rfl, rfl⟩ := hrel
      by_cases hlt : k < lines.length
      · have hlb : k < bs.length := by rw [HBL.out]; exact hlt
        obtain ⟨g, o, rfl, hcap, hcc⟩ := HCELL.out k hlb
        rw [HBL.out] at hcap
        have htk := HTAKE.out k hlb
        have hle := HLE.out k
        generalize bs[k] = b at *
        clear hlb
        have HTK := Lib.hid htk
        clear htk
        generalize trues (bs.take k) = n at *
        cases b with
        | true =>
          go_wp2
          go_round
          case rel => exact ⟨k + 1, by omega, by go_num, by rw [HTK.out]; go_num⟩
          case measure => simp [intOf]; omega
        | false =>
          go_wp2
          go_round
          case rel => exact ⟨k + 1, by omega, by go_num, by rw [HTK.out]; go_num⟩
          case measure => simp [intOf]; omega
      · obtain rfl : k = lines.length := by omega
        have hall : bs.take lines.length = bs := by rw [← HBL.out, List.take_length]
        rw [hall]
        have hf1 := HF1.out
        have hn3 : trues bs ≤ 3000000 := by omega
        have F2' := Lib.hid (fun h => F2.out h)
        clear hall HTAKE HLE HCELL HDD HF1 F2
        rw [hf1] at q5 k3 HO
        generalize hN : trues bs = N at *
        have HR2 := Lib.hid HO.out.row
        have HWV := fun W (hW : Below X4.heap.size X4 W) => Lib.hid (HO.out.row.below hW)
        cases nb with
        | false =>
          obtain ⟨e1, e2⟩ := F3.out rfl
          subst e2
          injection e1 with e1 e3
          injection e1 with e4 e5 e6 e7 e8
          subst e3 e4 e5 e6 e7 e8
          clear hf1
          go_wp2_with fail
          refine (HOK X4).out.mono ?_
          rintro e w5 ⟨rfl, hb5⟩
          have g5 := below_trans g4 hb5 g4.size
          replace k1 := (hb5.block w1.heap.size (by omega)).trans k1
          replace k3 := (hb5.block w3.heap.size (by omega)).trans k3
          have hr5 := (HWV w5 hb5).out
          clear p0 p1 p2 p3 p4 p5 q0 q1 q2 q3 q4 q5 hb5
          obtain ⟨p0, p1, p2, p3, p4, p5⟩ := SetAt.of (x := ⟨yc, yr, ys, yl, yt⟩) (v := .slice none 0 0) k1
          obtain ⟨q0, q1, q2, q3, q4, q5⟩ := SetAt.of (x := ⟨yc, yr, ys, yl, yt⟩) (v := .slice a3 0 c3) k3
          have HRR := Lib.hid hr5
          clear hr5
          go_wp2_with fail
          refine (HS1 _ _ w5 (.inl ⟨⟨_, _, rfl⟩, rfl⟩) HRR.out).out.mono ?_
          rintro e w6 ⟨rfl, hb6⟩
          have g6 := below_trans g5 hb6 g5.size
          go_wp2
          go_ret
          exact ⟨rfl, g6⟩
        | true =>
          obtain ⟨e1, e2⟩ := HNC.out rfl
          have e1' : xc = c := e1
          have e2' : xr = r := e2
          subst e1' e2'
          clear e1 e2
          have hf2 := F2'.out rfl
          rw [hf2] at HRE1
          clear hf2 F3
          have HF1 := Lib.hid hf1
          clear hf1
          go_wp2_with fail
          refine (HOK X4).out.mono ?_
          rintro e w5 ⟨rfl, hb5⟩
          have g5 := below_trans g4 hb5 g4.size
          have hz5 := hb5.size
          replace k1 := (hb5.block w1.heap.size (by omega)).trans k1
          replace k3 := (hb5.block w3.heap.size (by omega)).trans k3
          have HRR := Lib.hid (HWV w5 hb5).out
          clear p0 p1 p2 p3 p4 p5 q0 q1 q2 q3 q4 q5 hb5
          obtain ⟨p0, p1, p2, p3, p4, p5⟩ := SetAt.of (x := ⟨xc, xr, xs, xl, xt⟩) (v := .slice none 0 0) k1
          obtain ⟨q0, q1, q2, q3, q4, q5⟩ := SetAt.of (x := ⟨yc, yr, ys, yl, yt⟩) (v := .slice a3 N c3) k3
          go_wp2_with fail
          refine (HRE1 _ w5 HRR.out g5).out.mono ?_
          rintro e w6 ⟨v6, rfl, ho6, hb6⟩
          obtain ⟨a6, c6, hv6⟩ := ho6.row.lenv
          rw [HF1.out] at hv6
          subst hv6
          have g6 := below_trans g5 hb6 g5.size
          have hz6 := hb6.size
          replace k3 := (hb6.block w3.heap.size (by omega)).trans k3
          have HR6 := Lib.hid (HRR.out.below hb6)
          have k6 := heap_alloc_new w6 (.cells #[.int .i64 yc, .int .i64 yr, .float .f32 ys, .float .f32 yl, .float .f32 yt, .slice a6 N c6] 27)
          replace k3 := (alloc_keeps w6 (.cells #[.int .i64 yc, .int .i64 yr, .float .f32 ys, .float .f32 yl, .float .f32 yt, .slice a6 N c6] 27) (show w3.heap.size < w6.heap.size by omega)).trans k3
          have g7 := g6.alloc g6.size (.cells #[.int .i64 yc, .int .i64 yr, .float .f32 ys, .float .f32 yl, .float .f32 yt, .slice a6 N c6] 27)
          have HA := Lib.hid (ho6.alloc (.cells #[.int .i64 yc, .int .i64 yr, .float .f32 ys, .float .f32 yl, .float .f32 yt, .slice a6 N c6] 27)).row
          have HR7 := Lib.hid (HR6.out.below ((Below.refl _ _).alloc (Nat.le_refl _) (.cells #[.int .i64 yc, .int .i64 yr, .float .f32 ys, .float .f32 yl, .float .f32 yt, .slice a6 N c6] 27)))
          clear p0 p1 p2 p3 p4 p5 q0 q1 q2 q3 q4 q5 hb6 ho6 k1 HRR HR6
          obtain ⟨p0, p1, p2, p3, p4, p5⟩ := SetAt.of (x := ⟨yc, yr, ys, yl, yt⟩) (v := .slice a6 N c6) k6
          obtain ⟨q0, q1, q2, q3, q4, q5⟩ := SetAt.of (x := ⟨yc, yr, ys, yl, yt⟩) (v := .slice a3 N c3) k3
          go_wp2_with fail
          generalize World.alloc w6 _ = X7 at *
          refine (HS1 _ _ X7 HA.out HR7.out).out.mono ?_
          rintro e w8 ⟨rfl, hb8⟩
          have g8 := below_trans g7 hb8 g7.size
          go_wp2
          go_ret
          exact ⟨rfl, g8⟩
theorem tabS_ofT {W : World} (h : laidMetH Tryd.prog Rows.fnTunedRow.laid W) : TabS W := by
  have h1 := laidMetH.filter (fun x => x.1 == "strings.asciiSpace") h
  rw [MakeChecks.laidMetH_plain _ _ _ (by kernel_rfl)] at h1
  exact tabS_one (rest := []) h1
end Go.Proofs.YtobpnoiienpipaaDoor
