/-
  What is proved: the walk of Retune, and of what tells whether a list of bools holds false.
  Conditions: the log can be read; its texts have at most 1048576 bytes each; the library's table of spaces holds what its initialiser lays.
-/
import Derived.Test.YtobpnoiienpipaaDoorTuneAllI
namespace Go.Proofs.YtobpnoiienpipaaDoor
set_option linter.unusedVariables false
open Go.RowKit
attribute [local go_sem] run_store_float run_store_complex unary_negf neg256

def RetPost (c r : Int) (log : List (List UInt8)) (w : World) (e : Ending) (w' : World) : Prop :=
  ∃ v, e = .returned (.tuple #[(retuneR c r log).1.1.val v, .bool (retuneR c r log).2]) ∧ OwnS w' w.heap.size v (retuneR c r log).1.2 ∧ Below w.heap.size w w'
theorem retuneR_yes {c r : Int} {log : List (List UInt8)} (h : newB c r = true) (h2 : (tuneAll (newC c r, []) log).2.all id = true) : retuneR c r log = ((tuneAll (newC c r, []) log).1, true) := by
  unfold retuneR
  rw [if_pos ⟨h, fun b hb => by simpa using List.all_eq_true.1 h2 b hb⟩]
theorem retuneR_new {c r : Int} {log : List (List UInt8)} (h : newB c r = false) : retuneR c r log = ((zeroC, []), false) := by
  unfold retuneR
  rw [if_neg (by rw [h]; simp)]
theorem retuneR_no {c r : Int} {log : List (List UInt8)} (h : (tuneAll (newC c r, []) log).2.all id = false) : retuneR c r log = ((zeroC, []), false) := by
  unfold retuneR
  rw [if_neg (fun hh => by
    have : (tuneAll (newC c r, []) log).2.all id = true := List.all_eq_true.2 fun b hb => hh.2 b hb
    rw [h] at this
    cases this)]
theorem retuneR_fine {c r : Int} {log : List (List UInt8)} (hc : I64 c) (hr : I64 r) : (retuneR c r log).1.fine := by
  unfold retuneR
  split
  · exact tuneAll_fine log ⟨newC_ok hc hr, by simp, by simp⟩
  · exact ⟨zeroC_ok, by simp, by simp⟩
theorem allB_take {bs : List Bool} {k : Nat} (h : k < bs.length) (h2 : (bs.take k).all id = true) (h3 : bs[k] = true) : (bs.take (k + 1)).all id = true := by
  rw [List.take_succ_eq_append_getElem h, List.all_append, h2, h3]
  rfl
theorem allB_not {bs : List Bool} {k : Nat} (h : k < bs.length) (h3 : bs[k] = false) : bs.all id = false := by
  cases e : bs.all id with
  | false => rfl
  | true =>
    have := List.all_eq_true.1 e _ (List.getElem_mem h)
    rw [h3] at this
    cases this
set_option maxHeartbeats 1000000 in
theorem indexFalse_any (v : Value) (bs : List Bool) (w : World) (h : LB.Row w v bs) (hl : bs.length ≤ 1000000000) :
    Calls Tryd.prog 76 #[v, .bool false] w fun e w' => ∃ z : Int, e = .returned (.int .i64 z) ∧ decide (0 ≤ z) = !(bs.all id) ∧ Below w.heap.size w w' := by
  obtain ⟨a, c, rfl, hcell⟩ := bools_any h
  have HC := Lib.hid hcell
  clear hcell h
  go_enter Tryd.func76, Tryd.ntmps76
  go_wp2
  go_loopw [8] (fun i wr => ∃ k q : Nat, k ≤ bs.length ∧ i = .int .i64 (k : Int) ∧ (bs.take k).all id = true ∧ wr = w.drewN q) (fun i _ => bs.length - (intOf i).toNat)
  case atStart => exact ⟨0, 0, Nat.zero_le _, rfl, rfl, rfl⟩
  case round =>
    obtain ⟨k, q, hk, rfl, hall, rfl⟩ := hrel
    by_cases hlt : k < bs.length
    · obtain ⟨g, o, rfl, hcap, hc0⟩ := HC.out k hlt
      cases hx : bs[k] with
      | false =>
        have HN := Lib.hid (show decide ((0 : Int) ≤ (k : Int)) = !(bs.all id) by rw [allB_not hlt hx, decide_eq_true (by omega)]; rfl)
        rw [hx] at hc0
        clear hall hx
        go_wp2
        go_ret
        exact ⟨_, rfl, HN.out, belowN (Below.refl _ _) _⟩
      | true =>
        have HN := Lib.hid (allB_take hlt hall hx)
        rw [hx] at hc0
        clear hall hx
        go_wp2
        go_roundw
        case rel => exact ⟨k + 1, _, by omega, by go_num, HN.out, rfl⟩
        case measure => simp [intOf]; omega
    · obtain rfl : k = bs.length := by omega
      rw [List.take_length] at hall
      have HN := Lib.hid (show decide ((0 : Int) ≤ -1) = !(bs.all id) by rw [hall]; rfl)
      clear hall
      go_wp2
      go_ret
      exact ⟨_, rfl, HN.out, belowN (Below.refl _ _) _⟩
theorem holdsFalse_any (v : Value) (bs : List Bool) (w : World) (h : LB.Row w v bs) (hl : bs.length ≤ 1000000000) :
    Calls Tryd.prog 51 #[v, .bool false] w fun e w' => e = .returned (.bool (!(bs.all id))) ∧ Below w.heap.size w w' := by
  have HI := Lib.hid (indexFalse_any v bs w h hl)
  obtain ⟨a, c, rfl⟩ := h.lenv
  clear h
  go_enter Tryd.func51, Tryd.ntmps51
  go_wp2_with fail
  refine HI.out.mono ?_
  rintro e w1 ⟨z, rfl, hz, hb⟩
  have HZ := Lib.hid hz
  clear hz
  go_wp2
  go_ret
  exact ⟨congrArg (fun b => Ending.returned (.bool b)) HZ.out, hb⟩
theorem RetPost.yes {c r : Int} {log : List (List UInt8)} {w w' : World} {y : SetC} {out : List (List UInt8)} {v : Value} (h : newB c r = true) (h2 : (tuneAll (newC c r, []) log).2.all id = true) (h3 : (tuneAll (newC c r, []) log).1 = (y, out)) (ho : OwnS w' w.heap.size v out) (hb : Below w.heap.size w w') :
    RetPost c r log w (.returned (.tuple #[y.val v, .bool true])) w' := by
  unfold RetPost
  rw [retuneR_yes h h2, h3]
  exact ⟨v, rfl, ho, hb⟩
theorem RetPost.no {c r : Int} {log : List (List UInt8)} {w w' : World} (h : retuneR c r log = ((zeroC, []), false)) (hb : Below w.heap.size w w') :
    RetPost c r log w (.returned (.tuple #[.agg #[.int .i64 0, .int .i64 0, .float .f32 0, .float .f32 0, .float .f32 0, .slice none 0 0], .bool false])) w' := by
  unfold RetPost
  rw [h]
  exact ⟨.slice none 0 0, rfl, OwnS.nil _ _, hb⟩
set_option maxRecDepth 100000 in
set_option maxHeartbeats 2000000 in
theorem retune_any (c r : Int) (u : Value) (log : List (List UInt8)) (w : World) (hc : I64 c) (hr : I64 r) (h' : TRow w u log) (hs' : Short log) (ht : TabS w) :
    Calls Tryd.prog 15 #[.int .i64 c, .int .i64 r, u] w fun e w' => RetPost c r log w e w' := by
  have HNEW := fun W => Lib.hid (newSet_any c r W hc hr)
  have hnok := newR_ok hc hr
  have HALL := fun W (hb : Below w.heap.size w W) => Lib.hid (tuneAll_any (newR c r) (.slice none 0 0) u [] log W hnok (.inl ⟨⟨_, _, rfl⟩, rfl⟩) ⟨by simp, by simp⟩ (h'.below hb) hs' (ht.below hb))
  have HLN := Lib.hid (show (tuneAll (newR c r, []) log).2.length ≤ 1000000000 from by rw [tuneAll_len]; have := hs'.1; omega)
  have HE := Lib.hid (show newB c r = true → newR c r = newC c r from fun h => by unfold newR; rw [if_pos h])
  have HY := fun w' y out v h1 h2 h3 h4 h5 => Lib.hid (RetPost.yes (c := c) (r := r) (log := log) (w := w) (w' := w') (y := y) (out := out) (v := v) h1 h2 h3 h4 h5)
  have HN := fun w' h1 h2 => Lib.hid (RetPost.no (c := c) (r := r) (log := log) (w := w) (w' := w') h1 h2)
  have HN1 := Lib.hid (fun h => retuneR_new (c := c) (r := r) (log := log) h)
  have HN2 := Lib.hid (fun h => retuneR_no (c := c) (r := r) (log := log) h)
  obtain ⟨au, cu, rfl⟩ := h'.lenv
  unfold AllPost at HALL
  obtain ⟨q, hq⟩ : ∃ q, tuneAll (newR c r, []) log = q := ⟨_, rfl⟩
  rw [hq] at HALL HLN
  have HQ := Lib.hid hq
  clear hq
  obtain ⟨⟨y, out⟩, bs⟩ := q
  obtain ⟨b, hb⟩ : ∃ b, newB c r = b := ⟨_, rfl⟩
  rw [hb] at HNEW
  have HB := Lib.hid hb
  clear hb
  obtain ⟨nc, hnc⟩ : ∃ x, newR c r = x := ⟨_, rfl⟩
  rw [hnc] at HNEW HALL HQ HE
  clear hnc hnok
  obtain ⟨xc, xr, xs, xl, xt⟩ := nc
  obtain ⟨yc, yr, ys, yl, yt⟩ := y
  simp only [SetC.val] at *
  clear h' hs' ht hc hr
  have k1 := heap_alloc_new w (.cells #[.int .i64 0, .int .i64 0, .float .f32 0, .float .f32 0, .float .f32 0, .slice none 0 0] 27)
  have g0 : Below w.heap.size w (w.alloc (.cells #[.int .i64 0, .int .i64 0, .float .f32 0, .float .f32 0, .float .f32 0, .slice none 0 0] 27)) := (Below.refl _ _).alloc (Nat.le_refl _) _
  have hz0 : (w.alloc (.cells #[.int .i64 0, .int .i64 0, .float .f32 0, .float .f32 0, .float .f32 0, .slice none 0 0] 27)).heap.size = w.heap.size + 1 := by simp
  go_enter Tryd.func15, Tryd.ntmps15
  go_wp2_with fail
  generalize World.alloc w _ = X at *
  refine (HNEW X).out.mono ?_
  rintro e w1 ⟨rfl, hb1⟩
  have g1 := below_trans g0 hb1 g0.size
  have hz1 := hb1.size
  replace k1 := (hb1.block _ (by omega)).trans k1
  have k2 := heap_alloc_new w1 (.cells #[.int .i64 xc, .int .i64 xr, .float .f32 xs, .float .f32 xl, .float .f32 xt, .slice none 0 0] 27)
  replace k1 := (alloc_keeps w1 (.cells #[.int .i64 xc, .int .i64 xr, .float .f32 xs, .float .f32 xl, .float .f32 xt, .slice none 0 0] 27) (show w.heap.size < w1.heap.size by omega)).trans k1
  have g2 := g1.alloc g1.size (.cells #[.int .i64 xc, .int .i64 xr, .float .f32 xs, .float .f32 xl, .float .f32 xt, .slice none 0 0] 27)
  have hz2 : (w1.alloc (.cells #[.int .i64 xc, .int .i64 xr, .float .f32 xs, .float .f32 xl, .float .f32 xt, .slice none 0 0] 27)).heap.size = w1.heap.size + 1 := by simp
  obtain ⟨p0, p1, p2, p3, p4, p5⟩ := SetAt.of (x := ⟨xc, xr, xs, xl, xt⟩) (v := .slice none 0 0) k2
  clear hb1
  go_wp2_with fail
  generalize World.alloc w1 _ = X2 at *
  refine (HALL X2 g2).out.mono ?_
  rintro e w3 ⟨v3, d3, rfl, ho3, hd3, hb3⟩
  obtain ⟨a3, c3, rfl⟩ := ho3.row.lenv
  obtain ⟨ad, cd, hd⟩ := hd3.row.lenv
  subst hd
  have g3 := below_trans g2 hb3 g2.size
  have hz3 := hb3.size
  replace k1 := (hb3.block w.heap.size (by omega)).trans k1
  have k3 := heap_alloc_new w3 (.cells #[.int .i64 yc, .int .i64 yr, .float .f32 ys, .float .f32 yl, .float .f32 yt, .slice a3 out.length c3] 27)
  replace k1 := (alloc_keeps w3 (.cells #[.int .i64 yc, .int .i64 yr, .float .f32 ys, .float .f32 yl, .float .f32 yt, .slice a3 out.length c3] 27) (show w.heap.size < w3.heap.size by omega)).trans k1
  have g4 := g3.alloc g3.size (.cells #[.int .i64 yc, .int .i64 yr, .float .f32 ys, .float .f32 yl, .float .f32 yt, .slice a3 out.length c3] 27)
  have hz4 : (w3.alloc (.cells #[.int .i64 yc, .int .i64 yr, .float .f32 ys, .float .f32 yl, .float .f32 yt, .slice a3 out.length c3] 27)).heap.size = w3.heap.size + 1 := by simp
  have HO := Lib.hid (ho3.alloc (.cells #[.int .i64 yc, .int .i64 yr, .float .f32 ys, .float .f32 yl, .float .f32 yt, .slice a3 out.length c3] 27))
  have HD := Lib.hid (hd3.alloc (.cells #[.int .i64 yc, .int .i64 yr, .float .f32 ys, .float .f32 yl, .float .f32 yt, .slice a3 out.length c3] 27))
  clear p0 p1 p2 p3 p4 p5 hb3 ho3 hd3 k2
  cases b with
  | false =>
    obtain ⟨r0, r1, r2, r3, r4, r5⟩ := SetAt.of (x := zeroC) (v := .slice none 0 0) k1
    obtain ⟨t0, t1, t2, t3, t4, t5⟩ := froz6 k1
    simp only [zeroC] at r0 r1 r2 r3 r4
    have HF := Lib.hid (HN1.out HB.out)
    clear k1 k3
    go_wp2
    generalize World.alloc w3 _ = X4 at *
    refine bodyPost_ret (v := .tuple #[.agg #[.int .i64 0, .int .i64 0, .float .f32 0, .float .f32 0, .float .f32 0, .slice none 0 0], .bool false]) ?_ rfl (HN _ HF.out ?_).out
    · simp [results, Tryd.results15, go_sem, r0, r1, r2, r3, r4, r5]
    · exact below6 g4 (Nat.le_refl _) _ _ _ _ _ _
  | true =>
    have hnc := HE.out HB.out
    have HQ2 := Lib.hid (show tuneAll (newC c r, []) log = ((⟨yc, yr, ys, yl, yt⟩, out), bs) by rw [← hnc]; exact HQ.out)
    clear hnc
    have HCON := fun W hr => Lib.hid (holdsFalse_any (.slice ad bs.length cd) bs W hr HLN.out)
    obtain ⟨al, hal⟩ : ∃ al, bs.all id = al := ⟨_, rfl⟩
    rw [hal] at HCON
    have HA := Lib.hid hal
    clear hal
    go_wp2_with fail
    generalize World.alloc w3 _ = X4 at *
    refine (HCON X4 HD.out.row).out.mono ?_
    rintro e w5 ⟨rfl, hb5⟩
    have g5 := below_trans g4 hb5 g4.size
    have hz5 := hb5.size
    replace k1 := (hb5.block w.heap.size (by omega)).trans k1
    replace k3 := (hb5.block w3.heap.size (by omega)).trans k3
    replace HO := Lib.hid (HO.out.below hb5)
    obtain ⟨r0, r1, r2, r3, r4, r5⟩ := SetAt.of (x := zeroC) (v := .slice none 0 0) k1
    obtain ⟨t0, t1, t2, t3, t4, t5⟩ := froz6 k1
    simp only [zeroC] at r0 r1 r2 r3 r4
    cases al with
    | false =>
      have HF := Lib.hid (HN2.out (by rw [HQ2.out]; exact HA.out))
      clear k1 k3 hb5
      go_wp2
      refine bodyPost_ret (v := .tuple #[.agg #[.int .i64 0, .int .i64 0, .float .f32 0, .float .f32 0, .float .f32 0, .slice none 0 0], .bool false]) ?_ rfl (HN _ HF.out ?_).out
      · simp [results, Tryd.results15, go_sem, r0, r1, r2, r3, r4, r5]
      · exact below6 g5 (Nat.le_refl _) _ _ _ _ _ _
    | true =>
      obtain ⟨p0, p1, p2, p3, p4, p5⟩ := SetAt.of (x := ⟨yc, yr, ys, yl, yt⟩) (v := .slice a3 out.length c3) k3
      have M1 := Lib.hid (own_mark k1 HO.out)
      have hne : ¬ w3.heap.size = w.heap.size := by omega
      clear k1 k3 hb5
      go_wp2
      refine bodyPost_ret (v := .tuple #[.agg #[.int .i64 yc, .int .i64 yr, .float .f32 ys, .float .f32 yl, .float .f32 yt, .slice a3 out.length c3], .bool true]) ?_ rfl (HY _ ⟨yc, yr, ys, yl, yt⟩ out _ HB.out (by rw [HQ2.out]; exact HA.out) (by rw [HQ2.out]) ?_ ?_).out
      · simp [results, Tryd.results15, go_sem, r0, r1, r2, r3, r4, r5]
      · exact (HO.out.put6 M1.out _ _ _ _ _ _).low (by omega)
      · exact below6 g5 (Nat.le_refl _) _ _ _ _ _ _
end Go.Proofs.YtobpnoiienpipaaDoor
