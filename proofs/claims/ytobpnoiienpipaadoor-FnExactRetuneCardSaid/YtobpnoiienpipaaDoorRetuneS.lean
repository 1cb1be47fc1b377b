/-
  What is proved: the walk of the model's Retune.
  Conditions: the log can be read; its texts have at most 1048576 bytes each.
-/
import Derived.Test.YtobpnoiienpipaaDoorRetuneI
import Derived.Test.YtobpnoiienpipaaDoorTuneAllS
import Derived.Deep.RegionLaw
namespace Go.Proofs.YtobpnoiienpipaaDoor
set_option linter.unusedVariables false
open Go.RowKit
attribute [local go_sem] run_store_float run_store_complex unary_negf neg256

theorem tuneAll_append : ∀ (a b : List (List UInt8)) (q : SetL), (tuneAll q (a ++ b)).2 = (tuneAll q a).2 ++ (tuneAll (tuneAll q a).1 b).2
  | [], b, q => rfl
  | x :: a, b, q => by
    show (tuneR q x).2 :: (tuneAll (tuneR q x).1 (a ++ b)).2 = _
    rw [tuneAll_append a b (tuneR q x).1]
    rfl
/-- What lies where, behind k lines of a log: the set in block b. -/
structure RetAt (w : World) (q : SetL) (log : List (List UInt8)) (nb : Bool) (b k : Nat) (ok : Bool) (wr : World) : Prop where
  set : ∃ a c, wr.heap[b]? = some (.cells ((tuneAll q (log.take k)).1.1.cells (.slice a (tuneAll q (log.take k)).1.2.length c)) 27 (0, 0)) ∧ OwnS wr w.heap.size (.slice a (tuneAll q (log.take k)).1.2.length c) (tuneAll q (log.take k)).1.2
  res : wr.heap[w.heap.size]? = some (.cells #[.int .i64 0, .int .i64 0, .float .f32 0, .float .f32 0, .float .f32 0, .slice none 0 0] 27 (0, 0))
  ok : ok = (nb && (tuneAll q (log.take k)).2.all id)
  below : Below w.heap.size w wr
theorem all_later {q : SetL} {log : List (List UInt8)} {k : Nat} (h : (tuneAll q (log.take k)).2.all id = false) : (tuneAll q log).2.all id = false := by
  have e := tuneAll_append (log.take k) (log.drop k) q
  rw [List.take_append_drop] at e
  rw [e, List.all_append, h]
  rfl
set_option maxRecDepth 100000 in
set_option maxHeartbeats 4000000 in
theorem specRetune_any (c r : Int) (u : Value) (log : List (List UInt8)) (w : World) (hc : I64 c) (hr : I64 r) (h' : TRow w u log) (hs' : Short log) :
    Calls Tryd.prog 39 #[.int .i64 c, .int .i64 r, u] w fun e w' => RetPost c r log w e w' := by
  have HNEW := fun W => Lib.hid (specNewSet_any c r W hc hr)
  have hfine : SetL.fine (newR c r, []) := ⟨newR_ok hc hr, by simp, by simp⟩
  have HE := Lib.hid (show newB c r = true → newR c r = newC c r from fun h => by unfold newR; rw [if_pos h])
  have HY := fun w' y out v h1 h2 h3 h4 h5 => Lib.hid (RetPost.yes (c := c) (r := r) (log := log) (w := w) (w' := w') (y := y) (out := out) (v := v) h1 h2 h3 h4 h5)
  have HN := fun w' h1 h2 => Lib.hid (RetPost.no (c := c) (r := r) (log := log) (w := w) (w' := w') h1 h2)
  have HN1 := Lib.hid (fun h => retuneR_new (c := c) (r := r) (log := log) h)
  have HN2 := Lib.hid (fun h => retuneR_no (c := c) (r := r) (log := log) h)
  have HT := fun (y : SetC) (v : Value) (lg : List (List UInt8)) (s : ByteArray) (W : World) (hy : y.ok) (hr : TRow W v lg) (hl : Short lg) (hz : s.size ≤ 1048576) => Lib.hid (specTune_any y v lg s W hy hr hl hz)
  obtain ⟨au, cu, rfl, hcell⟩ := h'.any
  have HC := Lib.hid hcell
  have HSH := Lib.hid hs'.2
  have hln := hs'.1
  obtain ⟨b, hb⟩ : ∃ b, newB c r = b := ⟨_, rfl⟩
  rw [hb] at HNEW
  have HB := Lib.hid hb
  clear hb
  obtain ⟨nc, hnc⟩ : ∃ x, newR c r = x := ⟨_, rfl⟩
  rw [hnc] at HNEW HE hfine
  clear hnc
  obtain ⟨xc, xr, xs, xl, xt⟩ := nc
  obtain ⟨q0, hq0⟩ : ∃ q0 : SetL, q0 = (⟨xc, xr, xs, xl, xt⟩, []) := ⟨_, rfl⟩
  rw [← hq0] at hfine
  have HFINE := fun k => Lib.hid (tuneAll_fine (log.take k) hfine)
  have HQ0 := Lib.hid (show tuneAll q0 (log.take 0) = ((⟨xc, xr, xs, xl, xt⟩, []), []) from by rw [List.take_zero, hq0]; rfl)
  have HQN := Lib.hid (show b = true → q0 = (newC c r, []) from fun h => by rw [hq0, HE.out (by rw [HB.out, h])])
  have HLEN := fun k => Lib.hid (tuneAll_len (log.take k) q0)
  have HSN := fun k (hk : k < log.length) => Lib.hid (show tuneAll q0 (log.take (k + 1)) = ((tuneR (tuneAll q0 (log.take k)).1 log[k]).1, (tuneAll q0 (log.take k)).2 ++ [(tuneR (tuneAll q0 (log.take k)).1 log[k]).2]) from by rw [List.take_succ_eq_append_getElem hk]; exact tuneAll_snoc (log.take k) q0 log[k])
  have HALL := Lib.hid (show tuneAll q0 (log.take log.length) = tuneAll q0 log by rw [List.take_length])
  have HLATE := Lib.hid (fun k h => all_later (q := q0) (log := log) (k := k) h)
  simp only [SetC.val] at *
  clear h' hs' hc hr hq0 hfine hcell HE
  have k1 := heap_alloc_new w (.cells #[.int .i64 0, .int .i64 0, .float .f32 0, .float .f32 0, .float .f32 0, .slice none 0 0] 27)
  have g0 : Below w.heap.size w (w.alloc (.cells #[.int .i64 0, .int .i64 0, .float .f32 0, .float .f32 0, .float .f32 0, .slice none 0 0] 27)) := (Below.refl _ _).alloc (Nat.le_refl _) _
  have hz0 : (w.alloc (.cells #[.int .i64 0, .int .i64 0, .float .f32 0, .float .f32 0, .float .f32 0, .slice none 0 0] 27)).heap.size = w.heap.size + 1 := by simp
  go_enter Tryd.func39, Tryd.ntmps39
  go_wp2_with fail
  generalize World.alloc w _ = X at *
  refine (HNEW X).out.mono ?_
  rintro e w1 ⟨rfl, hb1⟩
  have g1 := below_trans g0 hb1 g0.size
  have hz1 := hb1.size
  replace k1 := (hb1.block _ (by omega)).trans k1
  have k2 := heap_alloc_new w1 (.cells #[.int .i64 xc, .int .i64 xr, .float .f32 xs, .float .f32 xl, .float .f32 xt, .slice none 0 0] 27)
  replace k1 := (alloc_keeps w1 (.cells #[.int .i64 xc, .int .i64 xr, .float .f32 xs, .float .f32 xl, .float .f32 xt, .slice none 0 0] 27) (show w.heap.size < w1.heap.size by omega)).trans k1
  have g2 := g1.alloc g1.size (.cells #[.int .i64 xc, .int .i64 xr, .float .f32 xs, .float .f32 xl, .float .f32 xt, .slice none 0 0] 27)
  have hP : RetAt w q0 log b w1.heap.size 0 b (w1.alloc (.cells #[.int .i64 xc, .int .i64 xr, .float .f32 xs, .float .f32 xl, .float .f32 xt, .slice none 0 0] 27)) := by
    refine ⟨⟨none, 0, ?_, ?_⟩, k1, ?_, g2⟩
    · rw [HQ0.out]
      exact k2
    · rw [HQ0.out]
      exact OwnS.nil _ _
    · rw [HQ0.out]
      simp
  have HP := Lib.hid hP
  clear hP hb1 k1 k2 g2
  go_wp2
  generalize World.alloc w1 _ = W3 at *
  generalize hb9 : w1.heap.size = b9 at *
  have hge9 : w.heap.size + 1 ≤ b9 := by omega
  clear hb9 hz1
  go_loopw [9, 10] (fun o i wr => ∃ (k : Nat) (ok : Bool), k ≤ log.length ∧ i = .int .i64 (k : Int) ∧ o = .bool ok ∧ RetAt w q0 log b b9 k ok wr) (fun _ i _ => log.length - (intOf i).toNat)
  case atStart => exact ⟨0, b, Nat.zero_le _, rfl, rfl, HP.out⟩
  case round =>
    obtain ⟨k, ok, hk, rfl, rfl, hat⟩ := hrel
    obtain ⟨⟨a3, c3, s1, s2⟩, s3, hok, s5⟩ := hat
    by_cases hgo : k < log.length ∧ ok = true
    · obtain ⟨hlt, rfl⟩ := hgo
      obtain ⟨g, o, rfl, hcap, hcc⟩ := HC.out k hlt
      have hc0 := (below_grown s5).cell hcc (by simp)
      have hzl := HSH.out _ (List.getElem_mem hlt)
      have hfk := (HFINE k).out
      have hsn := (HSN k hlt).out
      generalize tuneAll q0 (log.take k) = Q at *
      obtain ⟨⟨y, lg⟩, bs⟩ := Q
      unfold strV at hc0
      have hxs : (⟨log[k].toArray⟩ : ByteArray).size = log[k].length := by simp [ByteArray.size]
      have hdl : (⟨log[k].toArray⟩ : ByteArray).data.toList = log[k] := by simp
      have HTK := fun W (hr : TRow W (.slice a3 lg.length c3) lg) => Lib.hid (HT y (.slice a3 lg.length c3) lg ⟨log[k].toArray⟩ W hfk.ok hr hfk.log (by rw [hxs]; exact hzl)).out
      unfold TunePost at HTK
      rw [hdl] at HTK
      have hsz := s5.size
      have hbz : w.heap.size < wr.heap.size := (Array.getElem?_eq_some_iff.1 s3).1
      have hb9w : b9 < wr.heap.size := (Array.getElem?_eq_some_iff.1 s1).1
      have hgl : g < wr.heap.size := by
        have : wr.cell? ⟨g, o + k, none⟩ = some _ := hc0
        unfold World.cell? at this
        apply Classical.byContradiction
        intro hge
        simp [Array.getElem?_eq_none (Nat.not_lt.1 hge)] at this
      have HSN' := Lib.hid hsn
      generalize log[k] = line at *
      generalize (⟨line.toArray⟩ : ByteArray) = sl at *
      generalize tuneR (y, lg) line = Z at *
      obtain ⟨⟨z, out⟩, bz⟩ := Z
      obtain ⟨yc, yr, ys, yl, yt⟩ := y
      obtain ⟨zc, zr, zs, zl, zt⟩ := z
      simp only [SetC.val, SetC.cells] at *
      have hbok : b = true ∧ bs.all id = true := by
        have h1 := hok.symm
        rw [Bool.and_eq_true] at h1
        exact h1
      have HBOK := Lib.hid hbok
      have m3 := (show wr.drew.heap[w.heap.size]? = _ from s3)
      have m1 := (show wr.drew.heap[b9]? = _ from s1)
      have S2 := Lib.hid (show OwnS wr.drew w.heap.size (.slice a3 lg.length c3) lg from s2.below (Below.refl _ _).drew)
      have g1 := (show Below w.heap.size w wr.drew from s5.drew)
      have hzd : wr.drew.heap.size = wr.heap.size := rfl
      obtain ⟨p0, p1, p2, p3, p4, p5⟩ := SetAt.of (x := ⟨yc, yr, ys, yl, yt⟩) (v := .slice a3 lg.length c3) s1
      have M1 := Lib.hid m1
      have M3 := Lib.hid m3
      have G1 := Lib.hid g1
      clear hcc hzl hxs hdl hsn s3 s5 s2 hfk s1 hok hbok m1 m3 g1
      go_wp2_with fail
      go_region_law (first
        | ((try go_simp); go_at_call 26; refine (HTK _ S2.out.row).out.mono ?_; rintro e w2 ⟨vl2, rfl, ho2, hb2⟩
           obtain ⟨a2, c2, rfl⟩ := ho2.row.lenv
           have hz2 : wr.heap.size ≤ w2.heap.size := hb2.size
           have m1 := (hb2.block b9 hb9w).trans M1.out
           have m3 := (hb2.block w.heap.size hbz).trans M3.out
           have g2 := below_trans G1.out hb2 G1.out.size
           have hol : OwnS w2 wr.heap.size (.slice a2 out.length c2) out := ho2
           obtain ⟨t0, t1, t2, t3, t4, t5⟩ := froz6 m1
           obtain ⟨q0', q1, q2, q3, q4, q5⟩ := SetAt.of (x := ⟨yc, yr, ys, yl, yt⟩) (v := .slice a3 lg.length c3) m1))
      all_goals
        have n1 := heap_put6 m1 (.int .i64 zc) (.int .i64 zr) (.float .f32 zs) (.float .f32 zl) (.float .f32 zt) (.slice a2 out.length c2)
        have n3 := (put6_far (W := w2) (b := b9) (k := w.heap.size) (by omega) (.int .i64 zc) (.int .i64 zr) (.float .f32 zs) (.float .f32 zl) (.float .f32 zt) (.slice a2 out.length c2)).trans m3
        have n2 := hol.put6 (b := b9) (own_mark m1 hol) (.int .i64 zc) (.int .i64 zr) (.float .f32 zs) (.float .f32 zl) (.float .f32 zt) (.slice a2 out.length c2)
        have ng := below6 g2 (show w.heap.size ≤ b9 by omega) (.int .i64 zc) (.int .i64 zr) (.float .f32 zs) (.float .f32 zl) (.float .f32 zt) (.slice a2 out.length c2)
        have hfin : RetAt w q0 log b b9 (k + 1) bz ((((((w2.setCell ⟨b9, 0, none⟩ (.int .i64 zc)).setCell ⟨b9, 1, none⟩ (.int .i64 zr)).setCell ⟨b9, 2, none⟩ (.float .f32 zs)).setCell ⟨b9, 3, none⟩ (.float .f32 zl)).setCell ⟨b9, 4, none⟩ (.float .f32 zt)).setCell ⟨b9, 5, none⟩ (.slice a2 out.length c2)) := by
          refine ⟨⟨a2, c2, ?_, ?_⟩, n3, ?_, ng⟩
          · rw [HSN'.out]
            exact n1
          · rw [HSN'.out]
            exact n2.low (by omega)
          · rw [HSN'.out, HBOK.out.1, List.all_append, HBOK.out.2]
            simp
        have HFIN := Lib.hid hfin
        clear hfin n1 n2 n3 ng hc0 hb2 ho2 m3 hol m1
        go_wp2
        go_roundw
        case rel => exact ⟨k + 1, bz, by omega, by go_num, rfl, HFIN.out⟩
        case measure => simp [intOf]; omega
    · have hret : ∀ W, Below w.heap.size w W → ok = false → RetPost c r log w (.returned (.tuple #[.agg #[.int .i64 0, .int .i64 0, .float .f32 0, .float .f32 0, .float .f32 0, .slice none 0 0], .bool false])) W := fun W hW hf => by
        refine (HN W ?_ hW).out
        rw [hf] at hok
        cases hb : b with
        | false => exact HN1.out (by rw [HB.out, hb])
        | true =>
          have h1 := HQN.out hb
          rw [hb, Bool.true_and] at hok
          have h2 := HLATE.out k hok.symm
          rw [h1] at h2
          exact HN2.out h2
      have HRET := Lib.hid hret
      obtain ⟨r0, r1, r2, r3, r4, r5⟩ := SetAt.of (x := zeroC) (v := .slice none 0 0) s3
      obtain ⟨t0, t1, t2, t3, t4, t5⟩ := froz6 s3
      simp only [zeroC] at r0 r1 r2 r3 r4
      have S5 := Lib.hid s5
      cases ok with
      | false =>
        clear hret s1 s2 s3 s5 hok hgo
        by_cases hkl : k < log.length
        · go_wp2
          refine bodyPost_ret (v := .tuple #[.agg #[.int .i64 0, .int .i64 0, .float .f32 0, .float .f32 0, .float .f32 0, .slice none 0 0], .bool false]) ?_ rfl (HRET.out _ ?_ trivial)
          · simp [results, Tryd.results39, go_sem, r0, r1, r2, r3, r4, r5]
          · exact below6 S5.out (Nat.le_refl _) _ _ _ _ _ _
        · obtain rfl : k = log.length := by omega
          clear hkl
          go_wp2
          refine bodyPost_ret (v := .tuple #[.agg #[.int .i64 0, .int .i64 0, .float .f32 0, .float .f32 0, .float .f32 0, .slice none 0 0], .bool false]) ?_ rfl (HRET.out _ ?_ trivial)
          · simp [results, Tryd.results39, go_sem, r0, r1, r2, r3, r4, r5]
          · exact below6 S5.out (Nat.le_refl _) _ _ _ _ _ _
      | true =>
        have hkn : k = log.length := by
          apply Classical.byContradiction
          intro hne
          exact hgo ⟨by omega, rfl⟩
        subst hkn
        have hbb : b = true ∧ (tuneAll q0 (log.take log.length)).2.all id = true := by
          have h1 := hok.symm
          rw [Bool.and_eq_true] at h1
          exact h1
        rw [HALL.out] at hbb s1 s2
        have hqn := HQN.out hbb.1
        have hnb := HB.out.trans hbb.1
        have hal := hbb.2
        rw [hqn] at hal s1 s2
        have HYY := fun w' y out v h3 h4 h5 => Lib.hid (HY w' y out v hnb hal h3 h4 h5).out
        obtain ⟨q, hq⟩ : ∃ q, tuneAll (newC c r, []) log = q := ⟨_, rfl⟩
        rw [hq] at s1 s2 HYY
        obtain ⟨⟨y, lg⟩, bs⟩ := q
        obtain ⟨yc, yr, ys, yl, yt⟩ := y
        simp only [SetC.val, SetC.cells] at *
        have S2 := Lib.hid s2
        have M2 := Lib.hid (own_mark s3 s2)
        obtain ⟨p0, p1, p2, p3, p4, p5⟩ := SetAt.of (x := ⟨yc, yr, ys, yl, yt⟩) (v := .slice a3 lg.length c3) s1
        clear hret s1 s2 s3 s5 hok hgo hbb hqn hnb hal hq HRET
        go_wp2
        refine bodyPost_ret (v := .tuple #[.agg #[.int .i64 yc, .int .i64 yr, .float .f32 ys, .float .f32 yl, .float .f32 yt, .slice a3 lg.length c3], .bool true]) ?_ rfl (HYY _ ⟨yc, yr, ys, yl, yt⟩ lg _ rfl ?_ ?_).out
        · simp [results, Tryd.results39, go_sem, r0, r1, r2, r3, r4, r5]
        · exact S2.out.put6 M2.out _ _ _ _ _ _
        · exact below6 S5.out (Nat.le_refl _) _ _ _ _ _ _
end Go.Proofs.YtobpnoiienpipaaDoor
