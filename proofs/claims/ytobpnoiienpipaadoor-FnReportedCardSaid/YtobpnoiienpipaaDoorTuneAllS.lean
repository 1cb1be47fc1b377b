/-
  What is proved: the walk of the model's TuneAll.
  Conditions: the log and the lines can be read; their texts have at most 1048576 bytes each.
-/
import Derived.Test.YtobpnoiienpipaaDoorPkTA
import Derived.Deep.RegionHeld3
namespace Go.Proofs.YtobpnoiienpipaaDoor
set_option linter.unusedVariables false
open Go.RowKit
attribute [local go_sem] run_store_float run_store_complex unary_negf neg256

/-- What lies where, behind k lines: the set at hb, the result behind the law's own set. -/
structure AllSt (w : World) (q : SetL) (lines : List (List UInt8)) (b k : Nat) (d : Value) (wr : World) : Prop where
  set : ∃ a c, wr.heap[b]? = some (.cells ((tuneAll q (lines.take k)).1.1.cells (.slice a (tuneAll q (lines.take k)).1.2.length c)) 27 (0, 0)) ∧ OwnS wr w.heap.size (.slice a (tuneAll q (lines.take k)).1.2.length c) (tuneAll q (lines.take k)).1.2
  res : wr.heap[w.heap.size + 1]? = some (.cells #[.int .i64 0, .int .i64 0, .float .f32 0, .float .f32 0, .float .f32 0, .slice none 0 0] 27 (0, 0))
  bools : LB.Own wr (w.heap.size + 2) d (tuneAll q (lines.take k)).2
  below : Below w.heap.size w wr
set_option maxRecDepth 100000 in
set_option maxHeartbeats 4000000 in
theorem specTuneAll_any (x : SetC) (v u : Value) (ls lines : List (List UInt8)) (w : World) (hx : x.ok) (h : TRow w v ls) (hs : Short ls) (h' : TRow w u lines) (hs' : Short lines) :
    Calls Tryd.prog 32 #[x.val v, u] w fun e w' => AllPost (x, ls) lines w e w' := by
  obtain ⟨q0, hq0⟩ : ∃ q0 : SetL, q0 = (x, ls) := ⟨_, rfl⟩
  rw [← hq0]
  have hfine : q0.fine := by rw [hq0]; exact ⟨hx, hs⟩
  have HFINE := fun k => Lib.hid (tuneAll_fine (lines.take k) hfine)
  have HO := fun W hr => Lib.hid (l08Copy_any x v ls W hr hs.1)
  have HT := fun (y : SetC) (v : Value) (lg : List (List UInt8)) (s : ByteArray) (W : World) (hy : y.ok) (hr : TRow W v lg) (hl : Short lg) (hz : s.size ≤ 1048576) => Lib.hid (specTune_any y v lg s W hy hr hl hz)
  have HR := Lib.hid h
  have HR' := Lib.hid h'
  have HSH := Lib.hid hs'.2
  have hln := hs'.1
  obtain ⟨a, c, rfl⟩ := h.lenv
  obtain ⟨au, cu, rfl, hcell⟩ := h'.any
  have HC := Lib.hid hcell
  obtain ⟨k1, k2, hsz2, hbl⟩ := alloc2 w (.cells (x.cells (.slice a ls.length c)) 27) (.cells #[.int .i64 0, .int .i64 0, .float .f32 0, .float .f32 0, .float .f32 0, .slice none 0 0] 27)
  have HQ0' := Lib.hid (show tuneAll q0 (lines.take 0) = ((x, ls), []) from by rw [List.take_zero, hq0]; rfl)
  have HLEN := fun k => Lib.hid (tuneAll_len (lines.take k) q0)
  have HSN := fun k (hk : k < lines.length) => Lib.hid (show tuneAll q0 (lines.take (k + 1)) = ((tuneR (tuneAll q0 (lines.take k)).1 lines[k]).1, (tuneAll q0 (lines.take k)).2 ++ [(tuneR (tuneAll q0 (lines.take k)).1 lines[k]).2]) from by rw [List.take_succ_eq_append_getElem hk]; exact tuneAll_snoc (lines.take k) q0 lines[k])
  have HALL := Lib.hid (show tuneAll q0 (lines.take lines.length) = tuneAll q0 lines by rw [List.take_length])
  have HPOST := fun (w' : World) (y : SetC) (out : List (List UInt8)) (bs : List Bool) (v d : Value) (e : tuneAll q0 lines = ((y, out), bs)) (h1 : OwnS w' w.heap.size v out) (h2 : LB.Own w' w.heap.size d bs) (h3 : Below w.heap.size w w') => Lib.hid (show AllPost q0 lines w (.returned (.tuple #[y.val v, d])) w' from ⟨v, d, by rw [e], by rw [e]; exact h1, by rw [e]; exact h2, h3⟩)
  clear hq0 hfine hx
  obtain ⟨xc, xr, xs, xl, xt⟩ := x
  simp only [SetC.val, SetC.cells] at *
  clear h h' hs hs' hcell
  have hD : LB.Own (((w.alloc (.cells #[.int .i64 xc, .int .i64 xr, .float .f32 xs, .float .f32 xl, .float .f32 xt, .slice a ls.length c] 27)).alloc (.cells #[.int .i64 0, .int .i64 0, .float .f32 0, .float .f32 0, .float .f32 0, .slice none 0 0] 27)).alloc (.cells #[] 4)) _ _ [] := Lay.own0 LB ((w.alloc (.cells #[.int .i64 xc, .int .i64 xr, .float .f32 xs, .float .f32 xl, .float .f32 xt, .slice a ls.length c] 27)).alloc (.cells #[.int .i64 0, .int .i64 0, .float .f32 0, .float .f32 0, .float .f32 0, .slice none 0 0] 27))
  have m1 := (alloc_keeps _ (.cells #[] 4) (by rw [hsz2]; omega)).trans k1
  have m2 := (alloc_keeps _ (.cells #[] 4) (by rw [hsz2]; omega)).trans k2
  have hb3 := hbl.alloc hbl.size (.cells #[] 4)
  have hsz3 : (((w.alloc (.cells #[.int .i64 xc, .int .i64 xr, .float .f32 xs, .float .f32 xl, .float .f32 xt, .slice a ls.length c] 27)).alloc (.cells #[.int .i64 0, .int .i64 0, .float .f32 0, .float .f32 0, .float .f32 0, .slice none 0 0] 27)).alloc (.cells #[] 4)).heap.size = w.heap.size + 3 := by simp
  rw [hsz2] at hD
  have HD := Lib.hid hD
  clear hD k1 k2 hsz2 hbl
  obtain ⟨p0, p1, p2, p3, p4, p5⟩ := SetAt.of (x := ⟨xc, xr, xs, xl, xt⟩) (v := .slice a ls.length c) m1
  go_enter Tryd.func32, Tryd.ntmps32
  go_wp2_with fail
  generalize World.alloc (World.alloc (World.alloc w _) _) _ = X at *
  refine (HO X (HR.out.below hb3)).out.mono ?_
  rintro e w1 ⟨v1, rfl, ho, hb1⟩
  obtain ⟨a1, c1, rfl⟩ := ho.row.lenv
  have g1 := below_trans hb3 hb1 hb3.size
  have hz1 := hb1.size
  replace m2 := (hb1.block _ (by omega)).trans m2
  replace HD := Lib.hid (HD.out.below hb1)
  clear p0 p1 p2 p3 p4 p5 m1 HO hb1
  have n0 := heap_alloc_new w1 (.cells #[.int .i64 xc, .int .i64 xr, .float .f32 xs, .float .f32 xl, .float .f32 xt, .slice a1 ls.length c1] 27)
  have n2 := (alloc_keeps w1 (.cells #[.int .i64 xc, .int .i64 xr, .float .f32 xs, .float .f32 xl, .float .f32 xt, .slice a1 ls.length c1] 27) (show w.heap.size + 1 < w1.heap.size by omega)).trans m2
  have g2 := g1.alloc g1.size (.cells #[.int .i64 xc, .int .i64 xr, .float .f32 xs, .float .f32 xl, .float .f32 xt, .slice a1 ls.length c1] 27)
  have hP : AllSt w q0 lines w1.heap.size 0 (.slice (some ⟨w.heap.size + 2, 0, none⟩) 0 0) (w1.alloc (.cells #[.int .i64 xc, .int .i64 xr, .float .f32 xs, .float .f32 xl, .float .f32 xt, .slice a1 ls.length c1] 27)) := by
    refine ⟨⟨a1, c1, ?_, ?_⟩, n2, ?_, g2⟩
    · rw [HQ0'.out]
      exact n0
    · rw [HQ0'.out]
      exact (ho.alloc _).low (by omega)
    · rw [HQ0'.out]
      exact HD.out.alloc _
  have HP := Lib.hid hP
  clear hP ho n0 n2 g2 m2 HD
  go_wp2
  generalize World.alloc w1 _ = W3 at *
  generalize hb9 : w1.heap.size = b9 at *
  have hge9 : w.heap.size + 3 ≤ b9 := by omega
  clear hb9 hz1
  go_loopw [6, 8] (fun d i wr => ∃ k : Nat, k ≤ lines.length ∧ i = .int .i64 (k : Int) ∧ AllSt w q0 lines b9 k d wr) (fun _ i _ => lines.length - (intOf i).toNat)
  case atStart => exact ⟨0, Nat.zero_le _, rfl, HP.out⟩
  case round =>
    obtain ⟨k, hk, rfl, hat⟩ := hrel
    obtain ⟨⟨a3, c3, s1, s2⟩, s3, s4, s5⟩ := hat
    by_cases hlt : k < lines.length
    · obtain ⟨g, o, rfl, hcap, hcc⟩ := HC.out k hlt
      have hc0 := (below_grown s5).cell hcc (by simp)
      have hzl := HSH.out _ (List.getElem_mem hlt)
      have hfk := (HFINE k).out
      have hsn := (HSN k hlt).out
      have hlk := (HLEN k).out
      rw [List.length_take, Nat.min_eq_left hk] at hlk
      generalize tuneAll q0 (lines.take k) = Q at *
      obtain ⟨⟨y, lg⟩, bs⟩ := Q
      unfold strV at hc0
      have hxs : (⟨lines[k].toArray⟩ : ByteArray).size = lines[k].length := by simp [ByteArray.size]
      have hdl : (⟨lines[k].toArray⟩ : ByteArray).data.toList = lines[k] := by simp
      have HTK := fun W (hr : TRow W (.slice a3 lg.length c3) lg) => Lib.hid (HT y (.slice a3 lg.length c3) lg ⟨lines[k].toArray⟩ W hfk.ok hr hfk.log (by rw [hxs]; exact hzl)).out
      unfold TunePost at HTK
      rw [hdl] at HTK
      have hsz := s5.size
      have hbz : w.heap.size + 1 < wr.heap.size := (Array.getElem?_eq_some_iff.1 s3).1
      have hb9w : b9 < wr.heap.size := (Array.getElem?_eq_some_iff.1 s1).1
      have hgl : g < wr.heap.size := by
        have : wr.cell? ⟨g, o + k, none⟩ = some _ := hc0
        unfold World.cell? at this
        apply Classical.byContradiction
        intro hge
        simp [Array.getElem?_eq_none (Nat.not_lt.1 hge)] at this
      have HSN' := Lib.hid hsn
      generalize lines[k] = line at *
      generalize (⟨line.toArray⟩ : ByteArray) = sl at *
      generalize tuneR (y, lg) line = Z at *
      obtain ⟨⟨z, out⟩, b⟩ := Z
      obtain ⟨yc, yr, ys, yl, yt⟩ := y
      obtain ⟨zc, zr, zs, zl, zt⟩ := z
      simp only [SetC.val, SetC.cells] at *
      have S3 := Lib.hid s3
      have S4 := Lib.hid s4
      have S5 := Lib.hid s5
      have S2 := Lib.hid s2
      have HLK := Lib.hid hlk
      have A1 := SetAt.of (x := ⟨yc, yr, ys, yl, yt⟩) (v := .slice a3 lg.length c3) s1
      obtain ⟨p0, p1, p2, p3, p4, p5⟩ := id A1
      clear hcc hzl hxs hdl hsn s3 s4 s5 s2 hfk hlk
      have hcg : ∀ W, Below wr.heap.size wr W → W.cell? ⟨g, o + k, none⟩ = some (.string sl) := fun W hb => (hb.cell (p := ⟨g, o + k, none⟩) hgl).trans hc0
      have hkz : Below wr.heap.size wr (wr.alloc (.cells #[.int .i64 0, .int .i64 0, .float .f32 0, .float .f32 0, .float .f32 0, .slice none 0 0] 27)).drew := ((Below.refl wr.heap.size wr).alloc (Nat.le_refl _) (.cells #[.int .i64 0, .int .i64 0, .float .f32 0, .float .f32 0, .float .f32 0, .slice none 0 0] 27)).drew
      have KO := And.intro (show SetAt wr.drew b9 ⟨yc, yr, ys, yl, yt⟩ (.slice a3 lg.length c3) from A1) (show wr.drew.cell? ⟨g, o + k, none⟩ = some (.string sl) from hc0)
      have KE := And.intro (show SetAt (wr.alloc (.cells #[.int .i64 0, .int .i64 0, .float .f32 0, .float .f32 0, .float .f32 0, .slice none 0 0] 27)).drew b9 ⟨yc, yr, ys, yl, yt⟩ (.slice a3 lg.length c3) from A1.keep hkz hb9w) (hcg _ hkz)
      obtain ⟨e0, e1, e2, e3, e4, e5⟩ := KE.1
      have e6 := KE.2
      have HZ1 := Lib.hid (fun (W : World) (hb : Below (wr.alloc (.cells #[.int .i64 0, .int .i64 0, .float .f32 0, .float .f32 0, .float .f32 0, .slice none 0 0] 27)).drew.heap.size (wr.alloc (.cells #[.int .i64 0, .int .i64 0, .float .f32 0, .float .f32 0, .float .f32 0, .slice none 0 0] 27)).drew W) => show W.heap[wr.heap.size]? = some (.cells #[.int .i64 0, .int .i64 0, .float .f32 0, .float .f32 0, .float .f32 0, .slice none 0 0] 27) from (hb.block wr.heap.size (show wr.heap.size < (wr.alloc (.cells #[.int .i64 0, .int .i64 0, .float .f32 0, .float .f32 0, .float .f32 0, .slice none 0 0] 27)).heap.size by simp)).trans (heap_alloc_new wr _))
      have HCG := Lib.hid hcg
      have HKZ := Lib.hid hkz
      have hneb : ¬ wr.heap.size = b9 := by omega
      have hneg : ¬ wr.heap.size = g := by omega
      have M1 := Lib.hid s1
      clear hcg hkz s1
      go_wp2_with fail
      go_region_held3 (fun V => (V.cell? ⟨b9, 0, none⟩ = some (.int .i64 yc) ∧ V.cell? ⟨b9, 1, none⟩ = some (.int .i64 yr) ∧ V.cell? ⟨b9, 2, none⟩ = some (.float .f32 ys) ∧ V.cell? ⟨b9, 3, none⟩ = some (.float .f32 yl) ∧ V.cell? ⟨b9, 4, none⟩ = some (.float .f32 yt) ∧ V.cell? ⟨b9, 5, none⟩ = some (.slice a3 lg.length c3)) ∧ V.cell? ⟨g, o + k, none⟩ = some (.string sl)) (with_reducible (first | exact KS _ _ _ _ _ _ | exact KA _ | exact KK | exact KE | exact KO)) (first
        | (go_at_call 26
           refine (HTK _ (by first | exact (S2.out.below (Below.refl _ _).drew).row | exact (S2.out.below HKZ.out).row)).out.mono ?_
           rintro e w2 ⟨vl2, rfl, ho2, hb2⟩
           obtain ⟨a2, c2, rfl⟩ := ho2.row.lenv
           have KB : Below wr.heap.size wr w2 := by first | exact (Below.refl _ _).drew.trans (hb2.mono (Nat.le_refl _)) | exact HKZ.out.trans (hb2.mono (show wr.heap.size ≤ (wr.alloc (.cells #[.int .i64 0, .int .i64 0, .float .f32 0, .float .f32 0, .float .f32 0, .slice none 0 0] 27)).heap.size by simp))
           first
             | (have hz4 := HZ1.out _ hb2
                obtain ⟨u0, u1, u2, u3, u4, u5⟩ := SetAt.of (x := zeroC) (v := .slice none 0 0) hz4
                obtain ⟨v0, v1, v2, v3, v4, v5⟩ := froz6 hz4
                simp only [zeroC] at u0 u1 u2 u3 u4)
             | skip
           have hol : OwnS w2 wr.heap.size (.slice a2 out.length c2) out := by first | exact ho2 | exact ho2.low (show wr.heap.size ≤ (wr.alloc (.cells #[.int .i64 0, .int .i64 0, .float .f32 0, .float .f32 0, .float .f32 0, .slice none 0 0] 27)).heap.size by simp)
           have KK := And.intro (A1.keep KB hb9w) (HCG.out _ KB)
           have KA := fun ob : Obj => And.intro (A1.keep (KB.alloc KB.size ob) hb9w) (HCG.out _ (KB.alloc KB.size ob))
           have KS := fun x0 x1 x2 x3 x4 x5 => And.intro (KK.1.put6 hneb x0 x1 x2 x3 x4 x5) (HCG.out _ (below6 KB (Nat.le_refl wr.heap.size) x0 x1 x2 x3 x4 x5))))
      all_goals
        first
          | (generalize hW : World.alloc w2 _ = W7
             obtain ⟨b7, hb7⟩ : ∃ b7, b7 = w2.heap.size := ⟨_, rfl⟩
             have hg7 : W7.heap[b7]? = some (.cells #[.int .i64 zc, .int .i64 zr, .float .f32 zs, .float .f32 zl, .float .f32 zt, .slice a2 out.length c2] 27 (0, 0)) := by rw [← hW, hb7]; exact heap_alloc_new w2 _
             have hbw : Below wr.heap.size wr W7 := by rw [← hW]; exact KB.alloc KB.size _
             have hog : OwnS W7 wr.heap.size (.slice a2 out.length c2) out := by rw [← hW]; exact hol.alloc _
             have hge : wr.heap.size ≤ b7 := by rw [hb7]; exact KB.size
             rw [← hb7]
             clear hb7 hW)
          | (generalize hW : World.setCell (World.setCell (World.setCell (World.setCell (World.setCell (World.setCell w2 ⟨wr.heap.size, 0, none⟩ _) ⟨wr.heap.size, 1, none⟩ _) ⟨wr.heap.size, 2, none⟩ _) ⟨wr.heap.size, 3, none⟩ _) ⟨wr.heap.size, 4, none⟩ _) ⟨wr.heap.size, 5, none⟩ _ = W7
             obtain ⟨b7, hb7⟩ : ∃ b7, b7 = wr.heap.size := ⟨_, rfl⟩
             have hg7 : W7.heap[b7]? = some (.cells #[.int .i64 zc, .int .i64 zr, .float .f32 zs, .float .f32 zl, .float .f32 zt, .slice a2 out.length c2] 27 (0, 0)) := by rw [← hW, hb7]; exact heap_put6 hz4 _ _ _ _ _ _
             have hbw : Below wr.heap.size wr W7 := by rw [← hW]; exact below6 KB (Nat.le_refl _) _ _ _ _ _ _
             have hog : OwnS W7 wr.heap.size (.slice a2 out.length c2) out := by rw [← hW]; exact hol.put6 (own_mark hz4 hol) _ _ _ _ _ _
             have hge : wr.heap.size ≤ b7 := by rw [hb7]; exact Nat.le_refl _
             rw [← hb7]
             clear hb7 hW)
        have m1 := (hbw.block b9 hb9w).trans M1.out
        have m3 := (hbw.block (w.heap.size + 1) hbz).trans S3.out
        have m4 := S4.out.below hbw
        have g3 := below_trans S5.out hbw S5.out.size
        have hl7 : b7 < W7.heap.size := (Array.getElem?_eq_some_iff.1 hg7).1
        have hz7 := hbw.size
        try clear u0 u1 u2 u3 u4 u5
        try clear v0 v1 v2 v3 v4 v5
        try clear hz4
        try clear KS
        clear KK KA KB KO KE e0 e1 e2 e3 e4 e5 e6 p0 p1 p2 p3 p4 p5 hc0 hb2 ho2 hol HTK HZ1 HCG HKZ A1 S2 S3 hbw
        obtain ⟨q0', q1, q2, q3, q4, q5⟩ := SetAt.of (x := ⟨zc, zr, zs, zl, zt⟩) (v := .slice a2 out.length c2) hg7
        obtain ⟨t0, t1, t2, t3, t4, t5⟩ := froz6 m1
        obtain ⟨p0, p1, p2, p3, p4, p5⟩ := SetAt.of (x := ⟨yc, yr, ys, yl, yt⟩) (v := .slice a3 lg.length c3) m1
        have hne7 : ¬ b7 = b9 := by omega
        have hne7' : ¬ b9 = b7 := by omega
        have n1 := heap_put6 m1 (.int .i64 zc) (.int .i64 zr) (.float .f32 zs) (.float .f32 zl) (.float .f32 zt) (.slice a2 out.length c2)
        have n3 := (put6_far (W := W7) (b := b9) (k := w.heap.size + 1) (by omega) (.int .i64 zc) (.int .i64 zr) (.float .f32 zs) (.float .f32 zl) (.float .f32 zt) (.slice a2 out.length c2)).trans m3
        have n4 := LB_put6 (b := b9) m4 (bool_mark m1 m4) (.int .i64 zc) (.int .i64 zr) (.float .f32 zs) (.float .f32 zl) (.float .f32 zt) (.slice a2 out.length c2)
        have n2 := hog.put6 (b := b9) (own_mark m1 hog) (.int .i64 zc) (.int .i64 zr) (.float .f32 zs) (.float .f32 zl) (.float .f32 zt) (.slice a2 out.length c2)
        have ng := below6 g3 (show w.heap.size ≤ b9 by omega) (.int .i64 zc) (.int .i64 zr) (.float .f32 zs) (.float .f32 zl) (.float .f32 zt) (.slice a2 out.length c2)
        have nz : ((((((W7.setCell ⟨b9, 0, none⟩ (.int .i64 zc)).setCell ⟨b9, 1, none⟩ (.int .i64 zr)).setCell ⟨b9, 2, none⟩ (.float .f32 zs)).setCell ⟨b9, 3, none⟩ (.float .f32 zl)).setCell ⟨b9, 4, none⟩ (.float .f32 zt)).setCell ⟨b9, 5, none⟩ (.slice a2 out.length c2)).heap.size = W7.heap.size := by simp
        have NL := Lib.hid (show ∀ j u, (LB.enc b)[j]? = some u → (((((((W7.setCell ⟨b9, 0, none⟩ (.int .i64 zc)).setCell ⟨b9, 1, none⟩ (.int .i64 zr)).setCell ⟨b9, 2, none⟩ (.float .f32 zs)).setCell ⟨b9, 3, none⟩ (.float .f32 zl)).setCell ⟨b9, 4, none⟩ (.float .f32 zt)).setCell ⟨b9, 5, none⟩ (.slice a2 out.length c2)).alloc (.cells #[.bool b] 4)).cell? ⟨W7.heap.size, 0 + j, none⟩ = some u from fun j u hj => by
          have := lit_cells ((((((W7.setCell ⟨b9, 0, none⟩ (.int .i64 zc)).setCell ⟨b9, 1, none⟩ (.int .i64 zr)).setCell ⟨b9, 2, none⟩ (.float .f32 zs)).setCell ⟨b9, 3, none⟩ (.float .f32 zl)).setCell ⟨b9, 4, none⟩ (.float .f32 zt)).setCell ⟨b9, 5, none⟩ (.slice a2 out.length c2)) [.bool b] 4 j u hj
          rwa [nz] at this)
        have N := Lib.hid (And.intro n1 (And.intro n2 (And.intro n3 (And.intro n4 ng))))
        clear n1 n2 n3 n4 ng hog m4 m3 S4 S5 nz
        go_wp2_with (
          at_builtin
          refine LB_ok.snoc rfl (.tmp 30) (.tmp 32) rfl (w.heap.size + 2) u6 bs k rfl (N.out.2.2.2.1.alloc _) HLK.out W7.heap.size rfl b (fun j u hj => NL.out j u hj) (by omega) (by simp; omega) ?_
          intro g' c' w9 h9 hg9 hor hgl9
          have hb9w' : b9 < (((((((W7.setCell ⟨b9, 0, none⟩ (.int .i64 zc)).setCell ⟨b9, 1, none⟩ (.int .i64 zr)).setCell ⟨b9, 2, none⟩ (.float .f32 zs)).setCell ⟨b9, 3, none⟩ (.float .f32 zl)).setCell ⟨b9, 4, none⟩ (.float .f32 zt)).setCell ⟨b9, 5, none⟩ (.slice a2 out.length c2)).alloc (.cells #[.bool b] 4)).heap.size := by simp; omega
          have hbz' : w.heap.size + 1 < (((((((W7.setCell ⟨b9, 0, none⟩ (.int .i64 zc)).setCell ⟨b9, 1, none⟩ (.int .i64 zr)).setCell ⟨b9, 2, none⟩ (.float .f32 zs)).setCell ⟨b9, 3, none⟩ (.float .f32 zl)).setCell ⟨b9, 4, none⟩ (.float .f32 zt)).setCell ⟨b9, 5, none⟩ (.slice a2 out.length c2)).alloc (.cells #[.bool b] 4)).heap.size := by simp; omega
          have hp9 : b9 < ((((((W7.setCell ⟨b9, 0, none⟩ (.int .i64 zc)).setCell ⟨b9, 1, none⟩ (.int .i64 zr)).setCell ⟨b9, 2, none⟩ (.float .f32 zs)).setCell ⟨b9, 3, none⟩ (.float .f32 zl)).setCell ⟨b9, 4, none⟩ (.float .f32 zt)).setCell ⟨b9, 5, none⟩ (.slice a2 out.length c2)).heap.size := by simp; omega
          have hpz : w.heap.size + 1 < ((((((W7.setCell ⟨b9, 0, none⟩ (.int .i64 zc)).setCell ⟨b9, 1, none⟩ (.int .i64 zr)).setCell ⟨b9, 2, none⟩ (.float .f32 zs)).setCell ⟨b9, 3, none⟩ (.float .f32 zl)).setCell ⟨b9, 4, none⟩ (.float .f32 zt)).setCell ⟨b9, 5, none⟩ (.slice a2 out.length c2)).heap.size := by simp; omega
          have hfin : AllSt w q0 lines b9 (k + 1) (.slice (some ⟨g', 0, none⟩) (k + 1) c') w9 := by
            obtain ⟨n1, n2, n3, n4, ng⟩ := N.out
            refine ⟨⟨a2, c2, ?_, ?_⟩, ?_, ?_, ?_⟩
            · rw [HSN'.out]
              exact (hg9.block b9 hb9w' (fun e => bool_mark n1 n4 _ e.symm rfl)).trans ((alloc_keeps _ _ hp9).trans n1)
            · rw [HSN'.out]
              exact ((n2.alloc _).kept hg9 (by
                cases hv : (Value.slice a2 out.length c2).ownBlock with
                | none => exact .inl rfl
                | some r => exact .inr fun e => own_types n2 n4 r hv e.symm)).low hsz
            · exact (hg9.block (w.heap.size + 1) hbz' (fun e => bool_mark n3 n4 _ e.symm rfl)).trans ((alloc_keeps _ _ hpz).trans n3)
            · rw [HSN'.out]
              exact h9
            · exact (ng.alloc (by have := ng.size; exact this) _).grown hg9 (by have := ng.size; simp; omega) (fun r hr => by have := (n4.lt r hr).1; omega)
          have HFIN := Lib.hid hfin
          clear hfin N NL h9 hg9 hor hgl9 hb9w' hbz' hp9 hpz)
        go_roundw
        case rel => exact ⟨k + 1, by omega, by go_num, HFIN.out⟩
        case measure => simp [intOf]; omega
    · obtain rfl : k = lines.length := by omega
      have hal := HALL.out
      generalize tuneAll q0 (lines.take lines.length) = Q at *
      obtain ⟨⟨y, lg⟩, bs⟩ := Q
      have HP1 := fun (w' : World) v d h1 h2 h3 => Lib.hid (HPOST w' y lg bs v d hal.symm h1 h2 h3).out
      obtain ⟨yc, yr, ys, yl, yt⟩ := y
      simp only [SetC.val, SetC.cells] at *
      have S4 := Lib.hid s4
      have S2 := Lib.hid s2
      obtain ⟨p0, p1, p2, p3, p4, p5⟩ := SetAt.of (x := ⟨yc, yr, ys, yl, yt⟩) (v := .slice a3 lg.length c3) s1
      obtain ⟨r0, r1, r2, r3, r4, r5⟩ := SetAt.of (x := zeroC) (v := .slice none 0 0) s3
      obtain ⟨t0, t1, t2, t3, t4, t5⟩ := froz6 s3
      simp only [zeroC] at r0 r1 r2 r3 r4
      have M2 := Lib.hid (own_mark s3 s2)
      have M4 := Lib.hid (bool_mark s3 s4)
      have hsz : w.heap.size ≤ wr.heap.size := s5.size
      obtain ⟨ad, cd, hd⟩ := s4.row.lenv
      subst hd
      clear s1 s2 s3 s4 hal
      go_wp2
      refine bodyPost_ret (v := .tuple #[.agg #[.int .i64 yc, .int .i64 yr, .float .f32 ys, .float .f32 yl, .float .f32 yt, .slice a3 lg.length c3], .slice ad bs.length cd]) ?_ rfl (HP1 _ _ _ ?_ ?_ ?_).out
      · simp [results, Tryd.results32, go_sem, r0, r1, r2, r3, r4, r5]
      · exact S2.out.put6 M2.out _ _ _ _ _ _
      · exact (LB_put6 S4.out M4.out _ _ _ _ _ _).mono (by omega)
      · exact below6 s5 (by omega) _ _ _ _ _ _
end Go.Proofs.YtobpnoiienpipaaDoor
