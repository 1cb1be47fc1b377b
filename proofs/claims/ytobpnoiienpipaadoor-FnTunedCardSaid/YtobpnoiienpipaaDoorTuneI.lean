/-
  What is proved: the walk of Tune.
  Conditions: the log can be read; its texts and the line have at most 1048576 bytes each; the library's table of spaces holds what its initialiser lays.
-/
import Derived.Test.YtobpnoiienpipaaDoorTuneF
namespace Go.Proofs.YtobpnoiienpipaaDoor
set_option linter.unusedVariables false
open Go.RowKit
attribute [local go_sem] run_store_float run_store_complex unary_negf neg256

def TunePost (q : SetL) (line : List UInt8) (w : World) (e : Ending) (w' : World) : Prop := ∃ v, e = .returned (.tuple #[(tuneR q line).1.1.val v, .bool (tuneR q line).2]) ∧ OwnS w' w.heap.size v (tuneR q line).1.2 ∧ Below w.heap.size w w'
theorem TunePost.yes {x y : SetC} {ls out : List (List UInt8)} {line : List UInt8} {v : Value} {w w' : World} (h : tuneF x ls line = some (y, out)) (ho : OwnS w' w.heap.size v out) (hb : Below w.heap.size w w') : TunePost (x, ls) line w (.returned (.tuple #[y.val v, .bool true])) w' := by
  unfold TunePost
  rw [tuneR_yes (q := (x, ls)) h]
  exact ⟨v, rfl, ho, hb⟩
theorem TunePost.no {x : SetC} {ls : List (List UInt8)} {line : List UInt8} {v : Value} {w w' : World} (h : tuneF x ls line = none) (ho : OwnS w' w.heap.size v ls) (hb : Below w.heap.size w w') : TunePost (x, ls) line w (.returned (.tuple #[x.val v, .bool false])) w' := by
  unfold TunePost
  rw [tuneR_no (q := (x, ls)) h]
  exact ⟨v, rfl, ho, hb⟩
set_option maxRecDepth 100000 in
set_option maxHeartbeats 2000000 in
theorem tune_any (x : SetC) (v : Value) (ls : List (List UInt8)) (s : ByteArray) (w : World) (hx : x.ok) (h : TRow w v ls) (hs : Short ls) (hsz : s.size ≤ 1048576) (ht : TabS w) :
    Calls Tryd.prog 17 #[x.val v, .string s] w fun e w' => TunePost (x, ls) s.data.toList w e w' := by
  have HT := fun W hr ht => Lib.hid (tuned_any x v ls s W hx hr hs hsz ht)
  have HO := fun W hr => Lib.hid (ownLog_any x v ls W hr hs)
  have HR := Lib.hid h
  have HTS := Lib.hid ht
  obtain ⟨a, c, rfl⟩ := h.lenv
  obtain ⟨k1, k2, hsz2, hbl⟩ := alloc2 w (.cells (x.cells (.slice a ls.length c)) 27) (.cells #[.int .i64 0, .int .i64 0, .float .f32 0, .float .f32 0, .float .f32 0, .slice none 0 0] 27)
  have HY := fun w' v y out h1 h2 h3 => Lib.hid (TunePost.yes (x := x) (y := y) (ls := ls) (out := out) (line := s.data.toList) (v := v) (w := w) (w' := w') h1 h2 h3)
  have HN := fun w' v h1 h2 h3 => Lib.hid (TunePost.no (x := x) (ls := ls) (line := s.data.toList) (v := v) (w := w) (w' := w') h1 h2 h3)
  generalize s.data.toList = line at *
  obtain ⟨xc, xr, xs, xl, xt⟩ := x
  simp only [SetC.val, SetC.cells] at *
  clear h ht hs hx
  obtain ⟨o0, o1, o2, o3, o4, o5⟩ := SetAt.of (x := ⟨xc, xr, xs, xl, xt⟩) (v := .slice a ls.length c) k1
  go_enter Tryd.func17, Tryd.ntmps17
  go_wp2_with fail
  generalize World.alloc (World.alloc w _) _ = X at *
  refine (HT X (HR.out.below hbl) (HTS.out.below hbl)).out.mono ?_
  rintro e w1 ⟨y, a1, n1, c1, b, rfl, h1, h2, hb1⟩
  have g1 := below_trans hbl hb1 hbl.size
  have hz1 := hb1.size
  replace k1 := (hb1.block _ (by omega)).trans k1
  replace k2 := (hb1.block _ (by omega)).trans k2
  obtain ⟨yc, yr, ys, yl, yt⟩ := y
  simp only [SetC.val] at *
  clear o0 o1 o2 o3 o4 o5 hb1 HT
  have m3 := heap_alloc_new w1 (.cells #[.int .i64 yc, .int .i64 yr, .float .f32 ys, .float .f32 yl, .float .f32 yt, .slice a1 n1 c1] 27)
  have m1 := (alloc_keeps w1 (.cells #[.int .i64 yc, .int .i64 yr, .float .f32 ys, .float .f32 yl, .float .f32 yt, .slice a1 n1 c1] 27) (show w.heap.size < w1.heap.size by omega)).trans k1
  have m2 := (alloc_keeps w1 (.cells #[.int .i64 yc, .int .i64 yr, .float .f32 ys, .float .f32 yl, .float .f32 yt, .slice a1 n1 c1] 27) (show w.heap.size + 1 < w1.heap.size by omega)).trans k2
  have g2 := g1.alloc g1.size (.cells #[.int .i64 yc, .int .i64 yr, .float .f32 ys, .float .f32 yl, .float .f32 yt, .slice a1 n1 c1] 27)
  have z2 : (w1.alloc (.cells #[.int .i64 yc, .int .i64 yr, .float .f32 ys, .float .f32 yl, .float .f32 yt, .slice a1 n1 c1] 27)).heap.size = w1.heap.size + 1 := by simp
  clear k1 k2
  cases b with
  | true =>
    obtain ⟨out, hq, ho, hy⟩ := h1 rfl
    replace ho := ho.alloc (.cells #[.int .i64 yc, .int .i64 yr, .float .f32 ys, .float .f32 yl, .float .f32 yt, .slice a1 n1 c1] 27)
    have HQ := Lib.hid hq
    have HOW := Lib.hid ho
    clear h1 h2 hq ho hy
    obtain ⟨p0, p1, p2, p3, p4, p5⟩ := SetAt.of (x := ⟨yc, yr, ys, yl, yt⟩) (v := .slice a1 n1 c1) m3
    obtain ⟨r0, r1, r2, r3, r4, r5⟩ := SetAt.of (x := zeroC) (v := .slice none 0 0) m2
    obtain ⟨t0, t1, t2, t3, t4, t5⟩ := froz6 m2
    simp only [zeroC] at r0 r1 r2 r3 r4
    go_wp2_with fail
    generalize World.alloc w1 _ = X2 at *
    refine bodyPost_ret (v := .tuple #[.agg #[.int .i64 yc, .int .i64 yr, .float .f32 ys, .float .f32 yl, .float .f32 yt, .slice a1 n1 c1], .bool true]) ?_ rfl (HY _ _ ⟨yc, yr, ys, yl, yt⟩ out HQ.out ?_ ?_).out
    · simp [results, Tryd.results17, go_sem, r0, r1, r2, r3, r4, r5]
    · refine (OwnS.put6 HOW.out (fun k hk => ?_) _ _ _ _ _ _).low (by omega)
      have := (HOW.out.lt k hk).1
      omega
    · exact below6 g2 (by omega) _ _ _ _ _ _
  | false =>
    have HQ := Lib.hid (h2 rfl)
    clear h1 h2
    obtain ⟨p0, p1, p2, p3, p4, p5⟩ := SetAt.of (x := ⟨xc, xr, xs, xl, xt⟩) (v := .slice a ls.length c) m1
    go_wp2_with fail
    generalize World.alloc w1 _ = X2 at *
    refine (HO X2 (HR.out.below g2)).out.mono ?_
    rintro e w3 ⟨v', rfl, ho, hb3⟩
    obtain ⟨a3, c3, rfl⟩ := ho.row.lenv
    have g3 := below_trans g2 hb3 g2.size
    replace m2 := (hb3.block _ (by omega)).trans m2
    have HOW := Lib.hid ho
    obtain ⟨r0, r1, r2, r3, r4, r5⟩ := SetAt.of (x := zeroC) (v := .slice none 0 0) m2
    obtain ⟨t0, t1, t2, t3, t4, t5⟩ := froz6 m2
    simp only [zeroC] at r0 r1 r2 r3 r4
    clear p0 p1 p2 p3 p4 p5 ho hb3 m1 m3
    go_wp2_with fail
    refine bodyPost_ret (v := .tuple #[.agg #[.int .i64 xc, .int .i64 xr, .float .f32 xs, .float .f32 xl, .float .f32 xt, .slice a3 ls.length c3], .bool false]) ?_ rfl (HN _ _ HQ.out ?_ ?_).out
    · simp [results, Tryd.results17, go_sem, r0, r1, r2, r3, r4, r5]
    · refine (OwnS.put6 HOW.out (fun k hk => ?_) _ _ _ _ _ _).low (by omega)
      have := (HOW.out.lt k hk).1
      omega
    · exact below6 g3 (by omega) _ _ _ _ _ _
end Go.Proofs.YtobpnoiienpipaaDoor
