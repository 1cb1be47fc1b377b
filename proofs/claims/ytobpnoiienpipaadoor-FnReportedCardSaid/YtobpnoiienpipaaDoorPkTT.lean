/-
  What is proved: the walk of Tune.
  Conditions: the log can be read; its texts and the line have at most 1048576 bytes each; the library's table of spaces holds what its initialiser lays.
-/
import Derived.Test.YtobpnoiienpipaaDoorTuneF
import Derived.Test.YtobpnoiienpipaaDoorTunedA
import Derived.Test.YtobpnoiienpipaaDoorCopyV
namespace Go.Proofs.YtobpnoiienpipaaDoor
set_option linter.unusedVariables false
open Go.RowKit
attribute [local go_sem] run_store_float run_store_complex unary_negf neg256

def TunePost (q : SetL) (line : List UInt8) (w : World) (e : Ending) (w' : World) : Prop := ∃ v, e = .returned (.tuple #[(tuneR q line).1.1.val v, .bool (tuneR q line).2]) ∧ OwnS w' w.heap.size v (tuneR q line).1.2 ∧ Below w.heap.size w w'
theorem TunePost.yes {x y : SetC} {ls out : List (List UInt8)} {line : List UInt8} {v : Value} {w w' : World} (h : tuneF x ls line = some (y, out)) (ho : OwnS w' w.heap.size v out) (hb : Below w.heap.size w w') : TunePost (x, ls) line w (.returned (.tuple #[y.val v, .bool true])) w' := by
  unfold TunePost
  rw [tuneR_yes (q := (x, ls)) h]
  exact ⟨v, rfl, ho, hb⟩
theorem TunePost.no {x : SetC} {ls : List (List UInt8)} {line : List UInt8} {v : Value} {w w' : World} (h : tuneF x ls line = none) (ho : OwnS w' w.heap.size v ls) (hb : Below w.heap.size w w') : TunePost (x, ls) line w (.returned (.tuple #[x.val v, .bool false])) w' := by
  unfold TunePost
  rw [tuneR_no (q := (x, ls)) h]
  exact ⟨v, rfl, ho, hb⟩
set_option maxRecDepth 100000 in
set_option maxHeartbeats 2000000 in
theorem tune_any (x : SetC) (v : Value) (ls : List (List UInt8)) (s : ByteArray) (w : World) (hx : x.ok) (h : TRow w v ls) (hs : Short ls) (hsz : s.size ≤ 1048576) (ht : TabS w) :
    Calls Tryd.prog 17 #[x.val v, .string s] w fun e w' => TunePost (x, ls) s.data.toList w e w' := by
  have HT := fun W hr ht => Lib.hid (tuned_any x v ls s W hx hr hs hsz ht)
  have HO := fun W hr => Lib.hid (ownLog_any x v ls W hr hs)
  have HR := Lib.hid h
  have HTS := Lib.hid ht
  obtain ⟨a, c, rfl⟩ := h.lenv
  obtain ⟨k1, k2, hsz2, hbl⟩ := alloc2 w (.cells (x.cells (.slice a ls.length c)) 27) (.cells #[.int .i64 0, .int .i64 0, .float .f32 0, .float .f32 0, .float .f32 0, .slice none 0 0] 27)
  have HY := fun w' v y out h1 h2 h3 => Lib.hid (TunePost.yes (x := x) (y := y) (ls := ls) (out := out) (line := s.data.toList) (v := v) (w := w) (w' := w') h1 h2 h3)
  have HN := fun w' v h1 h2 h3 => Lib.hid (TunePost.no (x := x) (ls := ls) (line := s.data.toList) (v := v) (w := w) (w' := w') h1 h2 h3)
  generalize s.data.toList = line at *
  obtain ⟨xc, xr, xs, xl, xt⟩ := x
  simp only [SetC.val, SetC.cells] at *
  clear h ht hs hx
  obtain ⟨o0, o1, o2, o3, o4, o5⟩ := SetAt.of (x := ⟨xc, xr, xs, xl, xt⟩) (v := .slice a ls.length c) k1
  go_enter Tryd.func17, Tryd.ntmps17
  go_wp2_with fail
  generalize World.alloc (World.alloc w _) _ = X at *
  refine (HT X (HR.out.below hbl) (HTS.out.below hbl)).out.mono ?_
  rintro e w1 ⟨y, a1, n1, c1, b, rfl, h1, h2, hb1⟩
  have g1 := below_trans hbl hb1 hbl.size
  have hz1 := hb1.size
  replace k1 := (hb1.block _ (by omega)).trans k1
  replace k2 := (hb1.block _ (by omega)).trans k2
  obtain ⟨yc, yr, ys, yl, yt⟩ := y
  simp only [SetC.val] at *
  clear o0 o1 o2 o3 o4 o5 hb1 HT
  have m3 := heap_alloc_new w1 (.cells #[.int .i64 yc, .int .i64 yr, .float .f32 ys, .float .f32 yl, .float .f32 yt, .slice a1 n1 c1] 27)
  have m1 := (alloc_keeps w1 (.cells #[.int .i64 yc, .int .i64 yr, .float .f32 ys, .float .f32 yl, .float .f32 yt, .slice a1 n1 c1] 27) (show w.heap.size < w1.heap.size by omega)).trans k1
  have m2 := (alloc_keeps w1 (.cells #[.int .i64 yc, .int .i64 yr, .float .f32 ys, .float .f32 yl, .float .f32 yt, .slice a1 n1 c1] 27) (show w.heap.size + 1 < w1.heap.size by omega)).trans k2
  have g2 := g1.alloc g1.size (.cells #[.int .i64 yc, .int .i64 yr, .float .f32 ys, .float .f32 yl, .float .f32 yt, .slice a1 n1 c1] 27)
  have z2 : (w1.alloc (.cells #[.int .i64 yc, .int .i64 yr, .float .f32 ys, .float .f32 yl, .float .f32 yt, .slice a1 n1 c1] 27)).heap.size = w1.heap.size + 1 := by simp
  clear k1 k2
  cases b with
  | true =>
    obtain ⟨out, hq, ho, hy⟩ := h1 rfl
    replace ho := ho.alloc (.cells #[.int .i64 yc, .int .i64 yr, .float .f32 ys, .float .f32 yl, .float .f32 yt, .slice a1 n1 c1] 27)
    have HQ := Lib.hid hq
    have HOW := Lib.hid ho
    clear h1 h2 hq ho hy
    obtain ⟨p0, p1, p2, p3, p4, p5⟩ := SetAt.of (x := ⟨yc, yr, ys, yl, yt⟩) (v := .slice a1 n1 c1) m3
    obtain ⟨r0, r1, r2, r3, r4, r5⟩ := SetAt.of (x := zeroC) (v := .slice none 0 0) m2
    obtain ⟨t0, t1, t2, t3, t4, t5⟩ := froz6 m2
    simp only [zeroC] at r0 r1 r2 r3 r4
    go_wp2_with fail
    generalize World.alloc w1 _ = X2 at *
    refine bodyPost_ret (v := .tuple #[.agg #[.int .i64 yc, .int .i64 yr, .float .f32 ys, .float .f32 yl, .float .f32 yt, .slice a1 n1 c1], .bool true]) ?_ rfl (HY _ _ ⟨yc, yr, ys, yl, yt⟩ out HQ.out ?_ ?_).out
    · simp [results, Tryd.results17, go_sem, r0, r1, r2, r3, r4, r5]
    · refine (OwnS.put6 HOW.out (fun k hk => ?_) _ _ _ _ _ _).low (by omega)
      have := (HOW.out.lt k hk).1
      omega
    · exact below6 g2 (by omega) _ _ _ _ _ _
  | false =>
    have HQ := Lib.hid (h2 rfl)
    clear h1 h2
    obtain ⟨p0, p1, p2, p3, p4, p5⟩ := SetAt.of (x := ⟨xc, xr, xs, xl, xt⟩) (v := .slice a ls.length c) m1
    go_wp2_with fail
    generalize World.alloc w1 _ = X2 at *
    refine (HO X2 (HR.out.below g2)).out.mono ?_
    rintro e w3 ⟨v', rfl, ho, hb3⟩
    obtain ⟨a3, c3, rfl⟩ := ho.row.lenv
    have g3 := below_trans g2 hb3 g2.size
    replace m2 := (hb3.block _ (by omega)).trans m2
    have HOW := Lib.hid ho
    obtain ⟨r0, r1, r2, r3, r4, r5⟩ := SetAt.of (x := zeroC) (v := .slice none 0 0) m2
    obtain ⟨t0, t1, t2, t3, t4, t5⟩ := froz6 m2
    simp only [zeroC] at r0 r1 r2 r3 r4
    clear p0 p1 p2 p3 p4 p5 ho hb3 m1 m3
    go_wp2_with fail
    refine bodyPost_ret (v := .tuple #[.agg #[.int .i64 xc, .int .i64 xr, .float .f32 xs, .float .f32 xl, .float .f32 xt, .slice a3 ls.length c3], .bool false]) ?_ rfl (HN _ _ HQ.out ?_ ?_).out
    · simp [results, Tryd.results17, go_sem, r0, r1, r2, r3, r4, r5]
    · refine (OwnS.put6 HOW.out (fun k hk => ?_) _ _ _ _ _ _).low (by omega)
      have := (HOW.out.lt k hk).1
      omega
    · exact below6 g3 (by omega) _ _ _ _ _ _
end Go.Proofs.YtobpnoiienpipaaDoor

/-
  What is proved: what the model's commands make of a set.
  Conditions: the fields can be read; they have at most 1048576 bytes each.
-/
namespace Go.Proofs.YtobpnoiienpipaaDoor
set_option linter.unusedVariables false
open Go.RowKit
attribute [local go_sem] run_store_float run_store_complex unary_negf neg256

def DonePost (x : SetC) (v : Value) (fs : List (List UInt8)) (w : World) (e : Ending) (w' : World) : Prop :=
  ∃ y b, e = .returned (.tuple #[SetC.val y v, .bool b]) ∧ (b = true → doF x fs = some y) ∧ (b = false → doF x fs = none) ∧ Below w.heap.size w w'
theorem cmdF_no {k : Nat} {x : SetC} {vs : List (List UInt8)} (h1 : vs.length ≠ 1) (h2 : vs.length ≠ 2 ∨ k < 3) (hk : k < 4) : cmdF k x vs = none := by
  have hn : ∀ y, numF vs y = none := fun y => by unfold numF; rw [numR_no h1]; rfl
  unfold cmdF
  split
  · exact hn _
  split
  · exact hn _
  split
  · exact hn _
  rcases h2 with h | h
  · exact sizeF_no h
  · omega
theorem doF_no {x : SetC} {n : List UInt8} {vs : List (List UInt8)} (h1 : vs.length ≠ 1) (h2 : vs.length ≠ 2 ∨ n ≠ [115, 105, 122, 101]) : doF x (n :: vs) = none := by
  show (if keyIx n < 4 then cmdF (keyIx n) x vs else none) = none
  split
  · rename_i hk
    refine cmdF_no h1 (h2.imp id fun h => ?_) hk
    unfold keyIx at hk ⊢
    split
    · decide
    split
    · decide
    split
    · decide
    · simp_all
  · rfl
theorem doF_short {x : SetC} {fs : List (List UInt8)} (h2 : fs.length ≠ 2) (h3 : fs.length ≠ 3) : doF x fs = none := by
  match fs with
  | [] => rfl
  | n :: vs => exact doF_no (by simp at h2; omega) (.inl (by simp at h3; omega))
theorem doF_size {x : SetC} (l m : List UInt8) : doF x [[115, 105, 122, 101], l, m] = if (puB l && puB m) = true then some { x with c := (puV l : Int), r := (puV m : Int) } else none := rfl
theorem doF_other {x : SetC} {n l : List UInt8} (h0 : n ≠ [115, 108, 105, 99, 101]) (h1 : n ≠ [107, 105, 108, 108, 101, 114]) (h2 : n ≠ [115, 97, 116, 117, 114, 97, 116, 105, 111, 110]) : doF x [n, l] = none := by
  show (if keyIx n < 4 then cmdF (keyIx n) x [l] else none) = none
  unfold keyIx
  rw [if_neg h0, if_neg h1, if_neg h2]
  by_cases h3 : n = [115, 105, 122, 101]
  · rw [if_pos h3]; rfl
  · rw [if_neg h3]; rfl
theorem doF_k0 {x : SetC} (l : List UInt8) : doF x [[115, 108, 105, 99, 101], l] = if (fxP l).isSome = true then some (x.s' (sngl l)) else none := rfl
theorem doF_k1 {x : SetC} (l : List UInt8) : doF x [[107, 105, 108, 108, 101, 114], l] = if (fxP l).isSome = true then some (x.l' (sngl l)) else none := rfl
theorem doF_k2 {x : SetC} (l : List UInt8) : doF x [[115, 97, 116, 117, 114, 97, 116, 105, 111, 110], l] = if (fxP l).isSome = true then some (x.t' (sngl l)) else none := rfl
theorem DonePost.no {x : SetC} {v : Value} {fs : List (List UInt8)} {w w' : World} {y : SetC} (h : doF x fs = none) (hb : Below w.heap.size w w') : DonePost x v fs w (.returned (.tuple #[SetC.val y v, .bool false])) w' := ⟨y, false, rfl, (fun h => by cases h), fun _ => h, hb⟩
theorem DonePost.yes {x : SetC} {v : Value} {fs : List (List UInt8)} {w w' : World} {y : SetC} {b : Bool} (h : doF x fs = if b = true then some y else none) (hb : Below w.heap.size w w') : DonePost x v fs w (.returned (.tuple #[SetC.val y v, .bool b])) w' :=
  ⟨y, b, rfl, (fun hh => by rw [h, if_pos hh]), fun hh => by rw [h, if_neg (by rw [hh]; decide)], hb⟩
theorem ne_key {n : List UInt8} (k : List UInt8) (h : n ≠ k) : ((⟨n.toArray⟩ : ByteArray).toList == k) = false := by rw [Go.ByteArray.toList_mk]; simpa using h
set_option maxRecDepth 100000 in
set_option maxHeartbeats 2000000 in
theorem done_short (x : SetC) (a : Option Addr) (n0 c0 : Nat) (u : Value) (fs : List (List UInt8)) (w : World) (h' : TRow w u fs) (hl : fs.length ≤ 3000000) (h2 : fs.length ≠ 2) (h3 : fs.length ≠ 3) :
    Calls Tryd.prog 64 #[x.val (.slice a n0 c0), u] w fun e w' => DonePost x (.slice a n0 c0) fs w e w' := by
  have HD := Lib.hid (doF_short (x := x) h2 h3)
  obtain ⟨k1, k2, hsz, hbl⟩ := alloc2 w (.cells (x.cells (.slice a n0 c0)) 27) (.cells #[.int .i64 0, .int .i64 0, .float .f32 0, .float .f32 0, .float .f32 0, .slice none 0 0] 27)
  have hbw := hbl
  obtain ⟨xc, xr, xs, xl, xt⟩ := x
  obtain ⟨a2, c2, rfl⟩ := h'.lenv
  have i2 : ¬ (fs.length : Int) = 2 := by omega
  have i3 : ¬ (fs.length : Int) = 3 := by omega
  simp only [SetC.val, SetC.cells] at *
  clear h' h2 h3
  go_enter Tryd.func64, Tryd.ntmps64
  obtain ⟨p0, p1, p2, p3, p4, p5⟩ := SetAt.of (x := ⟨xc, xr, xs, xl, xt⟩) (v := .slice a n0 c0) k1
  obtain ⟨r0, r1, r2, r3, r4, r5⟩ := SetAt.of (x := zeroC) (v := .slice none 0 0) k2
  obtain ⟨s0, s1, s2, s3, s4, s5⟩ := froz6 k2
  simp only [zeroC] at r0 r1 r2 r3 r4
  clear k1 k2
  go_wp2
  refine bodyPost_ret (v := .tuple #[.agg #[.int .i64 xc, .int .i64 xr, .float .f32 xs, .float .f32 xl, .float .f32 xt, .slice a n0 c0], .bool false]) ?_ rfl (DonePost.no (y := ⟨xc, xr, xs, xl, xt⟩) HD.out ?_)
  · simp [results, Tryd.results64, go_sem, r0, r1, r2, r3, r4, r5]
  · exact ((Below.refl w.heap.size w).alloc (Nat.le_refl _) _).alloc (by simp) _
set_option maxRecDepth 100000 in
set_option maxHeartbeats 2000000 in
theorem done_three (x : SetC) (a : Option Addr) (n0 c0 : Nat) (u : Value) (n l m : List UInt8) (w : World) (h' : TRow w u [n, l, m]) (hs : Short [n, l, m]) (hk : n ≠ [115, 105, 122, 101]) :
    Calls Tryd.prog 64 #[x.val (.slice a n0 c0), u] w fun e w' => DonePost x (.slice a n0 c0) [n, l, m] w e w' := by
  obtain ⟨hl, hsh⟩ := hs
  have HD := Lib.hid (doF_no (x := x) (n := n) (vs := [l, m]) (by simp) (.inr hk))
  have hq : ((⟨n.toArray⟩ : ByteArray).toList == [115, 105, 122, 101]) = false := ne_key _ hk
  obtain ⟨k1, k2, hsz, hbl⟩ := alloc2 w (.cells (x.cells (.slice a n0 c0)) 27) (.cells #[.int .i64 0, .int .i64 0, .float .f32 0, .float .f32 0, .float .f32 0, .slice none 0 0] 27)
  have hbw := hbl
  obtain ⟨xc, xr, xs, xl, xt⟩ := x
  obtain ⟨a2, c2, rfl, hcell⟩ := h'.any
  obtain ⟨g, o, rfl, hc, hcc0⟩ := hcell 0 (by simp)
  obtain ⟨g', o', e', _, hcc1⟩ := hcell 1 (by simp)
  cases e'
  obtain ⟨g', o', e', _, hcc2⟩ := hcell 2 (by simp)
  cases e'
  have hz1 := hsh l (by simp)
  have hz2 := hsh m (by simp)
  have HP := fun W => Lib.hid (specParseUint_any ⟨l.toArray⟩ W (by simpa [ByteArray.size] using hz1))
  have HP2 := fun W => Lib.hid (specParseUint_any ⟨m.toArray⟩ W (by simpa [ByteArray.size] using hz2))
  unfold UintPostB at HP HP2
  have hg : ¬ g = w.heap.size := by
    intro e
    subst e
    simp [World.cell?] at hcc0
  have hg' : ¬ w.heap.size = g := fun e => hg e.symm
  have hd0 := (below_grown hbl).cell hcc0 (by simp)
  have hd1 := (below_grown hbl).cell hcc1 (by simp)
  have hd2 := (below_grown hbl).cell hcc2 (by simp)
  simp only [SetC.val, SetC.cells, List.length_cons, List.length_nil, List.getElem_cons_zero, List.getElem_cons_succ, strV, Nat.add_zero, Nat.zero_add, Nat.reduceAdd] at *
  generalize puB l = b1 at *
  generalize puB m = b2 at *
  generalize puV l = n1 at *
  generalize puV m = n2 at *
  generalize (⟨n.toArray⟩ : ByteArray) = s0 at *
  generalize (⟨l.toArray⟩ : ByteArray) = s1 at *
  generalize (⟨m.toArray⟩ : ByteArray) = s2 at *
  clear h' hcell hz1 hz2 hsh hl hk
  go_enter Tryd.func64, Tryd.ntmps64
  obtain ⟨p0, p1, p2, p3, p4, p5⟩ := SetAt.of (x := ⟨xc, xr, xs, xl, xt⟩) (v := .slice a n0 c0) k1
  obtain ⟨r0, r1, r2, r3, r4, r5⟩ := SetAt.of (x := zeroC) (v := .slice none 0 0) k2
  obtain ⟨s0, s1, s2, s3, s4, s5⟩ := froz6 k2
  simp only [zeroC] at r0 r1 r2 r3 r4
  clear k1 k2
  go_wp2
  refine bodyPost_ret (v := .tuple #[.agg #[.int .i64 xc, .int .i64 xr, .float .f32 xs, .float .f32 xl, .float .f32 xt, .slice a n0 c0], .bool false]) ?_ rfl (DonePost.no (y := ⟨xc, xr, xs, xl, xt⟩) HD.out ?_)
  · simp [results, Tryd.results64, go_sem, r0, r1, r2, r3, r4, r5]
  · exact ((Below.refl w.heap.size w).alloc (Nat.le_refl _) _).alloc (by simp) _
set_option maxRecDepth 100000 in
set_option maxHeartbeats 2000000 in
theorem done_size (x : SetC) (a : Option Addr) (n0 c0 : Nat) (u : Value) (n l m : List UInt8) (w : World) (h' : TRow w u [n, l, m]) (hs : Short [n, l, m]) (hk : n = [115, 105, 122, 101]) :
    Calls Tryd.prog 64 #[x.val (.slice a n0 c0), u] w fun e w' => DonePost x (.slice a n0 c0) [n, l, m] w e w' := by
  obtain ⟨hl, hsh⟩ := hs
  have HD := Lib.hid (show doF x [n, l, m] = _ from hk ▸ doF_size (x := x) l m)
  have hq : ((⟨n.toArray⟩ : ByteArray).toList == [115, 105, 122, 101]) = true := by rw [Go.ByteArray.toList_mk]; subst hk; rfl
  obtain ⟨k1, k2, hsz, hbl⟩ := alloc2 w (.cells (x.cells (.slice a n0 c0)) 27) (.cells #[.int .i64 0, .int .i64 0, .float .f32 0, .float .f32 0, .float .f32 0, .slice none 0 0] 27)
  have hbw := hbl
  obtain ⟨xc, xr, xs, xl, xt⟩ := x
  obtain ⟨a2, c2, rfl, hcell⟩ := h'.any
  obtain ⟨g, o, rfl, hc, hcc0⟩ := hcell 0 (by simp)
  obtain ⟨g', o', e', _, hcc1⟩ := hcell 1 (by simp)
  cases e'
  obtain ⟨g', o', e', _, hcc2⟩ := hcell 2 (by simp)
  cases e'
  have hz1 := hsh l (by simp)
  have hz2 := hsh m (by simp)
  have HP := fun W => Lib.hid (specParseUint_any ⟨l.toArray⟩ W (by simpa [ByteArray.size] using hz1))
  have HP2 := fun W => Lib.hid (specParseUint_any ⟨m.toArray⟩ W (by simpa [ByteArray.size] using hz2))
  unfold UintPostB at HP HP2
  have hg : ¬ g = w.heap.size := by
    intro e
    subst e
    simp [World.cell?] at hcc0
  have hg' : ¬ w.heap.size = g := fun e => hg e.symm
  have hd0 := (below_grown hbl).cell hcc0 (by simp)
  have hd1 := (below_grown hbl).cell hcc1 (by simp)
  have hd2 := (below_grown hbl).cell hcc2 (by simp)
  simp only [SetC.val, SetC.cells, List.length_cons, List.length_nil, List.getElem_cons_zero, List.getElem_cons_succ, strV, Nat.add_zero, Nat.zero_add, Nat.reduceAdd] at *
  generalize puB l = b1 at *
  generalize puB m = b2 at *
  generalize puV l = n1 at *
  generalize puV m = n2 at *
  generalize (⟨n.toArray⟩ : ByteArray) = s0 at *
  generalize (⟨l.toArray⟩ : ByteArray) = s1 at *
  generalize (⟨m.toArray⟩ : ByteArray) = s2 at *
  clear h' hcell hz1 hz2 hsh hl hk
  go_enter Tryd.func64, Tryd.ntmps64
  go_wp2_with fail
  generalize World.alloc (World.alloc w _) _ = X at *
  refine (HP X).out.mono ?_
  rintro e w1 ⟨rfl, hb1⟩
  replace hd2 := (below_grown (hb1.mono (Nat.le_refl _))).cell hd2 (by simp)
  replace k1 := (hb1.block _ (by omega)).trans k1
  replace k2 := (hb1.block _ (by omega)).trans k2
  have g1 := below_trans hbl hb1 hbl.size
  have hz1 := hb1.size
  clear hd0 hd1 hcc0 hcc1 hcc2
  go_wp2_with fail
  refine (HP2 _).out.mono ?_
  rintro e w2 ⟨rfl, hb2⟩
  replace k1 := (hb2.block _ (by omega)).trans k1
  replace k2 := (hb2.block _ (by omega)).trans k2
  have g2 := below_trans g1 hb2 g1.size
  obtain ⟨p0, p1, p2, p3, p4, p5⟩ := SetAt.of (x := ⟨xc, xr, xs, xl, xt⟩) (v := .slice a n0 c0) k1
  obtain ⟨t0, t1, t2, t3, t4, t5⟩ := froz6 k1
  obtain ⟨r0, r1, r2, r3, r4, r5⟩ := SetAt.of (x := zeroC) (v := .slice none 0 0) k2
  obtain ⟨s0, s1, s2, s3, s4, s5⟩ := froz6 k2
  simp only [zeroC] at r0 r1 r2 r3 r4
  clear k1 k2 hd2 hb1 hb2 g1
  have HN := Lib.hid (show (b1 && b2) = false → doF ⟨xc, xr, xs, xl, xt⟩ _ = none from fun h => by rw [HD.out, h]; rfl)
  cases b1
  · go_wp2
    refine bodyPost_ret (v := .tuple #[.agg #[.int .i64 (n1 : Int), .int .i64 (n2 : Int), .float .f32 xs, .float .f32 xl, .float .f32 xt, .slice a n0 c0], .bool false]) ?_ rfl (DonePost.no (y := ⟨(n1 : Int), (n2 : Int), xs, xl, xt⟩) (HN.out rfl) ?_)
    · simp [results, Tryd.results64, go_sem, r0, r1, r2, r3, r4, r5]
    · exact ((((((((g2.setCell (p := ⟨_, _, none⟩) (by simp) _).setCell (p := ⟨_, _, none⟩) (by simp) _).setCell (p := ⟨_, _, none⟩) (by simp) _).setCell (p := ⟨_, _, none⟩) (by simp) _).setCell (p := ⟨_, _, none⟩) (by simp) _).setCell (p := ⟨_, _, none⟩) (by simp) _).setCell (p := ⟨_, _, none⟩) (by simp) _).setCell (p := ⟨_, _, none⟩) (by simp) _)
  · go_wp2
    refine bodyPost_ret (v := .tuple #[.agg #[.int .i64 (n1 : Int), .int .i64 (n2 : Int), .float .f32 xs, .float .f32 xl, .float .f32 xt, .slice a n0 c0], .bool b2]) ?_ rfl (DonePost.yes (y := ⟨(n1 : Int), (n2 : Int), xs, xl, xt⟩) (HD.out.trans rfl) ?_)
    · simp [results, Tryd.results64, go_sem, r0, r1, r2, r3, r4, r5]
    · exact ((((((((g2.setCell (p := ⟨_, _, none⟩) (by simp) _).setCell (p := ⟨_, _, none⟩) (by simp) _).setCell (p := ⟨_, _, none⟩) (by simp) _).setCell (p := ⟨_, _, none⟩) (by simp) _).setCell (p := ⟨_, _, none⟩) (by simp) _).setCell (p := ⟨_, _, none⟩) (by simp) _).setCell (p := ⟨_, _, none⟩) (by simp) _).setCell (p := ⟨_, _, none⟩) (by simp) _)
set_option maxRecDepth 100000 in
set_option maxHeartbeats 2000000 in
theorem done_k0 (x : SetC) (a : Option Addr) (n0 c0 : Nat) (u : Value) (n l : List UInt8) (w : World) (h' : TRow w u [n, l]) (hs : Short [n, l]) (hk : n = [115, 108, 105, 99, 101]) :
    Calls Tryd.prog 64 #[x.val (.slice a n0 c0), u] w fun e w' => DonePost x (.slice a n0 c0) [n, l] w e w' := by
  obtain ⟨hl, hsh⟩ := hs
  have HD := Lib.hid (show doF x [n, l] = _ from hk ▸ doF_k0 (x := x) l)
  have hq0 : ((⟨n.toArray⟩ : ByteArray).toList == [115, 108, 105, 99, 101]) = true := by rw [Go.ByteArray.toList_mk]; subst hk; rfl
  obtain ⟨k1, k2, hsz, hbl⟩ := alloc2 w (.cells (x.cells (.slice a n0 c0)) 27) (.cells #[.int .i64 0, .int .i64 0, .float .f32 0, .float .f32 0, .float .f32 0, .slice none 0 0] 27)
  obtain ⟨xc, xr, xs, xl, xt⟩ := x
  obtain ⟨a2, c2, rfl, hcell⟩ := h'.any
  obtain ⟨g, o, rfl, hc, hcc0⟩ := hcell 0 (by simp)
  obtain ⟨g', o', e', _, hcc1⟩ := hcell 1 (by simp)
  cases e'
  have hz1 := hsh l (by simp)
  have hr := fxP_range l
  have HP := fun W => Lib.hid (specParseFixed_any ⟨l.toArray⟩ W (by simpa [ByteArray.size] using hz1))
  have HF := fun W => Lib.hid (specFromFixed_any ((fxP l).getD 0) W hr.1 hr.2)
  have hcv := fun W => conv_nar ((fxP l).getD 0) W
  unfold FixPost at HP
  unfold FromPost at HF
  have hg : ¬ g = w.heap.size := by
    intro e
    subst e
    simp [World.cell?] at hcc0
  have hg' : ¬ w.heap.size = g := fun e => hg e.symm
  have hd0 := (below_grown hbl).cell hcc0 (by simp)
  have hd1 := (below_grown hbl).cell hcc1 (by simp)
  simp only [SetC.val, SetC.cells, SetC.s', SetC.l', SetC.t', sngl, List.length_cons, List.length_nil, List.getElem_cons_zero, List.getElem_cons_succ, strV, Nat.add_zero, Nat.zero_add, Nat.reduceAdd] at *
  generalize (fxP l).getD 0 = z at *
  generalize (fxP l).isSome = b at *
  generalize nar (ffBits z) = y at *
  generalize ffBits z = y2 at *
  generalize (⟨n.toArray⟩ : ByteArray) = s0 at *
  generalize (⟨l.toArray⟩ : ByteArray) = s1 at *
  clear h' hcell hz1 hsh hl hr hk
  go_enter Tryd.func64, Tryd.ntmps64
  go_wp2_with fail
  generalize World.alloc (World.alloc w _) _ = X at *
  refine (HP X).out.mono ?_
  rintro e w1 ⟨rfl, hb1⟩
  replace hd0 := (below_grown (hb1.mono (Nat.le_refl _))).cell hd0 (by simp)
  replace k1 := (hb1.block _ (by omega)).trans k1
  replace k2 := (hb1.block _ (by omega)).trans k2
  have g1 := below_trans hbl hb1 hbl.size
  clear hd1 hcc0 hcc1 hb1
  go_wp2_with fail
  refine (HF _).out.mono ?_
  rintro e w2 ⟨rfl, rfl⟩
  obtain ⟨p0, p1, p2, p3, p4, p5⟩ := SetAt.of (x := ⟨xc, xr, xs, xl, xt⟩) (v := .slice a n0 c0) k1
  obtain ⟨t0, t1, t2, t3, t4, t5⟩ := froz6 k1
  obtain ⟨r0, r1, r2, r3, r4, r5⟩ := SetAt.of (x := zeroC) (v := .slice none 0 0) k2
  obtain ⟨f0, f1, f2, f3, f4, f5⟩ := froz6 k2
  simp only [zeroC] at r0 r1 r2 r3 r4
  clear k1 k2
  go_wp2
  refine bodyPost_ret (v := .tuple #[.agg #[.int .i64 xc, .int .i64 xr, .float .f32 y, .float .f32 xl, .float .f32 xt, .slice a n0 c0], .bool b]) ?_ rfl (DonePost.yes (y := ⟨xc, xr, y, xl, xt⟩) HD.out ?_)
  · simp [results, Tryd.results64, go_sem, r0, r1, r2, r3, r4, r5]
  · exact (((((((g1.setCell (p := ⟨_, _, none⟩) (by simp) _).setCell (p := ⟨_, _, none⟩) (by simp) _).setCell (p := ⟨_, _, none⟩) (by simp) _).setCell (p := ⟨_, _, none⟩) (by simp) _).setCell (p := ⟨_, _, none⟩) (by simp) _).setCell (p := ⟨_, _, none⟩) (by simp) _).setCell (p := ⟨_, _, none⟩) (by simp) _)
set_option maxRecDepth 100000 in
set_option maxHeartbeats 2000000 in
theorem done_k1 (x : SetC) (a : Option Addr) (n0 c0 : Nat) (u : Value) (n l : List UInt8) (w : World) (h' : TRow w u [n, l]) (hs : Short [n, l]) (hk : n = [107, 105, 108, 108, 101, 114]) :
    Calls Tryd.prog 64 #[x.val (.slice a n0 c0), u] w fun e w' => DonePost x (.slice a n0 c0) [n, l] w e w' := by
  obtain ⟨hl, hsh⟩ := hs
  have HD := Lib.hid (show doF x [n, l] = _ from hk ▸ doF_k1 (x := x) l)
  have hq0 : ((⟨n.toArray⟩ : ByteArray).toList == [115, 108, 105, 99, 101]) = false := by rw [Go.ByteArray.toList_mk]; subst hk; rfl
  have hq1 : ((⟨n.toArray⟩ : ByteArray).toList == [107, 105, 108, 108, 101, 114]) = true := by rw [Go.ByteArray.toList_mk]; subst hk; rfl
  obtain ⟨k1, k2, hsz, hbl⟩ := alloc2 w (.cells (x.cells (.slice a n0 c0)) 27) (.cells #[.int .i64 0, .int .i64 0, .float .f32 0, .float .f32 0, .float .f32 0, .slice none 0 0] 27)
  obtain ⟨xc, xr, xs, xl, xt⟩ := x
  obtain ⟨a2, c2, rfl, hcell⟩ := h'.any
  obtain ⟨g, o, rfl, hc, hcc0⟩ := hcell 0 (by simp)
  obtain ⟨g', o', e', _, hcc1⟩ := hcell 1 (by simp)
  cases e'
  have hz1 := hsh l (by simp)
  have hr := fxP_range l
  have HP := fun W => Lib.hid (specParseFixed_any ⟨l.toArray⟩ W (by simpa [ByteArray.size] using hz1))
  have HF := fun W => Lib.hid (specFromFixed_any ((fxP l).getD 0) W hr.1 hr.2)
  have hcv := fun W => conv_nar ((fxP l).getD 0) W
  unfold FixPost at HP
  unfold FromPost at HF
  have hg : ¬ g = w.heap.size := by
    intro e
    subst e
    simp [World.cell?] at hcc0
  have hg' : ¬ w.heap.size = g := fun e => hg e.symm
  have hd0 := (below_grown hbl).cell hcc0 (by simp)
  have hd1 := (below_grown hbl).cell hcc1 (by simp)
  simp only [SetC.val, SetC.cells, SetC.s', SetC.l', SetC.t', sngl, List.length_cons, List.length_nil, List.getElem_cons_zero, List.getElem_cons_succ, strV, Nat.add_zero, Nat.zero_add, Nat.reduceAdd] at *
  generalize (fxP l).getD 0 = z at *
  generalize (fxP l).isSome = b at *
  generalize nar (ffBits z) = y at *
  generalize ffBits z = y2 at *
  generalize (⟨n.toArray⟩ : ByteArray) = s0 at *
  generalize (⟨l.toArray⟩ : ByteArray) = s1 at *
  clear h' hcell hz1 hsh hl hr hk
  go_enter Tryd.func64, Tryd.ntmps64
  go_wp2_with fail
  generalize World.alloc (World.alloc w _) _ = X at *
  refine (HP X).out.mono ?_
  rintro e w1 ⟨rfl, hb1⟩
  replace hd0 := (below_grown (hb1.mono (Nat.le_refl _))).cell hd0 (by simp)
  replace k1 := (hb1.block _ (by omega)).trans k1
  replace k2 := (hb1.block _ (by omega)).trans k2
  have g1 := below_trans hbl hb1 hbl.size
  clear hd1 hcc0 hcc1 hb1
  go_wp2_with fail
  refine (HF _).out.mono ?_
  rintro e w2 ⟨rfl, rfl⟩
  obtain ⟨p0, p1, p2, p3, p4, p5⟩ := SetAt.of (x := ⟨xc, xr, xs, xl, xt⟩) (v := .slice a n0 c0) k1
  obtain ⟨t0, t1, t2, t3, t4, t5⟩ := froz6 k1
  obtain ⟨r0, r1, r2, r3, r4, r5⟩ := SetAt.of (x := zeroC) (v := .slice none 0 0) k2
  obtain ⟨f0, f1, f2, f3, f4, f5⟩ := froz6 k2
  simp only [zeroC] at r0 r1 r2 r3 r4
  clear k1 k2
  go_wp2
  refine bodyPost_ret (v := .tuple #[.agg #[.int .i64 xc, .int .i64 xr, .float .f32 xs, .float .f32 y, .float .f32 xt, .slice a n0 c0], .bool b]) ?_ rfl (DonePost.yes (y := ⟨xc, xr, xs, y, xt⟩) HD.out ?_)
  · simp [results, Tryd.results64, go_sem, r0, r1, r2, r3, r4, r5]
  · exact (((((((g1.setCell (p := ⟨_, _, none⟩) (by simp) _).setCell (p := ⟨_, _, none⟩) (by simp) _).setCell (p := ⟨_, _, none⟩) (by simp) _).setCell (p := ⟨_, _, none⟩) (by simp) _).setCell (p := ⟨_, _, none⟩) (by simp) _).setCell (p := ⟨_, _, none⟩) (by simp) _).setCell (p := ⟨_, _, none⟩) (by simp) _)
set_option maxRecDepth 100000 in
set_option maxHeartbeats 2000000 in
theorem done_k2 (x : SetC) (a : Option Addr) (n0 c0 : Nat) (u : Value) (n l : List UInt8) (w : World) (h' : TRow w u [n, l]) (hs : Short [n, l]) (hk : n = [115, 97, 116, 117, 114, 97, 116, 105, 111, 110]) :
    Calls Tryd.prog 64 #[x.val (.slice a n0 c0), u] w fun e w' => DonePost x (.slice a n0 c0) [n, l] w e w' := by
  obtain ⟨hl, hsh⟩ := hs
  have HD := Lib.hid (show doF x [n, l] = _ from hk ▸ doF_k2 (x := x) l)
  have hq0 : ((⟨n.toArray⟩ : ByteArray).toList == [115, 108, 105, 99, 101]) = false := by rw [Go.ByteArray.toList_mk]; subst hk; rfl
  have hq1 : ((⟨n.toArray⟩ : ByteArray).toList == [107, 105, 108, 108, 101, 114]) = false := by rw [Go.ByteArray.toList_mk]; subst hk; rfl
  have hq2 : ((⟨n.toArray⟩ : ByteArray).toList == [115, 97, 116, 117, 114, 97, 116, 105, 111, 110]) = true := by rw [Go.ByteArray.toList_mk]; subst hk; rfl
  obtain ⟨k1, k2, hsz, hbl⟩ := alloc2 w (.cells (x.cells (.slice a n0 c0)) 27) (.cells #[.int .i64 0, .int .i64 0, .float .f32 0, .float .f32 0, .float .f32 0, .slice none 0 0] 27)
  obtain ⟨xc, xr, xs, xl, xt⟩ := x
  obtain ⟨a2, c2, rfl, hcell⟩ := h'.any
  obtain ⟨g, o, rfl, hc, hcc0⟩ := hcell 0 (by simp)
  obtain ⟨g', o', e', _, hcc1⟩ := hcell 1 (by simp)
  cases e'
  have hz1 := hsh l (by simp)
  have hr := fxP_range l
  have HP := fun W => Lib.hid (specParseFixed_any ⟨l.toArray⟩ W (by simpa [ByteArray.size] using hz1))
  have HF := fun W => Lib.hid (specFromFixed_any ((fxP l).getD 0) W hr.1 hr.2)
  have hcv := fun W => conv_nar ((fxP l).getD 0) W
  unfold FixPost at HP
  unfold FromPost at HF
  have hg : ¬ g = w.heap.size := by
    intro e
    subst e
    simp [World.cell?] at hcc0
  have hg' : ¬ w.heap.size = g := fun e => hg e.symm
  have hd0 := (below_grown hbl).cell hcc0 (by simp)
  have hd1 := (below_grown hbl).cell hcc1 (by simp)
  simp only [SetC.val, SetC.cells, SetC.s', SetC.l', SetC.t', sngl, List.length_cons, List.length_nil, List.getElem_cons_zero, List.getElem_cons_succ, strV, Nat.add_zero, Nat.zero_add, Nat.reduceAdd] at *
  generalize (fxP l).getD 0 = z at *
  generalize (fxP l).isSome = b at *
  generalize nar (ffBits z) = y at *
  generalize ffBits z = y2 at *
  generalize (⟨n.toArray⟩ : ByteArray) = s0 at *
  generalize (⟨l.toArray⟩ : ByteArray) = s1 at *
  clear h' hcell hz1 hsh hl hr hk
  go_enter Tryd.func64, Tryd.ntmps64
  go_wp2_with fail
  generalize World.alloc (World.alloc w _) _ = X at *
  refine (HP X).out.mono ?_
  rintro e w1 ⟨rfl, hb1⟩
  replace hd0 := (below_grown (hb1.mono (Nat.le_refl _))).cell hd0 (by simp)
  replace k1 := (hb1.block _ (by omega)).trans k1
  replace k2 := (hb1.block _ (by omega)).trans k2
  have g1 := below_trans hbl hb1 hbl.size
  clear hd1 hcc0 hcc1 hb1
  go_wp2_with fail
  refine (HF _).out.mono ?_
  rintro e w2 ⟨rfl, rfl⟩
  obtain ⟨p0, p1, p2, p3, p4, p5⟩ := SetAt.of (x := ⟨xc, xr, xs, xl, xt⟩) (v := .slice a n0 c0) k1
  obtain ⟨t0, t1, t2, t3, t4, t5⟩ := froz6 k1
  obtain ⟨r0, r1, r2, r3, r4, r5⟩ := SetAt.of (x := zeroC) (v := .slice none 0 0) k2
  obtain ⟨f0, f1, f2, f3, f4, f5⟩ := froz6 k2
  simp only [zeroC] at r0 r1 r2 r3 r4
  clear k1 k2
  go_wp2
  refine bodyPost_ret (v := .tuple #[.agg #[.int .i64 xc, .int .i64 xr, .float .f32 xs, .float .f32 xl, .float .f32 y, .slice a n0 c0], .bool b]) ?_ rfl (DonePost.yes (y := ⟨xc, xr, xs, xl, y⟩) HD.out ?_)
  · simp [results, Tryd.results64, go_sem, r0, r1, r2, r3, r4, r5]
  · exact (((((((g1.setCell (p := ⟨_, _, none⟩) (by simp) _).setCell (p := ⟨_, _, none⟩) (by simp) _).setCell (p := ⟨_, _, none⟩) (by simp) _).setCell (p := ⟨_, _, none⟩) (by simp) _).setCell (p := ⟨_, _, none⟩) (by simp) _).setCell (p := ⟨_, _, none⟩) (by simp) _).setCell (p := ⟨_, _, none⟩) (by simp) _)
set_option maxRecDepth 100000 in
set_option maxHeartbeats 2000000 in
theorem done_other (x : SetC) (a : Option Addr) (n0 c0 : Nat) (u : Value) (n l : List UInt8) (w : World) (h' : TRow w u [n, l]) (hs : Short [n, l]) (h0 : n ≠ [115, 108, 105, 99, 101]) (h1 : n ≠ [107, 105, 108, 108, 101, 114]) (h2 : n ≠ [115, 97, 116, 117, 114, 97, 116, 105, 111, 110]) :
    Calls Tryd.prog 64 #[x.val (.slice a n0 c0), u] w fun e w' => DonePost x (.slice a n0 c0) [n, l] w e w' := by
  obtain ⟨hl, hsh⟩ := hs
  have HD := Lib.hid (show doF x [n, l] = _ from doF_other h0 h1 h2)
  have hq0 : ((⟨n.toArray⟩ : ByteArray).toList == [115, 108, 105, 99, 101]) = false := ne_key _ h0
  have hq1 : ((⟨n.toArray⟩ : ByteArray).toList == [107, 105, 108, 108, 101, 114]) = false := ne_key _ h1
  have hq2 : ((⟨n.toArray⟩ : ByteArray).toList == [115, 97, 116, 117, 114, 97, 116, 105, 111, 110]) = false := ne_key _ h2
  obtain ⟨k1, k2, hsz, hbl⟩ := alloc2 w (.cells (x.cells (.slice a n0 c0)) 27) (.cells #[.int .i64 0, .int .i64 0, .float .f32 0, .float .f32 0, .float .f32 0, .slice none 0 0] 27)
  obtain ⟨xc, xr, xs, xl, xt⟩ := x
  obtain ⟨a2, c2, rfl, hcell⟩ := h'.any
  obtain ⟨g, o, rfl, hc, hcc0⟩ := hcell 0 (by simp)
  obtain ⟨g', o', e', _, hcc1⟩ := hcell 1 (by simp)
  cases e'
  have hz1 := hsh l (by simp)
  have hr := fxP_range l
  have HP := fun W => Lib.hid (specParseFixed_any ⟨l.toArray⟩ W (by simpa [ByteArray.size] using hz1))
  have HF := fun W => Lib.hid (specFromFixed_any ((fxP l).getD 0) W hr.1 hr.2)
  have hcv := fun W => conv_nar ((fxP l).getD 0) W
  unfold FixPost at HP
  unfold FromPost at HF
  have hg : ¬ g = w.heap.size := by
    intro e
    subst e
    simp [World.cell?] at hcc0
  have hg' : ¬ w.heap.size = g := fun e => hg e.symm
  have hd0 := (below_grown hbl).cell hcc0 (by simp)
  have hd1 := (below_grown hbl).cell hcc1 (by simp)
  simp only [SetC.val, SetC.cells, SetC.s', SetC.l', SetC.t', sngl, List.length_cons, List.length_nil, List.getElem_cons_zero, List.getElem_cons_succ, strV, Nat.add_zero, Nat.zero_add, Nat.reduceAdd] at *
  generalize (fxP l).getD 0 = z at *
  generalize (fxP l).isSome = b at *
  generalize nar (ffBits z) = y at *
  generalize ffBits z = y2 at *
  generalize (⟨n.toArray⟩ : ByteArray) = s0 at *
  generalize (⟨l.toArray⟩ : ByteArray) = s1 at *
  clear h' hcell hz1 hsh hl hr h0 h1 h2
  go_enter Tryd.func64, Tryd.ntmps64
  go_wp2_with fail
  generalize World.alloc (World.alloc w _) _ = X at *
  refine (HP X).out.mono ?_
  rintro e w1 ⟨rfl, hb1⟩
  replace hd0 := (below_grown (hb1.mono (Nat.le_refl _))).cell hd0 (by simp)
  replace k1 := (hb1.block _ (by omega)).trans k1
  replace k2 := (hb1.block _ (by omega)).trans k2
  have g1 := below_trans hbl hb1 hbl.size
  clear hd1 hcc0 hcc1 hb1
  go_wp2_with fail
  refine (HF _).out.mono ?_
  rintro e w2 ⟨rfl, rfl⟩
  obtain ⟨p0, p1, p2, p3, p4, p5⟩ := SetAt.of (x := ⟨xc, xr, xs, xl, xt⟩) (v := .slice a n0 c0) k1
  obtain ⟨t0, t1, t2, t3, t4, t5⟩ := froz6 k1
  obtain ⟨r0, r1, r2, r3, r4, r5⟩ := SetAt.of (x := zeroC) (v := .slice none 0 0) k2
  obtain ⟨f0, f1, f2, f3, f4, f5⟩ := froz6 k2
  simp only [zeroC] at r0 r1 r2 r3 r4
  clear k1 k2
  go_wp2
  refine bodyPost_ret (v := .tuple #[.agg #[.int .i64 xc, .int .i64 xr, .float .f32 xs, .float .f32 xl, .float .f32 xt, .slice a n0 c0], .bool false]) ?_ rfl (DonePost.no (y := ⟨xc, xr, xs, xl, xt⟩) HD.out ?_)
  · simp [results, Tryd.results64, go_sem, r0, r1, r2, r3, r4, r5]
  · exact ((((((g1.setCell (p := ⟨_, _, none⟩) (by simp) _).setCell (p := ⟨_, _, none⟩) (by simp) _).setCell (p := ⟨_, _, none⟩) (by simp) _).setCell (p := ⟨_, _, none⟩) (by simp) _).setCell (p := ⟨_, _, none⟩) (by simp) _).setCell (p := ⟨_, _, none⟩) (by simp) _)
theorem done_any (x : SetC) (v u : Value) (ls fs : List (List UInt8)) (w : World) (h : TRow w v ls) (h' : TRow w u fs) (hs : Short fs) :
    Calls Tryd.prog 64 #[x.val v, u] w fun e w' => DonePost x v fs w e w' := by
  obtain ⟨a, c, rfl⟩ := h.lenv
  by_cases h2 : fs.length = 2
  · obtain ⟨n, l, rfl⟩ : ∃ n l, fs = [n, l] := by
      match fs, h2 with
      | [n, l], _ => exact ⟨n, l, rfl⟩
    by_cases e0 : n = [115, 108, 105, 99, 101]
    · exact done_k0 x a _ c u n l w h' hs e0
    by_cases e1 : n = [107, 105, 108, 108, 101, 114]
    · exact done_k1 x a _ c u n l w h' hs e1
    by_cases e2 : n = [115, 97, 116, 117, 114, 97, 116, 105, 111, 110]
    · exact done_k2 x a _ c u n l w h' hs e2
    exact done_other x a _ c u n l w h' hs e0 e1 e2
  by_cases h3 : fs.length = 3
  · obtain ⟨n, l, m, rfl⟩ : ∃ n l m, fs = [n, l, m] := by
      match fs, h3 with
      | [n, l, m], _ => exact ⟨n, l, m, rfl⟩
    by_cases e0 : n = [115, 105, 122, 101]
    · exact done_size x a _ c u n l m w h' hs e0
    exact done_three x a _ c u n l m w h' hs e0
  exact done_short x a _ c u fs w h' hs.1 h2 h3
end Go.Proofs.YtobpnoiienpipaaDoor

/-
  What is proved: the walk of the model's Tune.
  Conditions: the log can be read; its texts and the line have at most 1048576 bytes each.
-/
namespace Go.Proofs.YtobpnoiienpipaaDoor
set_option linter.unusedVariables false
open Go.RowKit
attribute [local go_sem] run_store_float run_store_complex unary_negf neg256

theorem OwnS.put1 {W : World} {b base i : Nat} {v : Value} {ls : List (List UInt8)} (h : OwnS W base v ls) (hne : ∀ k, v.ownBlock = some k → k ≠ b) (v0 : Value) : OwnS (W.setCell ⟨b, i, none⟩ v0) base v ls := by
  refine ⟨h.1, h.2.imp id fun ⟨g, cap, cur, h1, h2, h3, h4⟩ => ⟨g, cap, cur, h1, h2, ?_, h4⟩⟩
  subst h1
  have hb : ¬ b = g := fun e => hne g rfl e.symm
  rw [← h3]
  simp [World.setCell, Array.getElem?_modify, hb]
/-- A list of texts lies in no set's block. -/
theorem own_mark {W : World} {b base : Nat} {cs : Array Value} {v : Value} {ls : List (List UInt8)} (hb : W.heap[b]? = some (.cells cs 27 (0, 0))) (h : OwnS W base v ls) : ∀ k, v.ownBlock = some k → k ≠ b := by
  intro k hk e
  subst e
  rcases h.2 with ⟨rfl, _⟩ | ⟨g, cap, cur, rfl, _, hg, _⟩
  · cases hk
  cases hk
  rw [hb] at hg
  injection hg with e
  injection e with _ e2
  exact absurd e2 (by decide)
theorem setB_succ (x : SetC) (n : Nat) : setB x (n + 1) = (setB x n && decide (n < 100)) := by
  have h : decide (n + 1 ≤ 100) = (decide (n ≤ 100) && decide (n < 100)) := by
    by_cases h : n < 100
    · rw [decide_eq_true h, decide_eq_true (show n + 1 ≤ 100 by omega), decide_eq_true (show n ≤ 100 by omega)]; rfl
    · rw [decide_eq_false h, decide_eq_false (show ¬ n + 1 ≤ 100 by omega), Bool.and_false]
  unfold setB
  rw [h]
  simp only [Bool.and_assoc]
theorem join_take (fs : List (List UInt8)) (j : Nat) (h1 : 1 ≤ j) (h : j < fs.length) : ((⟨(Lib.join (fs.take j) [32]).toArray⟩ : ByteArray) ++ ⟨#[32]⟩) ++ ⟨fs[j].toArray⟩ = ⟨(Lib.join (fs.take (j + 1)) [32]).toArray⟩ := by
  have e : Lib.join (fs.take (j + 1)) [32] = Lib.join (fs.take j) [32] ++ [32] ++ fs[j] := by
    rw [List.take_succ_eq_append_getElem h]
    cases hx : fs.take j with
    | nil =>
      have := congrArg List.length hx
      rw [List.length_take, List.length_nil] at this
      omega
    | cons x r =>
      rw [List.cons_append, Lib.join_cons, Lib.join_cons]
      simp [Lib.joinTail]
  rw [e]
  apply ByteArray.ext
  simp [ByteArray.data_append]
theorem tuneF_full {x : SetC} {ls : List (List UInt8)} {line : List UInt8} (h : 100 ≤ ls.length) : tuneF x ls line = none := by
  cases e : tuneF x ls line with
  | none => rfl
  | some y =>
    have h1 := (tuneF_parts (q := (x, ls)) e).2.2.2.1
    have h2 : ls.length + 1 ≤ 100 := setB_le h1
    omega
theorem tuneF_bad {x y : SetC} {ls : List (List UInt8)} {line : List UInt8} (h : doF x (spl line) = some y) (h2 : setB y ls.length = false) : tuneF x ls line = none := by
  unfold tuneF
  split
  · rw [h]
    show (if setB y (ls.length + 1) = true then _ else _) = _
    rw [setB_succ, h2]
    rfl
  · rfl
theorem tuneF_good {x y : SetC} {ls : List (List UInt8)} {line : List UInt8} (h1 : splB line = true) (h2 : setB x ls.length = true) (h : doF x (spl line) = some y) (h3 : setB y ls.length = true) (h4 : ls.length < 100) : tuneF x ls line = some (y, ls ++ [Lib.join (spl line) [32]]) := by
  unfold tuneF
  rw [h1, h2, if_pos (by rfl), h]
  show (if setB y (ls.length + 1) = true then _ else _) = _
  rw [setB_succ, h3, decide_eq_true h4]
  rfl
set_option maxRecDepth 100000 in
set_option maxHeartbeats 4000000 in
theorem specTune_early (x : SetC) (v : Value) (ls : List (List UInt8)) (s : ByteArray) (w : World) (hx : x.ok) (h : TRow w v ls) (hs : Short ls) (hsz : s.size ≤ 1048576)
    (hno : splB s.data.toList = false ∨ spl s.data.toList = [] ∨ setB x ls.length = false ∨ 100 ≤ ls.length) :
    Calls Tryd.prog 26 #[x.val v, .string s] w fun e w' => TunePost (x, ls) s.data.toList w e w' := by
  have HQ := Lib.hid (show tuneF x ls s.data.toList = none by
    rcases hno with h | h | h | h
    · exact tuneF_split h
    · exact tuneF_empty h
    · exact tuneF_set h
    · exact tuneF_full h)
  have HNO := Lib.hid hno
  have hlen : ls.length ≤ 3000000 := hs.1
  have HC := fun W hr => Lib.hid (l08Copy_any x v ls W hr hs.1)
  have HSP := fun W => Lib.hid (specSplitFields_any s W hsz)
  have HOK := fun W hr => Lib.hid (specSetOk_any x v ls W hx hr hs.1)
  have HN := fun w' v h1 h2 h3 => Lib.hid (TunePost.no (x := x) (ls := ls) (line := s.data.toList) (v := v) (w := w) (w' := w') h1 h2 h3)
  have HR := Lib.hid h
  obtain ⟨a, c, rfl⟩ := h.lenv
  obtain ⟨k1, k2, hsz2, hbl⟩ := alloc2 w (.cells (x.cells (.slice a ls.length c)) 27) (.cells #[.int .i64 0, .int .i64 0, .float .f32 0, .float .f32 0, .float .f32 0, .slice none 0 0] 27)
  generalize s.data.toList = line at *
  obtain ⟨xc, xr, xs, xl, xt⟩ := x
  simp only [SetC.val, SetC.cells] at *
  clear h hs hx hno
  obtain ⟨p0, p1, p2, p3, p4, p5⟩ := SetAt.of (x := ⟨xc, xr, xs, xl, xt⟩) (v := .slice a ls.length c) k1
  go_enter Tryd.func26, Tryd.ntmps26
  go_wp2_with fail
  generalize World.alloc (World.alloc w _) _ = X at *
  refine (HSP X).out.mono ?_
  rintro e w1 ⟨u, rfl, ho, hb1⟩
  have g1 := below_trans hbl hb1 hbl.size
  have hz1 := hb1.size
  replace k1 := (hb1.block _ (by omega)).trans k1
  replace k2 := (hb1.block _ (by omega)).trans k2
  have HO := Lib.hid ho
  obtain ⟨au, cu, hu⟩ := ho.row.lenv
  subst hu
  clear ho hb1 HSP
  obtain ⟨p0, p1, p2, p3, p4, p5⟩ := SetAt.of (x := ⟨xc, xr, xs, xl, xt⟩) (v := .slice a ls.length c) k1
  cases hB : splB line with
  | false =>
    generalize (spl line).length = n at *
    go_wp2_with fail
    refine (HC w1 (HR.out.below g1)).out.mono ?_
    rintro e w8 ⟨v8, rfl, ho8, hb8⟩
    obtain ⟨a8, c8, rfl⟩ := ho8.row.lenv
    have g8 := below_trans g1 hb8 g1.size
    have m8 := (hb8.block (w.heap.size + 1) (by omega)).trans k2
    have HOW := Lib.hid ho8
    obtain ⟨r0, r1, r2, r3, r4, r5⟩ := SetAt.of (x := zeroC) (v := .slice none 0 0) m8
    obtain ⟨t0, t1, t2, t3, t4, t5⟩ := froz6 m8
    simp only [zeroC] at r0 r1 r2 r3 r4
    try clear p0 p1 p2 p3 p4 p5
    try clear u0 u1 u2 u3 u4 u5
    clear ho8 hb8 m8
    go_wp2_with fail
    refine bodyPost_ret (v := .tuple #[.agg #[.int .i64 xc, .int .i64 xr, .float .f32 xs, .float .f32 xl, .float .f32 xt, .slice a8 ls.length c8], .bool false]) ?_ rfl (HN _ _ HQ.out ?_ ?_).out
    · simp [results, Tryd.results26, go_sem, r0, r1, r2, r3, r4, r5]
    · refine (OwnS.put6 HOW.out (fun k hk => ?_) _ _ _ _ _ _).low (by omega)
      have := (HOW.out.lt k hk).1
      omega
    · exact below6 g8 (by omega) _ _ _ _ _ _
  | true =>
    by_cases h0 : spl line = []
    · have hn : (spl line).length = 0 := by rw [h0]; rfl
      generalize (spl line).length = n at *
      subst hn
      clear h0
      go_wp2_with fail
      refine (HC w1 (HR.out.below g1)).out.mono ?_
      rintro e w8 ⟨v8, rfl, ho8, hb8⟩
      obtain ⟨a8, c8, rfl⟩ := ho8.row.lenv
      have g8 := below_trans g1 hb8 g1.size
      have m8 := (hb8.block (w.heap.size + 1) (by omega)).trans k2
      have HOW := Lib.hid ho8
      obtain ⟨r0, r1, r2, r3, r4, r5⟩ := SetAt.of (x := zeroC) (v := .slice none 0 0) m8
      obtain ⟨t0, t1, t2, t3, t4, t5⟩ := froz6 m8
      simp only [zeroC] at r0 r1 r2 r3 r4
      try clear p0 p1 p2 p3 p4 p5
      try clear u0 u1 u2 u3 u4 u5
      clear ho8 hb8 m8
      go_wp2_with fail
      refine bodyPost_ret (v := .tuple #[.agg #[.int .i64 xc, .int .i64 xr, .float .f32 xs, .float .f32 xl, .float .f32 xt, .slice a8 ls.length c8], .bool false]) ?_ rfl (HN _ _ HQ.out ?_ ?_).out
      · simp [results, Tryd.results26, go_sem, r0, r1, r2, r3, r4, r5]
      · refine (OwnS.put6 HOW.out (fun k hk => ?_) _ _ _ _ _ _).low (by omega)
        have := (HOW.out.lt k hk).1
        omega
      · exact below6 g8 (by omega) _ _ _ _ _ _
    · have hn : ¬ ((spl line).length : Int) = 0 := by
        have := List.length_pos_iff.2 h0
        omega
      have hbf : setB ⟨xc, xr, xs, xl, xt⟩ ls.length = false ∨ 100 ≤ ls.length := by
        rcases HNO.out with h | h | h | h
        · rw [hB] at h; cases h
        · exact absurd h h0
        · exact .inl h
        · exact .inr h
      have HK := Lib.hid (HOK w1 (HR.out.below g1)).out
      generalize (spl line).length = n at *
      clear h0
      cases hS : setB ⟨xc, xr, xs, xl, xt⟩ ls.length with
      | false =>
        rw [hS] at HK
        clear hbf hS
        go_wp2_with fail
        refine HK.out.mono ?_
        rintro e w2 ⟨rfl, hb2⟩
        have g2 := below_trans g1 hb2 g1.size
        replace k1 := (hb2.block (w.heap.size) (by omega)).trans k1
        replace k2 := (hb2.block (w.heap.size + 1) (by omega)).trans k2
        have hz2 := hb2.size
        clear p0 p1 p2 p3 p4 p5 hb2 HK
        obtain ⟨p0, p1, p2, p3, p4, p5⟩ := SetAt.of (x := ⟨xc, xr, xs, xl, xt⟩) (v := .slice a ls.length c) k1
        go_wp2_with fail
        refine (HC w2 (HR.out.below g2)).out.mono ?_
        rintro e w8 ⟨v8, rfl, ho8, hb8⟩
        obtain ⟨a8, c8, rfl⟩ := ho8.row.lenv
        have g8 := below_trans g2 hb8 g2.size
        have m8 := (hb8.block (w.heap.size + 1) (by omega)).trans k2
        have HOW := Lib.hid ho8
        obtain ⟨r0, r1, r2, r3, r4, r5⟩ := SetAt.of (x := zeroC) (v := .slice none 0 0) m8
        obtain ⟨t0, t1, t2, t3, t4, t5⟩ := froz6 m8
        simp only [zeroC] at r0 r1 r2 r3 r4
        try clear p0 p1 p2 p3 p4 p5
        try clear u0 u1 u2 u3 u4 u5
        clear ho8 hb8 m8
        go_wp2_with fail
        refine bodyPost_ret (v := .tuple #[.agg #[.int .i64 xc, .int .i64 xr, .float .f32 xs, .float .f32 xl, .float .f32 xt, .slice a8 ls.length c8], .bool false]) ?_ rfl (HN _ _ HQ.out ?_ ?_).out
        · simp [results, Tryd.results26, go_sem, r0, r1, r2, r3, r4, r5]
        · refine (OwnS.put6 HOW.out (fun k hk => ?_) _ _ _ _ _ _).low (by omega)
          have := (HOW.out.lt k hk).1
          omega
        · exact below6 g8 (by omega) _ _ _ _ _ _
      | true =>
        have h100 : (100 : Int) ≤ ls.length := by
          rcases hbf with h | h
          · rw [hS] at h; cases h
          · omega
        rw [hS] at HK
        clear hbf hS
        go_wp2_with fail
        refine HK.out.mono ?_
        rintro e w2 ⟨rfl, hb2⟩
        have g2 := below_trans g1 hb2 g1.size
        replace k1 := (hb2.block (w.heap.size) (by omega)).trans k1
        replace k2 := (hb2.block (w.heap.size + 1) (by omega)).trans k2
        have hz2 := hb2.size
        clear p0 p1 p2 p3 p4 p5 hb2 HK
        obtain ⟨p0, p1, p2, p3, p4, p5⟩ := SetAt.of (x := ⟨xc, xr, xs, xl, xt⟩) (v := .slice a ls.length c) k1
        go_wp2_with fail
        refine (HC w2 (HR.out.below g2)).out.mono ?_
        rintro e w8 ⟨v8, rfl, ho8, hb8⟩
        obtain ⟨a8, c8, rfl⟩ := ho8.row.lenv
        have g8 := below_trans g2 hb8 g2.size
        have m8 := (hb8.block (w.heap.size + 1) (by omega)).trans k2
        have HOW := Lib.hid ho8
        obtain ⟨r0, r1, r2, r3, r4, r5⟩ := SetAt.of (x := zeroC) (v := .slice none 0 0) m8
        obtain ⟨t0, t1, t2, t3, t4, t5⟩ := froz6 m8
        simp only [zeroC] at r0 r1 r2 r3 r4
        try clear p0 p1 p2 p3 p4 p5
        try clear u0 u1 u2 u3 u4 u5
        clear ho8 hb8 m8
        go_wp2_with fail
        refine bodyPost_ret (v := .tuple #[.agg #[.int .i64 xc, .int .i64 xr, .float .f32 xs, .float .f32 xl, .float .f32 xt, .slice a8 ls.length c8], .bool false]) ?_ rfl (HN _ _ HQ.out ?_ ?_).out
        · simp [results, Tryd.results26, go_sem, r0, r1, r2, r3, r4, r5]
        · refine (OwnS.put6 HOW.out (fun k hk => ?_) _ _ _ _ _ _).low (by omega)
          have := (HOW.out.lt k hk).1
          omega
        · exact below6 g8 (by omega) _ _ _ _ _ _
set_option maxRecDepth 100000 in
set_option maxHeartbeats 4000000 in
theorem specTune_late (x : SetC) (v : Value) (ls : List (List UInt8)) (s : ByteArray) (w : World) (hx : x.ok) (h : TRow w v ls) (hs : Short ls) (hsz : s.size ≤ 1048576)
    (n : List UInt8) (vs : List (List UInt8)) (hspb : splB s.data.toList = true) (hspl : spl s.data.toList = n :: vs) (hset : setB x ls.length = true) (hlt : ls.length < 100) :
    Calls Tryd.prog 26 #[x.val v, .string s] w fun e w' => TunePost (x, ls) s.data.toList w e w' := by
  have hlen : ls.length ≤ 3000000 := hs.1
  have HX := Lib.hid hx
  have hsm := (spl_small hspb).1
  have h24 := (spl_small hspb).2
  rw [hspl] at hsm h24
  have HSM := Lib.hid hsm
  have HSV := Lib.hid (show Short (n :: vs) from ⟨by omega, fun l hl => by have := hsm l hl; omega⟩)
  have HDO := fun (v : Value) (u : Value) (W : World) (h : TRow W v ls) (h' : TRow W u (n :: vs)) => Lib.hid (done_any x v u ls (n :: vs) W h h' HSV.out)
  have HQ1 := Lib.hid (fun (h : doF x (n :: vs) = none) => show tuneF x ls s.data.toList = none from tuneF_do (by rw [hspl]; exact h))
  have HQ2 := Lib.hid (fun (y : SetC) (h : doF x (n :: vs) = some y) (h2 : setB y ls.length = false) => show tuneF x ls s.data.toList = none from tuneF_bad (by rw [hspl]; exact h) h2)
  have HQ3 := Lib.hid (fun (y : SetC) (h : doF x (n :: vs) = some y) (h2 : setB y ls.length = true) => show tuneF x ls s.data.toList = some (y, ls ++ [Lib.join (n :: vs) [32]]) from by rw [← hspl]; exact tuneF_good hspb hset (by rw [hspl]; exact h) h2 hlt)
  have HYS := fun w' v y out h1 h2 h3 => Lib.hid (TunePost.yes (x := x) (y := y) (ls := ls) (out := out) (line := s.data.toList) (v := v) (w := w) (w' := w') h1 h2 h3)
  have HOKY := fun (y : SetC) (hy : y.ok) (v : Value) W hr => Lib.hid (specSetOk_any y v ls W hy hr hlen)
  have HC := fun W hr => Lib.hid (l08Copy_any x v ls W hr hs.1)
  have HSP := fun W => Lib.hid (specSplitFields_any s W hsz)
  have HOK := fun W hr => Lib.hid (specSetOk_any x v ls W hx hr hs.1)
  have HN := fun w' v h1 h2 h3 => Lib.hid (TunePost.no (x := x) (ls := ls) (line := s.data.toList) (v := v) (w := w) (w' := w') h1 h2 h3)
  have HR := Lib.hid h
  obtain ⟨a, c, rfl⟩ := h.lenv
  obtain ⟨k1, k2, hsz2, hbl⟩ := alloc2 w (.cells (x.cells (.slice a ls.length c)) 27) (.cells #[.int .i64 0, .int .i64 0, .float .f32 0, .float .f32 0, .float .f32 0, .slice none 0 0] 27)
  rw [hset] at HOK
  unfold SplitPost at HSP
  rw [hspb, hspl] at HSP
  have HBD := Lib.hid (fun (y : SetC) (h : doF x (n :: vs) = some y) => doF_ok HX.out h)
  generalize s.data.toList = line at *
  obtain ⟨xc, xr, xs, xl, xt⟩ := x
  simp only [SetC.val, SetC.cells] at *
  clear h hs hx hset hspb hspl hsm
  obtain ⟨p0, p1, p2, p3, p4, p5⟩ := SetAt.of (x := ⟨xc, xr, xs, xl, xt⟩) (v := .slice a ls.length c) k1
  go_enter Tryd.func26, Tryd.ntmps26
  go_wp2_with fail
  generalize World.alloc (World.alloc w _) _ = X at *
  refine (HSP X).out.mono ?_
  rintro e w1 ⟨u, rfl, ho, hb1⟩
  have g1 := below_trans hbl hb1 hbl.size
  have hz1 := hb1.size
  replace k1 := (hb1.block _ (by omega)).trans k1
  replace k2 := (hb1.block _ (by omega)).trans k2
  have HO := Lib.hid ho
  obtain ⟨au, cu, hu⟩ := ho.row.lenv
  subst hu
  clear ho hb1 HSP
  obtain ⟨p0, p1, p2, p3, p4, p5⟩ := SetAt.of (x := ⟨xc, xr, xs, xl, xt⟩) (v := .slice a ls.length c) k1
  generalize hm : (n :: vs).length = m at *
  have HM := Lib.hid hm
  have hnl : ¬ (m : Int) = 0 := by simp at hm; omega
  have hm1 : 0 < m := by simp at hm; omega
  clear hm
  have h100 : ¬ (100 : Int) ≤ ls.length := by omega
  have hm0 : ¬ m = 0 := by omega
  have hbm : ((m : Int) == 0) = false := by simpa using hm0
  have hb100 : decide ((100 : Int) ≤ ls.length) = false := decide_eq_false h100
  go_wp2_with fail
  refine (HOK w1 (HR.out.below g1)).out.mono ?_
  rintro e w2 ⟨rfl, hb2⟩
  have g2 := below_trans g1 hb2 g1.size
  replace k1 := (hb2.block (w.heap.size) (by omega)).trans k1
  replace k2 := (hb2.block (w.heap.size + 1) (by omega)).trans k2
  have hz2 := hb2.size
  replace HO := Lib.hid (HO.out.below hb2)
  clear p0 p1 p2 p3 p4 p5 hb2
  obtain ⟨p0, p1, p2, p3, p4, p5⟩ := SetAt.of (x := ⟨xc, xr, xs, xl, xt⟩) (v := .slice a ls.length c) k1
  go_wp2_with fail
  refine (HC w2 (HR.out.below g2)).out.mono ?_
  rintro e w3 ⟨v3, rfl, ho3, hb3⟩
  obtain ⟨a3, c3, rfl⟩ := ho3.row.lenv
  have g3 := below_trans g2 hb3 g2.size
  replace k1 := (hb3.block (w.heap.size) (by omega)).trans k1
  replace k2 := (hb3.block (w.heap.size + 1) (by omega)).trans k2
  have hz3 := hb3.size
  replace HO := Lib.hid (HO.out.below hb3)
  have HO3 := Lib.hid ho3
  have RG := Lib.hid (show ∀ r, (Value.slice a3 ls.length c3).ownBlock = some r → w2.heap.size ≤ r ∧ r < w3.heap.size from ho3.lt)
  clear p0 p1 p2 p3 p4 p5 hb3 ho3
  go_wp2_with fail
  refine (HDO _ _ w3 HO3.out.row HO.out.row).out.mono ?_
  rintro e w4 ⟨y, b, rfl, hy1, hy2, hb4⟩
  have g4 := below_trans g3 hb4 g3.size
  replace k1 := (hb4.block (w.heap.size) (by omega)).trans k1
  replace k2 := (hb4.block (w.heap.size + 1) (by omega)).trans k2
  have hz4 := hb4.size
  replace HO := Lib.hid (HO.out.below hb4)
  replace HO3 := Lib.hid (HO3.out.below hb4)
  obtain ⟨yc, yr, ys, yl, yt⟩ := y
  simp only [SetC.val] at *
  have HY1 := Lib.hid hy1
  have HY2 := Lib.hid hy2
  clear hb4 hy1 hy2
  have m3 := heap_alloc_new w4 (.cells #[.int .i64 yc, .int .i64 yr, .float .f32 ys, .float .f32 yl, .float .f32 yt, .slice a3 ls.length c3] 27)
  have m1 := (alloc_keeps w4 (.cells #[.int .i64 yc, .int .i64 yr, .float .f32 ys, .float .f32 yl, .float .f32 yt, .slice a3 ls.length c3] 27) (show w.heap.size < w4.heap.size by omega)).trans k1
  have m2 := (alloc_keeps w4 (.cells #[.int .i64 yc, .int .i64 yr, .float .f32 ys, .float .f32 yl, .float .f32 yt, .slice a3 ls.length c3] 27) (show w.heap.size + 1 < w4.heap.size by omega)).trans k2
  have g5 := g4.alloc g4.size (.cells #[.int .i64 yc, .int .i64 yr, .float .f32 ys, .float .f32 yl, .float .f32 yt, .slice a3 ls.length c3] 27)
  have z5 : (w4.alloc (.cells #[.int .i64 yc, .int .i64 yr, .float .f32 ys, .float .f32 yl, .float .f32 yt, .slice a3 ls.length c3] 27)).heap.size = w4.heap.size + 1 := by simp
  replace HO := Lib.hid (HO.out.alloc (.cells #[.int .i64 yc, .int .i64 yr, .float .f32 ys, .float .f32 yl, .float .f32 yt, .slice a3 ls.length c3] 27))
  replace HO3 := Lib.hid (HO3.out.alloc (.cells #[.int .i64 yc, .int .i64 yr, .float .f32 ys, .float .f32 yl, .float .f32 yt, .slice a3 ls.length c3] 27))
  clear k1 k2
  cases b with
  | false =>
    have HQ := Lib.hid (HQ1.out (HY2.out rfl))
    obtain ⟨p0, p1, p2, p3, p4, p5⟩ := SetAt.of (x := ⟨xc, xr, xs, xl, xt⟩) (v := .slice a ls.length c) m1
    clear m3
    go_wp2_with fail
    generalize World.alloc w4 _ = X2 at *
    refine (HC X2 (HR.out.below g5)).out.mono ?_
    rintro e w8 ⟨v8, rfl, ho8, hb8⟩
    obtain ⟨a8, c8, rfl⟩ := ho8.row.lenv
    have g8 := below_trans g5 hb8 g5.size
    have m8 := (hb8.block (w.heap.size + 1) (by omega)).trans m2
    have HOW := Lib.hid ho8
    obtain ⟨r0, r1, r2, r3, r4, r5⟩ := SetAt.of (x := zeroC) (v := .slice none 0 0) m8
    obtain ⟨t0, t1, t2, t3, t4, t5⟩ := froz6 m8
    simp only [zeroC] at r0 r1 r2 r3 r4
    try clear p0 p1 p2 p3 p4 p5
    try clear u0 u1 u2 u3 u4 u5
    clear ho8 hb8 m8
    go_wp2_with fail
    refine bodyPost_ret (v := .tuple #[.agg #[.int .i64 xc, .int .i64 xr, .float .f32 xs, .float .f32 xl, .float .f32 xt, .slice a8 ls.length c8], .bool false]) ?_ rfl (HN _ _ HQ.out ?_ ?_).out
    · simp [results, Tryd.results26, go_sem, r0, r1, r2, r3, r4, r5]
    · refine (OwnS.put6 HOW.out (fun k hk => ?_) _ _ _ _ _ _).low (by omega)
      have := (HOW.out.lt k hk).1
      omega
    · exact below6 g8 (by omega) _ _ _ _ _ _
  | true =>
    have hdo := HY1.out rfl
    have hyok := HBD.out _ hdo
    have hdq2 := HQ2.out _ hdo
    have hdq3 := HQ3.out _ hdo
    have HKY := Lib.hid (fun W hr => (HOKY ⟨yc, yr, ys, yl, yt⟩ hyok (.slice a3 ls.length c3) W hr).out)
    have HJ2 := Lib.hid hdq2
    have HJ3 := Lib.hid hdq3
    clear hdo hyok hdq2 hdq3
    obtain ⟨u0, u1, u2, u3, u4, u5⟩ := SetAt.of (x := ⟨yc, yr, ys, yl, yt⟩) (v := .slice a3 ls.length c3) m3
    cases hS : setB ⟨yc, yr, ys, yl, yt⟩ ls.length with
    | false =>
      have HQ := Lib.hid (HJ2.out hS)
      have HKZ := Lib.hid (fun W hr => (by have := HKY.out W hr; rw [hS] at this; exact this : Calls Tryd.prog 22 #[.agg #[.int .i64 yc, .int .i64 yr, .float .f32 ys, .float .f32 yl, .float .f32 yt, .slice a3 ls.length c3]] W fun e w' => e = .returned (.bool false) ∧ Below W.heap.size W w'))
      clear hS
      go_wp2_with fail
      generalize World.alloc w4 _ = X2 at *
      refine (HKZ.out X2 HO3.out.row).mono ?_
      rintro e w6 ⟨rfl, hb6⟩
      have g6 := below_trans g5 hb6 g5.size
      replace m1 := (hb6.block (w.heap.size) (by omega)).trans m1
      replace m2 := (hb6.block (w.heap.size + 1) (by omega)).trans m2
      have hz6 := hb6.size
      clear u0 u1 u2 u3 u4 u5 hb6
      obtain ⟨p0, p1, p2, p3, p4, p5⟩ := SetAt.of (x := ⟨xc, xr, xs, xl, xt⟩) (v := .slice a ls.length c) m1
      go_wp2_with fail
      refine (HC w6 (HR.out.below g6)).out.mono ?_
      rintro e w8 ⟨v8, rfl, ho8, hb8⟩
      obtain ⟨a8, c8, rfl⟩ := ho8.row.lenv
      have g8 := below_trans g6 hb8 g6.size
      have m8 := (hb8.block (w.heap.size + 1) (by omega)).trans m2
      have HOW := Lib.hid ho8
      obtain ⟨r0, r1, r2, r3, r4, r5⟩ := SetAt.of (x := zeroC) (v := .slice none 0 0) m8
      obtain ⟨t0, t1, t2, t3, t4, t5⟩ := froz6 m8
      simp only [zeroC] at r0 r1 r2 r3 r4
      try clear p0 p1 p2 p3 p4 p5
      try clear u0 u1 u2 u3 u4 u5
      clear ho8 hb8 m8
      go_wp2_with fail
      refine bodyPost_ret (v := .tuple #[.agg #[.int .i64 xc, .int .i64 xr, .float .f32 xs, .float .f32 xl, .float .f32 xt, .slice a8 ls.length c8], .bool false]) ?_ rfl (HN _ _ HQ.out ?_ ?_).out
      · simp [results, Tryd.results26, go_sem, r0, r1, r2, r3, r4, r5]
      · refine (OwnS.put6 HOW.out (fun k hk => ?_) _ _ _ _ _ _).low (by omega)
        have := (HOW.out.lt k hk).1
        omega
      · exact below6 g8 (by omega) _ _ _ _ _ _
    | true =>
      have HQ := Lib.hid (HJ3.out hS)
      have HKZ := Lib.hid (fun W hr => (by have := HKY.out W hr; rw [hS] at this; exact this : Calls Tryd.prog 22 #[.agg #[.int .i64 yc, .int .i64 yr, .float .f32 ys, .float .f32 yl, .float .f32 yt, .slice a3 ls.length c3]] W fun e w' => e = .returned (.bool true) ∧ Below W.heap.size W w'))
      clear hS
      go_wp2_with fail
      generalize World.alloc w4 _ = X2 at *
      refine (HKZ.out X2 HO3.out.row).mono ?_
      rintro e w6 ⟨rfl, hb6⟩
      have g6 := below_trans g5 hb6 g5.size
      replace m2 := (hb6.block (w.heap.size + 1) (by omega)).trans m2
      replace m3 := (hb6.block (w4.heap.size) (by omega)).trans m3
      have hz6 := hb6.size
      replace HO := Lib.hid (HO.out.below hb6)
      replace HO3 := Lib.hid (HO3.out.below hb6)
      clear u0 u1 u2 u3 u4 u5 hb6 m1
      rcases HO.out.shape with ⟨_, e⟩ | ⟨g, cap, hv, _, hgl, hcap, _⟩
      · cases e
      injection hv with hv1 hv2 hv3
      subst hv1 hv3
      have hc0 := (HO.out.cell 0 (by simp)).1
      simp only [List.getElem_cons_zero, strV] at hc0
      rw [HM.out] at hcap
      clear hv2
      have hmi : (m : Int) ≤ 25 := by omega
      have HJL := Lib.hid (fun j (h1 : 1 ≤ j) (hj : j ≤ m) => show (Lib.join ((n :: vs).take j) [32]).length ≤ 20000 from by
        obtain ⟨j, rfl⟩ : ∃ k, j = k + 1 := ⟨j - 1, by omega⟩
        have h2 := join_bound n (vs.take j) (fun g hg => HSM.out g (by
          rcases List.mem_cons.1 hg with rfl | hg
          · simp
          · simp [List.mem_of_mem_take hg]))
        have h3 : (vs.take j).length ≤ 24 := by
          have := HM.out
          rw [List.length_cons] at this
          rw [List.length_take]
          omega
        rw [List.take_succ_cons]
        omega)
      go_wp2
      go_loop [10, 11] (fun t i => ∃ j : Nat, 1 ≤ j ∧ j ≤ m ∧ i = .int .i64 (j : Int) ∧ t = .string ⟨(Lib.join ((n :: vs).take j) [32]).toArray⟩) (fun _ i => m - (intOf i).toNat)
      case atStart => exact ⟨1, Nat.le_refl _, by omega, rfl, by simp [Lib.join_one]⟩
      case round =>
        obtain ⟨j, hj1, hj, rfl, rfl⟩ := hrel
        by_cases hlt : j < m
        · have hlt' : j < (n :: vs).length := by rw [HM.out]; exact hlt
          obtain ⟨c1, _⟩ := HO.out.cell j hlt'
          have l1 := HJL.out j hj1 hj
          have l2 := HSM.out _ (List.getElem_mem hlt')
          have HTJ := Lib.hid (join_take (n :: vs) j hj1 hlt')
          unfold strV at c1
          generalize (n :: vs)[j] = f at *
          have l3 : (Lib.join ((n :: vs).take j) [32]).length + f.length ≤ 400000 := by omega
          clear hc0
          go_wp2
          go_round
          case rel => exact ⟨j + 1, by omega, by omega, by go_num, congrArg Value.string HTJ.out⟩
          case measure => simp [intOf]; omega
        · obtain rfl : j = m := by omega
          have e0 : (n :: vs).take j = n :: vs := by rw [← HM.out, List.take_length]
          rw [e0]
          clear e0 hc0 HJL
          generalize Lib.join (n :: vs) [32] = T at *
          obtain ⟨u0, u1, u2, u3, u4, u5⟩ := SetAt.of (x := ⟨yc, yr, ys, yl, yt⟩) (v := .slice a3 ls.length c3) m3
          go_wp2_with (
            at_builtin
            refine list_str rfl (.tmp 70) (.tmp 72) rfl w2.heap.size _ ls rfl HO3.out _ _ T rfl rfl (by omega) (by omega) ?_
            intro v' w7 ho7 hg7
            obtain ⟨a7, c7, rfl⟩ := ho7.row.lenv
            have hz7 : w6.heap.size + 1 ≤ w7.heap.size := by have := hg7.size; simpa using this
            have m37 := (hg7.block (w4.heap.size) (by simp; omega) (fun e => by have := RG.out _ e.symm; omega)).trans ((alloc_keeps w6 (.cells #[.string ⟨T.toArray⟩] 9) (show w4.heap.size < w6.heap.size by omega)).trans m3)
            have m27 := (hg7.block (w.heap.size + 1) (by simp; omega) (fun e => by have := RG.out _ e.symm; omega)).trans ((alloc_keeps w6 (.cells #[.string ⟨T.toArray⟩] 9) (show w.heap.size + 1 < w6.heap.size by omega)).trans m2)
            have g7 : Below w.heap.size w w7 := (g6.alloc g6.size _).grown hg7 (by have := g6.size; simp; omega) (fun r hr => by have := RG.out r hr; omega)
            have HO7 := Lib.hid ho7
            clear u0 u1 u2 u3 u4 u5
            obtain ⟨u0, u1, u2, u3, u4, u5⟩ := SetAt.of (x := ⟨yc, yr, ys, yl, yt⟩) (v := .slice a3 ls.length c3) m37
            obtain ⟨f0, f1, f2, f3, f4, f5⟩ := froz6 m37
            obtain ⟨r0, r1, r2, r3, r4, r5⟩ := SetAt.of (x := zeroC) (v := .slice none 0 0) m27
            obtain ⟨t0, t1, t2, t3, t4, t5⟩ := froz6 m27
            simp only [zeroC] at r0 r1 r2 r3 r4
            have hne1 : ¬ w4.heap.size = w.heap.size + 1 := by omega
            have hne2 : ¬ w.heap.size + 1 = w4.heap.size := by omega
            clear ho7 hg7)
          refine bodyPost_ret (v := .tuple #[.agg #[.int .i64 yc, .int .i64 yr, .float .f32 ys, .float .f32 yl, .float .f32 yt, .slice a7 (ls ++ [T]).length c7], .bool true]) ?_ rfl (HYS _ _ ⟨yc, yr, ys, yl, yt⟩ (ls ++ [T]) HQ.out ?_ ?_).out
          · simp [results, Tryd.results26, go_sem, r0, r1, r2, r3, r4, r5, hne1, hne2]
          · refine (OwnS.put6 (OwnS.put1 HO7.out (fun k hk => ?_) _) (fun k hk => ?_) _ _ _ _ _ _).low (by omega)
            · have h1 := own_mark m37 HO7.out k hk
              exact h1
            · have h1 := own_mark m27 HO7.out k hk
              exact h1
          · exact below6 (g7.setCell (p := ⟨_, _, none⟩) (by simp; omega) _) (by omega) _ _ _ _ _ _
theorem specTune_any (x : SetC) (v : Value) (ls : List (List UInt8)) (s : ByteArray) (w : World) (hx : x.ok) (h : TRow w v ls) (hs : Short ls) (hsz : s.size ≤ 1048576) :
    Calls Tryd.prog 26 #[x.val v, .string s] w fun e w' => TunePost (x, ls) s.data.toList w e w' := by
  by_cases h1 : splB s.data.toList = false
  · exact specTune_early x v ls s w hx h hs hsz (.inl h1)
  by_cases h2 : setB x ls.length = false
  · exact specTune_early x v ls s w hx h hs hsz (.inr (.inr (.inl h2)))
  by_cases h4 : 100 ≤ ls.length
  · exact specTune_early x v ls s w hx h hs hsz (.inr (.inr (.inr h4)))
  cases h3 : spl s.data.toList with
  | nil => exact specTune_early x v ls s w hx h hs hsz (.inr (.inl h3))
  | cons n vs => exact specTune_late x v ls s w hx h hs hsz n vs (by simpa using h1) h3 (by simpa using h2) (by omega)
end Go.Proofs.YtobpnoiienpipaaDoor
