/-
  What is proved: what the model's commands make of a set.
  Conditions: the fields can be read; they have at most 1048576 bytes each.
-/
import Derived.Test.YtobpnoiienpipaaDoorTunedA
import Derived.Test.YtobpnoiienpipaaDoorCopyV
namespace Go.Proofs.YtobpnoiienpipaaDoor
set_option linter.unusedVariables false
open Go.RowKit
attribute [local go_sem] run_store_float run_store_complex unary_negf neg256

def DonePost (x : SetC) (v : Value) (fs : List (List UInt8)) (w : World) (e : Ending) (w' : World) : Prop :=
  ∃ y b, e = .returned (.tuple #[SetC.val y v, .bool b]) ∧ (b = true → doF x fs = some y) ∧ (b = false → doF x fs = none) ∧ Below w.heap.size w w'
theorem cmdF_no {k : Nat} {x : SetC} {vs : List (List UInt8)} (h1 : vs.length ≠ 1) (h2 : vs.length ≠ 2 ∨ k < 3) (hk : k < 4) : cmdF k x vs = none := by
  have hn : ∀ y, numF vs y = none := fun y => by unfold numF; rw [numR_no h1]; rfl
  unfold cmdF
  split
  · exact hn _
  split
  · exact hn _
  split
  · exact hn _
  rcases h2 with h | h
  · exact sizeF_no h
  · omega
theorem doF_no {x : SetC} {n : List UInt8} {vs : List (List UInt8)} (h1 : vs.length ≠ 1) (h2 : vs.length ≠ 2 ∨ n ≠ [115, 105, 122, 101]) : doF x (n :: vs) = none := by
  show (if keyIx n < 4 then cmdF (keyIx n) x vs else none) = none
  split
  · rename_i hk
    refine cmdF_no h1 (h2.imp id fun h => ?_) hk
    unfold keyIx at hk ⊢
    split
    · decide
    split
    · decide
    split
    · decide
    · simp_all
  · rfl
theorem doF_short {x : SetC} {fs : List (List UInt8)} (h2 : fs.length ≠ 2) (h3 : fs.length ≠ 3) : doF x fs = none := by
  match fs with
  | [] => rfl
  | n :: vs => exact doF_no (by simp at h2; omega) (.inl (by simp at h3; omega))
theorem doF_size {x : SetC} (l m : List UInt8) : doF x [[115, 105, 122, 101], l, m] = if (puB l && puB m) = true then some { x with c := (puV l : Int), r := (puV m : Int) } else none := rfl
theorem doF_other {x : SetC} {n l : List UInt8} (h0 : n ≠ [115, 108, 105, 99, 101]) (h1 : n ≠ [107, 105, 108, 108, 101, 114]) (h2 : n ≠ [115, 97, 116, 117, 114, 97, 116, 105, 111, 110]) : doF x [n, l] = none := by
  show (if keyIx n < 4 then cmdF (keyIx n) x [l] else none) = none
  unfold keyIx
  rw [if_neg h0, if_neg h1, if_neg h2]
  by_cases h3 : n = [115, 105, 122, 101]
  · rw [if_pos h3]; rfl
  · rw [if_neg h3]; rfl
theorem doF_k0 {x : SetC} (l : List UInt8) : doF x [[115, 108, 105, 99, 101], l] = if (fxP l).isSome = true then some (x.s' (sngl l)) else none := rfl
theorem doF_k1 {x : SetC} (l : List UInt8) : doF x [[107, 105, 108, 108, 101, 114], l] = if (fxP l).isSome = true then some (x.l' (sngl l)) else none := rfl
theorem doF_k2 {x : SetC} (l : List UInt8) : doF x [[115, 97, 116, 117, 114, 97, 116, 105, 111, 110], l] = if (fxP l).isSome = true then some (x.t' (sngl l)) else none := rfl
theorem DonePost.no {x : SetC} {v : Value} {fs : List (List UInt8)} {w w' : World} {y : SetC} (h : doF x fs = none) (hb : Below w.heap.size w w') : DonePost x v fs w (.returned (.tuple #[SetC.val y v, .bool false])) w' := ⟨y, false, rfl, (fun h => by cases h), fun _ => h, hb⟩
theorem DonePost.yes {x : SetC} {v : Value} {fs : List (List UInt8)} {w w' : World} {y : SetC} {b : Bool} (h : doF x fs = if b = true then some y else none) (hb : Below w.heap.size w w') : DonePost x v fs w (.returned (.tuple #[SetC.val y v, .bool b])) w' :=
  ⟨y, b, rfl, (fun hh => by rw [h, if_pos hh]), fun hh => by rw [h, if_neg (by rw [hh]; decide)], hb⟩
theorem ne_key {n : List UInt8} (k : List UInt8) (h : n ≠ k) : ((⟨n.toArray⟩ : ByteArray).toList == k) = false := by rw [Go.ByteArray.toList_mk]; simpa using h
set_option maxRecDepth 100000 in
set_option maxHeartbeats 2000000 in
theorem done_short (x : SetC) (a : Option Addr) (n0 c0 : Nat) (u : Value) (fs : List (List UInt8)) (w : World) (h' : TRow w u fs) (hl : fs.length ≤ 3000000) (h2 : fs.length ≠ 2) (h3 : fs.length ≠ 3) :
    Calls Tryd.prog 64 #[x.val (.slice a n0 c0), u] w fun e w' => DonePost x (.slice a n0 c0) fs w e w' := by
  have HD := Lib.hid (doF_short (x := x) h2 h3)
  obtain ⟨k1, k2, hsz, hbl⟩ := alloc2 w (.cells (x.cells (.slice a n0 c0)) 27) (.cells #[.int .i64 0, .int .i64 0, .float .f32 0, .float .f32 0, .float .f32 0, .slice none 0 0] 27)
  have hbw := hbl
  obtain ⟨xc, xr, xs, xl, xt⟩ := x
  obtain ⟨a2, c2, rfl⟩ := h'.lenv
  have i2 : ¬ (fs.length : Int) = 2 := by omega
  have i3 : ¬ (fs.length : Int) = 3 := by omega
  simp only [SetC.val, SetC.cells] at *
  clear h' h2 h3
  go_enter Tryd.func64, Tryd.ntmps64
  obtain ⟨p0, p1, p2, p3, p4, p5⟩ := SetAt.of (x := ⟨xc, xr, xs, xl, xt⟩) (v := .slice a n0 c0) k1
  obtain ⟨r0, r1, r2, r3, r4, r5⟩ := SetAt.of (x := zeroC) (v := .slice none 0 0) k2
  obtain ⟨s0, s1, s2, s3, s4, s5⟩ := froz6 k2
  simp only [zeroC] at r0 r1 r2 r3 r4
  clear k1 k2
  go_wp2
  refine bodyPost_ret (v := .tuple #[.agg #[.int .i64 xc, .int .i64 xr, .float .f32 xs, .float .f32 xl, .float .f32 xt, .slice a n0 c0], .bool false]) ?_ rfl (DonePost.no (y := ⟨xc, xr, xs, xl, xt⟩) HD.out ?_)
  · simp [results, Tryd.results64, go_sem, r0, r1, r2, r3, r4, r5]
  · exact ((Below.refl w.heap.size w).alloc (Nat.le_refl _) _).alloc (by simp) _
set_option maxRecDepth 100000 in
set_option maxHeartbeats 2000000 in
theorem done_three (x : SetC) (a : Option Addr) (n0 c0 : Nat) (u : Value) (n l m : List UInt8) (w : World) (h' : TRow w u [n, l, m]) (hs : Short [n, l, m]) (hk : n ≠ [115, 105, 122, 101]) :
    Calls Tryd.prog 64 #[x.val (.slice a n0 c0), u] w fun e w' => DonePost x (.slice a n0 c0) [n, l, m] w e w' := by
  obtain ⟨hl, hsh⟩ := hs
  have HD := Lib.hid (doF_no (x := x) (n := n) (vs := [l, m]) (by simp) (.inr hk))
  have hq : ((⟨n.toArray⟩ : ByteArray).toList == [115, 105, 122, 101]) = false := ne_key _ hk
  obtain ⟨k1, k2, hsz, hbl⟩ := alloc2 w (.cells (x.cells (.slice a n0 c0)) 27) (.cells #[.int .i64 0, .int .i64 0, .float .f32 0, .float .f32 0, .float .f32 0, .slice none 0 0] 27)
  have hbw := hbl
  obtain ⟨xc, xr, xs, xl, xt⟩ := x
  obtain ⟨a2, c2, rfl, hcell⟩ := h'.any
  obtain ⟨g, o, rfl, hc, hcc0⟩ := hcell 0 (by simp)
  obtain ⟨g', o', e', _, hcc1⟩ := hcell 1 (by simp)
  cases e'
  obtain ⟨g', o', e', _, hcc2⟩ := hcell 2 (by simp)
  cases e'
  have hz1 := hsh l (by simp)
  have hz2 := hsh m (by simp)
  have HP := fun W => Lib.hid (specParseUint_any ⟨l.toArray⟩ W (by simpa [ByteArray.size] using hz1))
  have HP2 := fun W => Lib.hid (specParseUint_any ⟨m.toArray⟩ W (by simpa [ByteArray.size] using hz2))
  unfold UintPostB at HP HP2
  have hg : ¬ g = w.heap.size := by
    intro e
    subst e
    simp [World.cell?] at hcc0
  have hg' : ¬ w.heap.size = g := fun e => hg e.symm
  have hd0 := (below_grown hbl).cell hcc0 (by simp)
  have hd1 := (below_grown hbl).cell hcc1 (by simp)
  have hd2 := (below_grown hbl).cell hcc2 (by simp)
  simp only [SetC.val, SetC.cells, List.length_cons, List.length_nil, List.getElem_cons_zero, List.getElem_cons_succ, strV, Nat.add_zero, Nat.zero_add, Nat.reduceAdd] at *
  generalize puB l = b1 at *
  generalize puB m = b2 at *
  generalize puV l = n1 at *
  generalize puV m = n2 at *
  generalize (⟨n.toArray⟩ : ByteArray) = s0 at *
  generalize (⟨l.toArray⟩ : ByteArray) = s1 at *
  generalize (⟨m.toArray⟩ : ByteArray) = s2 at *
  clear h' hcell hz1 hz2 hsh hl hk
  go_enter Tryd.func64, Tryd.ntmps64
  obtain ⟨p0, p1, p2, p3, p4, p5⟩ := SetAt.of (x := ⟨xc, xr, xs, xl, xt⟩) (v := .slice a n0 c0) k1
  obtain ⟨r0, r1, r2, r3, r4, r5⟩ := SetAt.of (x := zeroC) (v := .slice none 0 0) k2
  obtain ⟨s0, s1, s2, s3, s4, s5⟩ := froz6 k2
  simp only [zeroC] at r0 r1 r2 r3 r4
  clear k1 k2
  go_wp2
  refine bodyPost_ret (v := .tuple #[.agg #[.int .i64 xc, .int .i64 xr, .float .f32 xs, .float .f32 xl, .float .f32 xt, .slice a n0 c0], .bool false]) ?_ rfl (DonePost.no (y := ⟨xc, xr, xs, xl, xt⟩) HD.out ?_)
  · simp [results, Tryd.results64, go_sem, r0, r1, r2, r3, r4, r5]
  · exact ((Below.refl w.heap.size w).alloc (Nat.le_refl _) _).alloc (by simp) _
set_option maxRecDepth 100000 in
set_option maxHeartbeats 2000000 in
theorem done_size (x : SetC) (a : Option Addr) (n0 c0 : Nat) (u : Value) (n l m : List UInt8) (w : World) (h' : TRow w u [n, l, m]) (hs : Short [n, l, m]) (hk : n = [115, 105, 122, 101]) :
    Calls Tryd.prog 64 #[x.val (.slice a n0 c0), u] w fun e w' => DonePost x (.slice a n0 c0) [n, l, m] w e w' := by
  obtain ⟨hl, hsh⟩ := hs
  have HD := Lib.hid (show doF x [n, l, m] = _ from hk ▸ doF_size (x := x) l m)
  have hq : ((⟨n.toArray⟩ : ByteArray).toList == [115, 105, 122, 101]) = true := by rw [Go.ByteArray.toList_mk]; subst hk; rfl
  obtain ⟨k1, k2, hsz, hbl⟩ := alloc2 w (.cells (x.cells (.slice a n0 c0)) 27) (.cells #[.int .i64 0, .int .i64 0, .float .f32 0, .float .f32 0, .float .f32 0, .slice none 0 0] 27)
  have hbw := hbl
  obtain ⟨xc, xr, xs, xl, xt⟩ := x
  obtain ⟨a2, c2, rfl, hcell⟩ := h'.any
  obtain ⟨g, o, rfl, hc, hcc0⟩ := hcell 0 (by simp)
  obtain ⟨g', o', e', _, hcc1⟩ := hcell 1 (by simp)
  cases e'
  obtain ⟨g', o', e', _, hcc2⟩ := hcell 2 (by simp)
  cases e'
  have hz1 := hsh l (by simp)
  have hz2 := hsh m (by simp)
  have HP := fun W => Lib.hid (specParseUint_any ⟨l.toArray⟩ W (by simpa [ByteArray.size] using hz1))
  have HP2 := fun W => Lib.hid (specParseUint_any ⟨m.toArray⟩ W (by simpa [ByteArray.size] using hz2))
  unfold UintPostB at HP HP2
  have hg : ¬ g = w.heap.size := by
    intro e
    subst e
    simp [World.cell?] at hcc0
  have hg' : ¬ w.heap.size = g := fun e => hg e.symm
  have hd0 := (below_grown hbl).cell hcc0 (by simp)
  have hd1 := (below_grown hbl).cell hcc1 (by simp)
  have hd2 := (below_grown hbl).cell hcc2 (by simp)
  simp only [SetC.val, SetC.cells, List.length_cons, List.length_nil, List.getElem_cons_zero, List.getElem_cons_succ, strV, Nat.add_zero, Nat.zero_add, Nat.reduceAdd] at *
  generalize puB l = b1 at *
  generalize puB m = b2 at *
  generalize puV l = n1 at *
  generalize puV m = n2 at *
  generalize (⟨n.toArray⟩ : ByteArray) = s0 at *
  generalize (⟨l.toArray⟩ : ByteArray) = s1 at *
  generalize (⟨m.toArray⟩ : ByteArray) = s2 at *
  clear h' hcell hz1 hz2 hsh hl hk
  go_enter Tryd.func64, Tryd.ntmps64
  go_wp2_with fail
  generalize World.alloc (World.alloc w _) _ = X at *
  refine (HP X).out.mono ?_
  rintro e w1 ⟨rfl, hb1⟩
  replace hd2 := (below_grown (hb1.mono (Nat.le_refl _))).cell hd2 (by simp)
  replace k1 := (hb1.block _ (by omega)).trans k1
  replace k2 := (hb1.block _ (by omega)).trans k2
  have g1 := below_trans hbl hb1 hbl.size
  have hz1 := hb1.size
  clear hd0 hd1 hcc0 hcc1 hcc2
  go_wp2_with fail
  refine (HP2 _).out.mono ?_
  rintro e w2 ⟨rfl, hb2⟩
  replace k1 := (hb2.block _ (by omega)).trans k1
  replace k2 := (hb2.block _ (by omega)).trans k2
  have g2 := below_trans g1 hb2 g1.size
  obtain ⟨p0, p1, p2, p3, p4, p5⟩ := SetAt.of (x := ⟨xc, xr, xs, xl, xt⟩) (v := .slice a n0 c0) k1
  obtain ⟨t0, t1, t2, t3, t4, t5⟩ := froz6 k1
  obtain ⟨r0, r1, r2, r3, r4, r5⟩ := SetAt.of (x := zeroC) (v := .slice none 0 0) k2
  obtain ⟨s0, s1, s2, s3, s4, s5⟩ := froz6 k2
  simp only [zeroC] at r0 r1 r2 r3 r4
  clear k1 k2 hd2 hb1 hb2 g1
  have HN := Lib.hid (show (b1 && b2) = false → doF ⟨xc, xr, xs, xl, xt⟩ _ = none from fun h => by rw [HD.out, h]; rfl)
  cases b1
  · go_wp2
    refine bodyPost_ret (v := .tuple #[.agg #[.int .i64 (n1 : Int), .int .i64 (n2 : Int), .float .f32 xs, .float .f32 xl, .float .f32 xt, .slice a n0 c0], .bool false]) ?_ rfl (DonePost.no (y := ⟨(n1 : Int), (n2 : Int), xs, xl, xt⟩) (HN.out rfl) ?_)
    · simp [results, Tryd.results64, go_sem, r0, r1, r2, r3, r4, r5]
    · exact ((((((((g2.setCell (p := ⟨_, _, none⟩) (by simp) _).setCell (p := ⟨_, _, none⟩) (by simp) _).setCell (p := ⟨_, _, none⟩) (by simp) _).setCell (p := ⟨_, _, none⟩) (by simp) _).setCell (p := ⟨_, _, none⟩) (by simp) _).setCell (p := ⟨_, _, none⟩) (by simp) _).setCell (p := ⟨_, _, none⟩) (by simp) _).setCell (p := ⟨_, _, none⟩) (by simp) _)
  · go_wp2
    refine bodyPost_ret (v := .tuple #[.agg #[.int .i64 (n1 : Int), .int .i64 (n2 : Int), .float .f32 xs, .float .f32 xl, .float .f32 xt, .slice a n0 c0], .bool b2]) ?_ rfl (DonePost.yes (y := ⟨(n1 : Int), (n2 : Int), xs, xl, xt⟩) (HD.out.trans rfl) ?_)
    · simp [results, Tryd.results64, go_sem, r0, r1, r2, r3, r4, r5]
    · exact ((((((((g2.setCell (p := ⟨_, _, none⟩) (by simp) _).setCell (p := ⟨_, _, none⟩) (by simp) _).setCell (p := ⟨_, _, none⟩) (by simp) _).setCell (p := ⟨_, _, none⟩) (by simp) _).setCell (p := ⟨_, _, none⟩) (by simp) _).setCell (p := ⟨_, _, none⟩) (by simp) _).setCell (p := ⟨_, _, none⟩) (by simp) _).setCell (p := ⟨_, _, none⟩) (by simp) _)
set_option maxRecDepth 100000 in
set_option maxHeartbeats 2000000 in
theorem done_k0 (x : SetC) (a : Option Addr) (n0 c0 : Nat) (u : Value) (n l : List UInt8) (w : World) (h' : TRow w u [n, l]) (hs : Short [n, l]) (hk : n = [115, 108, 105, 99, 101]) :
    Calls Tryd.prog 64 #[x.val (.slice a n0 c0), u] w fun e w' => DonePost x (.slice a n0 c0) [n, l] w e w' := by
  obtain ⟨hl, hsh⟩ := hs
  have HD := Lib.hid (show doF x [n, l] = _ from hk ▸ doF_k0 (x := x) l)
  have hq0 : ((⟨n.toArray⟩ : ByteArray).toList == [115, 108, 105, 99, 101]) = true := by rw [Go.ByteArray.toList_mk]; subst hk; rfl
  obtain ⟨k1, k2, hsz, hbl⟩ := alloc2 w (.cells (x.cells (.slice a n0 c0)) 27) (.cells #[.int .i64 0, .int .i64 0, .float .f32 0, .float .f32 0, .float .f32 0, .slice none 0 0] 27)
  obtain ⟨xc, xr, xs, xl, xt⟩ := x
  obtain ⟨a2, c2, rfl, hcell⟩ := h'.any
  obtain ⟨g, o, rfl, hc, hcc0⟩ := hcell 0 (by simp)
  obtain ⟨g', o', e', _, hcc1⟩ := hcell 1 (by simp)
  cases e'
  have hz1 := hsh l (by simp)
  have hr := fxP_range l
  have HP := fun W => Lib.hid (specParseFixed_any ⟨l.toArray⟩ W (by simpa [ByteArray.size] using hz1))
  have HF := fun W => Lib.hid (specFromFixed_any ((fxP l).getD 0) W hr.1 hr.2)
  have hcv := fun W => conv_nar ((fxP l).getD 0) W
  unfold FixPost at HP
  unfold FromPost at HF
  have hg : ¬ g = w.heap.size := by
    intro e
    subst e
    simp [World.cell?] at hcc0
  have hg' : ¬ w.heap.size = g := fun e => hg e.symm
  have hd0 := (below_grown hbl).cell hcc0 (by simp)
  have hd1 := (below_grown hbl).cell hcc1 (by simp)
  simp only [SetC.val, SetC.cells, SetC.s', SetC.l', SetC.t', sngl, List.length_cons, List.length_nil, List.getElem_cons_zero, List.getElem_cons_succ, strV, Nat.add_zero, Nat.zero_add, Nat.reduceAdd] at *
  generalize (fxP l).getD 0 = z at *
  generalize (fxP l).isSome = b at *
  generalize nar (ffBits z) = y at *
  generalize ffBits z = y2 at *
  generalize (⟨n.toArray⟩ : ByteArray) = s0 at *
  generalize (⟨l.toArray⟩ : ByteArray) = s1 at *
  clear h' hcell hz1 hsh hl hr hk
  go_enter Tryd.func64, Tryd.ntmps64
  go_wp2_with fail
  generalize World.alloc (World.alloc w _) _ = X at *
  refine (HP X).out.mono ?_
  rintro e w1 ⟨rfl, hb1⟩
  replace hd0 := (below_grown (hb1.mono (Nat.le_refl _))).cell hd0 (by simp)
  replace k1 := (hb1.block _ (by omega)).trans k1
  replace k2 := (hb1.block _ (by omega)).trans k2
  have g1 := below_trans hbl hb1 hbl.size
  clear hd1 hcc0 hcc1 hb1
  go_wp2_with fail
  refine (HF _).out.mono ?_
  rintro e w2 ⟨rfl, rfl⟩
  obtain ⟨p0, p1, p2, p3, p4, p5⟩ := SetAt.of (x := ⟨xc, xr, xs, xl, xt⟩) (v := .slice a n0 c0) k1
  obtain ⟨t0, t1, t2, t3, t4, t5⟩ := froz6 k1
  obtain ⟨r0, r1, r2, r3, r4, r5⟩ := SetAt.of (x := zeroC) (v := .slice none 0 0) k2
  obtain ⟨f0, f1, f2, f3, f4, f5⟩ := froz6 k2
  simp only [zeroC] at r0 r1 r2 r3 r4
  clear k1 k2
  go_wp2
  refine bodyPost_ret (v := .tuple #[.agg #[.int .i64 xc, .int .i64 xr, .float .f32 y, .float .f32 xl, .float .f32 xt, .slice a n0 c0], .bool b]) ?_ rfl (DonePost.yes (y := ⟨xc, xr, y, xl, xt⟩) HD.out ?_)
  · simp [results, Tryd.results64, go_sem, r0, r1, r2, r3, r4, r5]
  · exact (((((((g1.setCell (p := ⟨_, _, none⟩) (by simp) _).setCell (p := ⟨_, _, none⟩) (by simp) _).setCell (p := ⟨_, _, none⟩) (by simp) _).setCell (p := ⟨_, _, none⟩) (by simp) _).setCell (p := ⟨_, _, none⟩) (by simp) _).setCell (p := ⟨_, _, none⟩) (by simp) _).setCell (p := ⟨_, _, none⟩) (by simp) _)
set_option maxRecDepth 100000 in
set_option maxHeartbeats 2000000 in
theorem done_k1 (x : SetC) (a : Option Addr) (n0 c0 : Nat) (u : Value) (n l : List UInt8) (w : World) (h' : TRow w u [n, l]) (hs : Short [n, l]) (hk : n = [107, 105, 108, 108, 101, 114]) :
    Calls Tryd.prog 64 #[x.val (.slice a n0 c0), u] w fun e w' => DonePost x (.slice a n0 c0) [n, l] w e w' := by
  obtain ⟨hl, hsh⟩ := hs
  have HD := Lib.hid (show doF x [n, l] = _ from hk ▸ doF_k1 (x := x) l)
  have hq0 : ((⟨n.toArray⟩ : ByteArray).toList == [115, 108, 105, 99, 101]) = false := by rw [Go.ByteArray.toList_mk]; subst hk; rfl
  have hq1 : ((⟨n.toArray⟩ : ByteArray).toList == [107, 105, 108, 108, 101, 114]) = true := by rw [Go.ByteArray.toList_mk]; subst hk; rfl
  obtain ⟨k1, k2, hsz, hbl⟩ := alloc2 w (.cells (x.cells (.slice a n0 c0)) 27) (.cells #[.int .i64 0, .int .i64 0, .float .f32 0, .float .f32 0, .float .f32 0, .slice none 0 0] 27)
  obtain ⟨xc, xr, xs, xl, xt⟩ := x
  obtain ⟨a2, c2, rfl, hcell⟩ := h'.any
  obtain ⟨g, o, rfl, hc, hcc0⟩ := hcell 0 (by simp)
  obtain ⟨g', o', e', _, hcc1⟩ := hcell 1 (by simp)
  cases e'
  have hz1 := hsh l (by simp)
  have hr := fxP_range l
  have HP := fun W => Lib.hid (specParseFixed_any ⟨l.toArray⟩ W (by simpa [ByteArray.size] using hz1))
  have HF := fun W => Lib.hid (specFromFixed_any ((fxP l).getD 0) W hr.1 hr.2)
  have hcv := fun W => conv_nar ((fxP l).getD 0) W
  unfold FixPost at HP
  unfold FromPost at HF
  have hg : ¬ g = w.heap.size := by
    intro e
    subst e
    simp [World.cell?] at hcc0
  have hg' : ¬ w.heap.size = g := fun e => hg e.symm
  have hd0 := (below_grown hbl).cell hcc0 (by simp)
  have hd1 := (below_grown hbl).cell hcc1 (by simp)
  simp only [SetC.val, SetC.cells, SetC.s', SetC.l', SetC.t', sngl, List.length_cons, List.length_nil, List.getElem_cons_zero, List.getElem_cons_succ, strV, Nat.add_zero, Nat.zero_add, Nat.reduceAdd] at *
  generalize (fxP l).getD 0 = z at *
  generalize (fxP l).isSome = b at *
  generalize nar (ffBits z) = y at *
  generalize ffBits z = y2 at *
  generalize (⟨n.toArray⟩ : ByteArray) = s0 at *
  generalize (⟨l.toArray⟩ : ByteArray) = s1 at *
  clear h' hcell hz1 hsh hl hr hk
  go_enter Tryd.func64, Tryd.ntmps64
  go_wp2_with fail
  generalize World.alloc (World.alloc w _) _ = X at *
  refine (HP X).out.mono ?_
  rintro e w1 ⟨rfl, hb1⟩
  replace hd0 := (below_grown (hb1.mono (Nat.le_refl _))).cell hd0 (by simp)
  replace k1 := (hb1.block _ (by omega)).trans k1
  replace k2 := (hb1.block _ (by omega)).trans k2
  have g1 := below_trans hbl hb1 hbl.size
  clear hd1 hcc0 hcc1 hb1
  go_wp2_with fail
  refine (HF _).out.mono ?_
  rintro e w2 ⟨rfl, rfl⟩
  obtain ⟨p0, p1, p2, p3, p4, p5⟩ := SetAt.of (x := ⟨xc, xr, xs, xl, xt⟩) (v := .slice a n0 c0) k1
  obtain ⟨t0, t1, t2, t3, t4, t5⟩ := froz6 k1
  obtain ⟨r0, r1, r2, r3, r4, r5⟩ := SetAt.of (x := zeroC) (v := .slice none 0 0) k2
  obtain ⟨f0, f1, f2, f3, f4, f5⟩ := froz6 k2
  simp only [zeroC] at r0 r1 r2 r3 r4
  clear k1 k2
  go_wp2
  refine bodyPost_ret (v := .tuple #[.agg #[.int .i64 xc, .int .i64 xr, .float .f32 xs, .float .f32 y, .float .f32 xt, .slice a n0 c0], .bool b]) ?_ rfl (DonePost.yes (y := ⟨xc, xr, xs, y, xt⟩) HD.out ?_)
  · simp [results, Tryd.results64, go_sem, r0, r1, r2, r3, r4, r5]
  · exact (((((((g1.setCell (p := ⟨_, _, none⟩) (by simp) _).setCell (p := ⟨_, _, none⟩) (by simp) _).setCell (p := ⟨_, _, none⟩) (by simp) _).setCell (p := ⟨_, _, none⟩) (by simp) _).setCell (p := ⟨_, _, none⟩) (by simp) _).setCell (p := ⟨_, _, none⟩) (by simp) _).setCell (p := ⟨_, _, none⟩) (by simp) _)
set_option maxRecDepth 100000 in
set_option maxHeartbeats 2000000 in
theorem done_k2 (x : SetC) (a : Option Addr) (n0 c0 : Nat) (u : Value) (n l : List UInt8) (w : World) (h' : TRow w u [n, l]) (hs : Short [n, l]) (hk : n = [115, 97, 116, 117, 114, 97, 116, 105, 111, 110]) :
    Calls Tryd.prog 64 #[x.val (.slice a n0 c0), u] w fun e w' => DonePost x (.slice a n0 c0) [n, l] w e w' := by
  obtain ⟨hl, hsh⟩ := hs
  have HD := Lib.hid (show doF x [n, l] = _ from hk ▸ doF_k2 (x := x) l)
  have hq0 : ((⟨n.toArray⟩ : ByteArray).toList == [115, 108, 105, 99, 101]) = false := by rw [Go.ByteArray.toList_mk]; subst hk; rfl
  have hq1 : ((⟨n.toArray⟩ : ByteArray).toList == [107, 105, 108, 108, 101, 114]) = false := by rw [Go.ByteArray.toList_mk]; subst hk; rfl
  have hq2 : ((⟨n.toArray⟩ : ByteArray).toList == [115, 97, 116, 117, 114, 97, 116, 105, 111, 110]) = true := by rw [Go.ByteArray.toList_mk]; subst hk; rfl
  obtain ⟨k1, k2, hsz, hbl⟩ := alloc2 w (.cells (x.cells (.slice a n0 c0)) 27) (.cells #[.int .i64 0, .int .i64 0, .float .f32 0, .float .f32 0, .float .f32 0, .slice none 0 0] 27)
  obtain ⟨xc, xr, xs, xl, xt⟩ := x
  obtain ⟨a2, c2, rfl, hcell⟩ := h'.any
  obtain ⟨g, o, rfl, hc, hcc0⟩ := hcell 0 (by simp)
  obtain ⟨g', o', e', _, hcc1⟩ := hcell 1 (by simp)
  cases e'
  have hz1 := hsh l (by simp)
  have hr := fxP_range l
  have HP := fun W => Lib.hid (specParseFixed_any ⟨l.toArray⟩ W (by simpa [ByteArray.size] using hz1))
  have HF := fun W => Lib.hid (specFromFixed_any ((fxP l).getD 0) W hr.1 hr.2)
  have hcv := fun W => conv_nar ((fxP l).getD 0) W
  unfold FixPost at HP
  unfold FromPost at HF
  have hg : ¬ g = w.heap.size := by
    intro e
    subst e
    simp [World.cell?] at hcc0
  have hg' : ¬ w.heap.size = g := fun e => hg e.symm
  have hd0 := (below_grown hbl).cell hcc0 (by simp)
  have hd1 := (below_grown hbl).cell hcc1 (by simp)
  simp only [SetC.val, SetC.cells, SetC.s', SetC.l', SetC.t', sngl, List.length_cons, List.length_nil, List.getElem_cons_zero, List.getElem_cons_succ, strV, Nat.add_zero, Nat.zero_add, Nat.reduceAdd] at *
  generalize (fxP l).getD 0 = z at *
  generalize (fxP l).isSome = b at *
  generalize nar (ffBits z) = y at *
  generalize ffBits z = y2 at *
  generalize (⟨n.toArray⟩ : ByteArray) = s0 at *
  generalize (⟨l.toArray⟩ : ByteArray) = s1 at *
  clear h' hcell hz1 hsh hl hr hk
  go_enter Tryd.func64, Tryd.ntmps64
  go_wp2_with fail
  generalize World.alloc (World.alloc w _) _ = X at *
  refine (HP X).out.mono ?_
  rintro e w1 ⟨rfl, hb1⟩
  replace hd0 := (below_grown (hb1.mono (Nat.le_refl _))).cell hd0 (by simp)
  replace k1 := (hb1.block _ (by omega)).trans k1
  replace k2 := (hb1.block _ (by omega)).trans k2
  have g1 := below_trans hbl hb1 hbl.size
  clear hd1 hcc0 hcc1 hb1
  go_wp2_with fail
  refine (HF _).out.mono ?_
  rintro e w2 ⟨rfl, rfl⟩
  obtain ⟨p0, p1, p2, p3, p4, p5⟩ := SetAt.of (x := ⟨xc, xr, xs, xl, xt⟩) (v := .slice a n0 c0) k1
  obtain ⟨t0, t1, t2, t3, t4, t5⟩ := froz6 k1
  obtain ⟨r0, r1, r2, r3, r4, r5⟩ := SetAt.of (x := zeroC) (v := .slice none 0 0) k2
  obtain ⟨f0, f1, f2, f3, f4, f5⟩ := froz6 k2
  simp only [zeroC] at r0 r1 r2 r3 r4
  clear k1 k2
  go_wp2
  refine bodyPost_ret (v := .tuple #[.agg #[.int .i64 xc, .int .i64 xr, .float .f32 xs, .float .f32 xl, .float .f32 y, .slice a n0 c0], .bool b]) ?_ rfl (DonePost.yes (y := ⟨xc, xr, xs, xl, y⟩) HD.out ?_)
  · simp [results, Tryd.results64, go_sem, r0, r1, r2, r3, r4, r5]
  · exact (((((((g1.setCell (p := ⟨_, _, none⟩) (by simp) _).setCell (p := ⟨_, _, none⟩) (by simp) _).setCell (p := ⟨_, _, none⟩) (by simp) _).setCell (p := ⟨_, _, none⟩) (by simp) _).setCell (p := ⟨_, _, none⟩) (by simp) _).setCell (p := ⟨_, _, none⟩) (by simp) _).setCell (p := ⟨_, _, none⟩) (by simp) _)
set_option maxRecDepth 100000 in
set_option maxHeartbeats 2000000 in
theorem done_other (x : SetC) (a : Option Addr) (n0 c0 : Nat) (u : Value) (n l : List UInt8) (w : World) (h' : TRow w u [n, l]) (hs : Short [n, l]) (h0 : n ≠ [115, 108, 105, 99, 101]) (h1 : n ≠ [107, 105, 108, 108, 101, 114]) (h2 : n ≠ [115, 97, 116, 117, 114, 97, 116, 105, 111, 110]) :
    Calls Tryd.prog 64 #[x.val (.slice a n0 c0), u] w fun e w' => DonePost x (.slice a n0 c0) [n, l] w e w' := by
  obtain ⟨hl, hsh⟩ := hs
  have HD := Lib.hid (show doF x [n, l] = _ from doF_other h0 h1 h2)
  have hq0 : ((⟨n.toArray⟩ : ByteArray).toList == [115, 108, 105, 99, 101]) = false := ne_key _ h0
  have hq1 : ((⟨n.toArray⟩ : ByteArray).toList == [107, 105, 108, 108, 101, 114]) = false := ne_key _ h1
  have hq2 : ((⟨n.toArray⟩ : ByteArray).toList == [115, 97, 116, 117, 114, 97, 116, 105, 111, 110]) = false := ne_key _ h2
  obtain ⟨k1, k2, hsz, hbl⟩ := alloc2 w (.cells (x.cells (.slice a n0 c0)) 27) (.cells #[.int .i64 0, .int .i64 0, .float .f32 0, .float .f32 0, .float .f32 0, .slice none 0 0] 27)
  obtain ⟨xc, xr, xs, xl, xt⟩ := x
  obtain ⟨a2, c2, rfl, hcell⟩ := h'.any
  obtain ⟨g, o, rfl, hc, hcc0⟩ := hcell 0 (by simp)
  obtain ⟨g', o', e', _, hcc1⟩ := hcell 1 (by simp)
  cases e'
  have hz1 := hsh l (by simp)
  have hr := fxP_range l
  have HP := fun W => Lib.hid (specParseFixed_any ⟨l.toArray⟩ W (by simpa [ByteArray.size] using hz1))
  have HF := fun W => Lib.hid (specFromFixed_any ((fxP l).getD 0) W hr.1 hr.2)
  have hcv := fun W => conv_nar ((fxP l).getD 0) W
  unfold FixPost at HP
  unfold FromPost at HF
  have hg : ¬ g = w.heap.size := by
    intro e
    subst e
    simp [World.cell?] at hcc0
  have hg' : ¬ w.heap.size = g := fun e => hg e.symm
  have hd0 := (below_grown hbl).cell hcc0 (by simp)
  have hd1 := (below_grown hbl).cell hcc1 (by simp)
  simp only [SetC.val, SetC.cells, SetC.s', SetC.l', SetC.t', sngl, List.length_cons, List.length_nil, List.getElem_cons_zero, List.getElem_cons_succ, strV, Nat.add_zero, Nat.zero_add, Nat.reduceAdd] at *
  generalize (fxP l).getD 0 = z at *
  generalize (fxP l).isSome = b at *
  generalize nar (ffBits z) = y at *
  generalize ffBits z = y2 at *
  generalize (⟨n.toArray⟩ : ByteArray) = s0 at *
  generalize (⟨l.toArray⟩ : ByteArray) = s1 at *
  clear h' hcell hz1 hsh hl hr h0 h1 h2
  go_enter Tryd.func64, Tryd.ntmps64
  go_wp2_with fail
  generalize World.alloc (World.alloc w _) _ = X at *
  refine (HP X).out.mono ?_
  rintro e w1 ⟨rfl, hb1⟩
  replace hd0 := (below_grown (hb1.mono (Nat.le_refl _))).cell hd0 (by simp)
  replace k1 := (hb1.block _ (by omega)).trans k1
  replace k2 := (hb1.block _ (by omega)).trans k2
  have g1 := below_trans hbl hb1 hbl.size
  clear hd1 hcc0 hcc1 hb1
  go_wp2_with fail
  refine (HF _).out.mono ?_
  rintro e w2 ⟨rfl, rfl⟩
  obtain ⟨p0, p1, p2, p3, p4, p5⟩ := SetAt.of (x := ⟨xc, xr, xs, xl, xt⟩) (v := .slice a n0 c0) k1
  obtain ⟨t0, t1, t2, t3, t4, t5⟩ := froz6 k1
  obtain ⟨r0, r1, r2, r3, r4, r5⟩ := SetAt.of (x := zeroC) (v := .slice none 0 0) k2
  obtain ⟨f0, f1, f2, f3, f4, f5⟩ := froz6 k2
  simp only [zeroC] at r0 r1 r2 r3 r4
  clear k1 k2
  go_wp2
  refine bodyPost_ret (v := .tuple #[.agg #[.int .i64 xc, .int .i64 xr, .float .f32 xs, .float .f32 xl, .float .f32 xt, .slice a n0 c0], .bool false]) ?_ rfl (DonePost.no (y := ⟨xc, xr, xs, xl, xt⟩) HD.out ?_)
  · simp [results, Tryd.results64, go_sem, r0, r1, r2, r3, r4, r5]
  · exact ((((((g1.setCell (p := ⟨_, _, none⟩) (by simp) _).setCell (p := ⟨_, _, none⟩) (by simp) _).setCell (p := ⟨_, _, none⟩) (by simp) _).setCell (p := ⟨_, _, none⟩) (by simp) _).setCell (p := ⟨_, _, none⟩) (by simp) _).setCell (p := ⟨_, _, none⟩) (by simp) _)
theorem done_any (x : SetC) (v u : Value) (ls fs : List (List UInt8)) (w : World) (h : TRow w v ls) (h' : TRow w u fs) (hs : Short fs) :
    Calls Tryd.prog 64 #[x.val v, u] w fun e w' => DonePost x v fs w e w' := by
  obtain ⟨a, c, rfl⟩ := h.lenv
  by_cases h2 : fs.length = 2
  · obtain ⟨n, l, rfl⟩ : ∃ n l, fs = [n, l] := by
      match fs, h2 with
      | [n, l], _ => exact ⟨n, l, rfl⟩
    by_cases e0 : n = [115, 108, 105, 99, 101]
    · exact done_k0 x a _ c u n l w h' hs e0
    by_cases e1 : n = [107, 105, 108, 108, 101, 114]
    · exact done_k1 x a _ c u n l w h' hs e1
    by_cases e2 : n = [115, 97, 116, 117, 114, 97, 116, 105, 111, 110]
    · exact done_k2 x a _ c u n l w h' hs e2
    exact done_other x a _ c u n l w h' hs e0 e1 e2
  by_cases h3 : fs.length = 3
  · obtain ⟨n, l, m, rfl⟩ : ∃ n l m, fs = [n, l, m] := by
      match fs, h3 with
      | [n, l, m], _ => exact ⟨n, l, m, rfl⟩
    by_cases e0 : n = [115, 105, 122, 101]
    · exact done_size x a _ c u n l m w h' hs e0
    exact done_three x a _ c u n l m w h' hs e0
  exact done_short x a _ c u fs w h' hs.1 h2 h3
end Go.Proofs.YtobpnoiienpipaaDoor
