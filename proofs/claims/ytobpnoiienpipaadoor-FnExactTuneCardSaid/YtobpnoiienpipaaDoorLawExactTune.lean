/-
  What is proved: the walk of the law FnExactTune.
  Conditions: the library's table of spaces holds what its initialiser lays.
-/
import Derived.Test.YtobpnoiienpipaaDoorTuneS
import Derived.Test.YtobpnoiienpipaaDoorSOpen
import Derived.Deep.RegionHeld3
namespace Go.Proofs.YtobpnoiienpipaaDoor
set_option linter.unusedVariables false
open Go.RowKit
attribute [local go_sem] run_store_float run_store_complex unary_negf neg256

theorem szT_small {ls : List (List UInt8)} {left : Nat} (h : ¬ szT ls left < 0) : totT ls ≤ left := by
  unfold szT at h
  split at h
  · assumption
  · exact absurd (by decide) h
theorem totT_len (ls : List (List UInt8)) : ls.length ≤ totT ls := by unfold totT; omega
theorem totT_mem {ls : List (List UInt8)} {l : List UInt8} (h : l ∈ ls) : l.length ≤ totT ls := by
  have h1 : ∀ (L : List (List UInt8)), l ∈ L → l.length ≤ (L.map List.length).sum := by
    intro L
    induction L with
    | nil => intro h; cases h
    | cons x r ih =>
      intro h
      rw [List.map_cons, List.sum_cons]
      rcases List.mem_cons.1 h with rfl | h
      · omega
      · have := ih h; omega
  have := h1 ls h
  unfold totT
  omega
theorem short_of {ls : List (List UInt8)} {left : Nat} (h : totT ls ≤ left) (hl : left ≤ 1048576) : Short ls := ⟨by have := totT_len ls; omega, fun l hm => by have := totT_mem hm; omega⟩
theorem own_ne {v v' : Value} {a b c d : Nat} (h : ∀ r, v.ownBlock = some r → a ≤ r ∧ r < b) (h' : ∀ r, v'.ownBlock = some r → c ≤ r ∧ r < d) (hd : b ≤ c ∨ d ≤ a) : v.ownBlock = none ∨ v.ownBlock ≠ v'.ownBlock := by
  cases hv : v.ownBlock with
  | none => exact .inl rfl
  | some r =>
    refine .inr fun e => ?_
    have h1 := h r hv
    have h2 := h' r e.symm
    omega

set_option maxRecDepth 100000 in
set_option maxHeartbeats 4000000 in
theorem walk_FnExactTune (x : SetC) (a : Option Addr) (len cap : Nat) (ls : List (List UInt8)) (s : ByteArray) (w : World) (hx : x.ok) (ht : TRow w (.slice a len cap) ls) (hm : ∀ l ∈ ls, l.length ≤ maxLen) (hl : ls.length = len) (hc : len ≤ maxLen) (ws : s.size ≤ maxLen) (htab : TabS w) :
    Calls Tryd.prog 6 #[x.val (.slice a len cap), .string s] w fun e w' => e = .returned (.bool true) ∧ Below w.heap.size w w' := by
  have hb0 : Below w.heap.size w (w.alloc (.cells (x.cells (.slice a len cap)) 47)) := (Below.refl _ _).alloc (Nat.le_refl _) _
  have K0 := heap_alloc_new w (.cells (x.cells (.slice a len cap)) 47)
  have hz0 : (w.alloc (.cells (x.cells (.slice a len cap)) 47)).heap.size = w.heap.size + 1 := by simp
  unfold maxLen at ws
  by_cases hbig : 1048576 < s.size
  · simp only [SetC.val, SetC.cells] at *
    go_enter Tryd.func6, Tryd.ntmps6
    go_wp2
    go_ret
    exact ⟨rfl, hb0⟩
  have HZ := Lib.hid (szSet_any x (.slice a len cap) ls 1048576 _ (ht.below hb0) hm (by omega) (by omega))
  rw [show ((1048576 : Nat) : Int) = 1048576 from rfl] at HZ
  by_cases hneg : szT ls 1048576 < 0
  · generalize szT ls 1048576 = z at *
    obtain ⟨xc, xr, xs, xl, xt⟩ := x
    simp only [SetC.val, SetC.cells] at *
    clear ht hm hx hl hc htab
    obtain ⟨q0, q1, q2, q3, q4, q5⟩ := SetAt.of (x := ⟨xc, xr, xs, xl, xt⟩) (v := .slice a len cap) K0
    go_enter Tryd.func6, Tryd.ntmps6
    go_wp2_with fail
    generalize World.alloc w _ = W0 at *
    refine HZ.out.mono ?_
    rintro e w1 ⟨rfl, hb1⟩
    go_wp2
    go_ret
    exact ⟨rfl, below_trans hb0 hb1 hb0.size⟩
  · have hsh : Short ls := short_of (szT_small hneg) (Nat.le_refl _)
    have hlen := hsh.1
    have hfine := tuneR_fine (q := (x, ls)) (line := s.data.toList) ⟨hx, hsh⟩
    generalize szT ls 1048576 = z at *
    have HT := fun W (hW : Below w.heap.size w W) => Lib.hid (toSet_any x (.slice a len cap) ls W (ht.below hW) hlen)
    have HS := fun v W h => Lib.hid (specTune_any x v ls s W hx h hsh (by omega))
    have HI := fun v W h (hbW : Below w.heap.size w W) => Lib.hid (tune_any x v ls s W hx h hsh (by omega) (htab.below hbW))
    unfold TunePost at HS HI
    generalize tuneR (x, ls) s.data.toList = R at *
    obtain ⟨⟨y, out⟩, b⟩ := R
    have hout := hfine.log.1
    have HX := fun v v' b b' W h h' => Lib.hid (eqSet_any x x v v' ls b b' W (SetC.Same.refl x) h h' hlen)
    have HE := fun v v' b b' W h h' => Lib.hid (eqSet_any y y v v' out b b' W (SetC.Same.refl y) h h' hout)
    have HMX := fun base v W h => Lib.hid (markSet_any x 1 base v ls W h (by decide) (by decide) hlen)
    have HMY := fun base v W h => Lib.hid (markSet_any y 1 base v out W h (by decide) (by decide) hout)
    have HHY := fun base v W h => Lib.hid (heldSet_any y 1 out.length base v W h (by decide) (by decide) hout)
    obtain ⟨xc, xr, xs, xl, xt⟩ := x
    obtain ⟨yc, yr, ys, yl, yt⟩ := y
    simp only [SetC.val, SetC.cells] at *
    clear ht hm hx hl hc htab hsh hfine
    obtain ⟨p0, p1, p2, p3, p4, p5⟩ := SetAt.of (x := ⟨xc, xr, xs, xl, xt⟩) (v := .slice a len cap) K0
    go_enter Tryd.func6, Tryd.ntmps6
    go_wp2_with fail
    generalize World.alloc w _ = W0 at *
    refine HZ.out.mono ?_
    rintro e w1 ⟨rfl, hb1⟩
    clear p0 p1 p2 p3 p4 p5
    have g1 := below_trans hb0 hb1 hb0.size
    have hz1 := hb1.size
    replace K0 := (hb1.block (w.heap.size) (by omega)).trans K0
    clear hb1 HZ
    obtain ⟨p0, p1, p2, p3, p4, p5⟩ := SetAt.of (x := ⟨xc, xr, xs, xl, xt⟩) (v := .slice a len cap) K0
    go_wp2_with fail
    clear p0 p1 p2 p3 p4 p5
    refine (HT w1 g1).out.mono ?_
    rintro e w2 ⟨v2, rfl, ho2, hb2⟩
    obtain ⟨a2, c2, rfl⟩ := ho2.row.lenv
    have g2 := below_trans g1 hb2 g1.size
    have hz2 := hb2.size
    replace K0 := (hb2.block (w.heap.size) (by omega)).trans K0
    have HA := Lib.hid ho2
    clear ho2 hb2
    go_wp2_with fail
    refine (HS _ w2 HA.out.row).out.mono ?_
    rintro e w3 ⟨v3, rfl, ho3, hb3⟩
    obtain ⟨a3, c3, rfl⟩ := ho3.row.lenv
    have g3 := below_trans g2 hb3 g2.size
    have hz3 := hb3.size
    replace K0 := (hb3.block (w.heap.size) (by omega)).trans K0
    clear hb3 HA HS
    have HA := Lib.hid ho3
    have RA := Lib.hid (show ∀ r, (Value.slice a3 out.length c3).ownBlock = some r → w2.heap.size ≤ r ∧ r < w3.heap.size from ho3.lt)
    clear ho3
    have K1 := heap_alloc_new w3 (.cells #[.int .i64 yc, .int .i64 yr, .float .f32 ys, .float .f32 yl, .float .f32 yt, .slice a3 out.length c3] 27)
    replace K0 := (alloc_keeps w3 (.cells #[.int .i64 yc, .int .i64 yr, .float .f32 ys, .float .f32 yl, .float .f32 yt, .slice a3 out.length c3] 27) (show w.heap.size < w3.heap.size by omega)).trans K0
    replace HA := Lib.hid (HA.out.alloc (.cells #[.int .i64 yc, .int .i64 yr, .float .f32 ys, .float .f32 yl, .float .f32 yt, .slice a3 out.length c3] 27))
    have g4 := g3.alloc g3.size (.cells #[.int .i64 yc, .int .i64 yr, .float .f32 ys, .float .f32 yl, .float .f32 yt, .slice a3 out.length c3] 27)
    have hz4 : (w3.alloc (.cells #[.int .i64 yc, .int .i64 yr, .float .f32 ys, .float .f32 yl, .float .f32 yt, .slice a3 out.length c3] 27)).heap.size = w3.heap.size + 1 := by simp
    obtain ⟨p0, p1, p2, p3, p4, p5⟩ := SetAt.of (x := ⟨xc, xr, xs, xl, xt⟩) (v := .slice a len cap) K0
    go_wp2_with fail
    generalize World.alloc w3 _ = W3 at *
    clear p0 p1 p2 p3 p4 p5
    refine (HT W3 g4).out.mono ?_
    rintro e w4 ⟨v4, rfl, ho4, hb4⟩
    obtain ⟨a4, c4, rfl⟩ := ho4.row.lenv
    have g5 := below_trans g4 hb4 g4.size
    have hz5 := hb4.size
    replace K0 := (hb4.block (w.heap.size) (by omega)).trans K0
    replace K1 := (hb4.block (w3.heap.size) (by omega)).trans K1
    replace HA := Lib.hid (HA.out.below hb4)
    clear hb4
    have HB := Lib.hid ho4
    have RB := Lib.hid (show ∀ r, (Value.slice a4 ls.length c4).ownBlock = some r → W3.heap.size ≤ r ∧ r < w4.heap.size from ho4.lt)
    clear ho4
    have K2 := heap_alloc_new w4 (.cells #[.int .i64 xc, .int .i64 xr, .float .f32 xs, .float .f32 xl, .float .f32 xt, .slice a4 ls.length c4] 27)
    replace K0 := (alloc_keeps w4 (.cells #[.int .i64 xc, .int .i64 xr, .float .f32 xs, .float .f32 xl, .float .f32 xt, .slice a4 ls.length c4] 27) (show w.heap.size < w4.heap.size by omega)).trans K0
    replace K1 := (alloc_keeps w4 (.cells #[.int .i64 xc, .int .i64 xr, .float .f32 xs, .float .f32 xl, .float .f32 xt, .slice a4 ls.length c4] 27) (show w3.heap.size < w4.heap.size by omega)).trans K1
    replace HA := Lib.hid (HA.out.alloc (.cells #[.int .i64 xc, .int .i64 xr, .float .f32 xs, .float .f32 xl, .float .f32 xt, .slice a4 ls.length c4] 27))
    replace HB := Lib.hid (HB.out.alloc (.cells #[.int .i64 xc, .int .i64 xr, .float .f32 xs, .float .f32 xl, .float .f32 xt, .slice a4 ls.length c4] 27))
    have g6 := g5.alloc g5.size (.cells #[.int .i64 xc, .int .i64 xr, .float .f32 xs, .float .f32 xl, .float .f32 xt, .slice a4 ls.length c4] 27)
    have hz6 : (w4.alloc (.cells #[.int .i64 xc, .int .i64 xr, .float .f32 xs, .float .f32 xl, .float .f32 xt, .slice a4 ls.length c4] 27)).heap.size = w4.heap.size + 1 := by simp
    obtain ⟨p0, p1, p2, p3, p4, p5⟩ := SetAt.of (x := ⟨xc, xr, xs, xl, xt⟩) (v := .slice a4 ls.length c4) K2
    go_wp2_with fail
    generalize World.alloc w4 _ = W4 at *
    clear p0 p1 p2 p3 p4 p5
    refine (HI _ W4 HB.out.row g6).out.mono ?_
    rintro e w5 ⟨v5, rfl, ho5, hb5⟩
    obtain ⟨a5, c5, rfl⟩ := ho5.row.lenv
    have g7 := below_trans g6 hb5 g6.size
    have hz7 := hb5.size
    replace K0 := (hb5.block (w.heap.size) (by omega)).trans K0
    replace K1 := (hb5.block (w3.heap.size) (by omega)).trans K1
    replace K2 := (hb5.block (w4.heap.size) (by omega)).trans K2
    replace HA := Lib.hid (HA.out.below hb5)
    replace HB := Lib.hid (HB.out.below hb5)
    clear hb5
    have HC := Lib.hid ho5
    have RC := Lib.hid (show ∀ r, (Value.slice a5 out.length c5).ownBlock = some r → W4.heap.size ≤ r ∧ r < w5.heap.size from ho5.lt)
    clear ho5
    have K3 := heap_alloc_new w5 (.cells #[.int .i64 yc, .int .i64 yr, .float .f32 ys, .float .f32 yl, .float .f32 yt, .slice a5 out.length c5] 27)
    replace K0 := (alloc_keeps w5 (.cells #[.int .i64 yc, .int .i64 yr, .float .f32 ys, .float .f32 yl, .float .f32 yt, .slice a5 out.length c5] 27) (show w.heap.size < w5.heap.size by omega)).trans K0
    replace K1 := (alloc_keeps w5 (.cells #[.int .i64 yc, .int .i64 yr, .float .f32 ys, .float .f32 yl, .float .f32 yt, .slice a5 out.length c5] 27) (show w3.heap.size < w5.heap.size by omega)).trans K1
    replace K2 := (alloc_keeps w5 (.cells #[.int .i64 yc, .int .i64 yr, .float .f32 ys, .float .f32 yl, .float .f32 yt, .slice a5 out.length c5] 27) (show w4.heap.size < w5.heap.size by omega)).trans K2
    replace HA := Lib.hid (HA.out.alloc (.cells #[.int .i64 yc, .int .i64 yr, .float .f32 ys, .float .f32 yl, .float .f32 yt, .slice a5 out.length c5] 27))
    replace HB := Lib.hid (HB.out.alloc (.cells #[.int .i64 yc, .int .i64 yr, .float .f32 ys, .float .f32 yl, .float .f32 yt, .slice a5 out.length c5] 27))
    replace HC := Lib.hid (HC.out.alloc (.cells #[.int .i64 yc, .int .i64 yr, .float .f32 ys, .float .f32 yl, .float .f32 yt, .slice a5 out.length c5] 27))
    have g8 := g7.alloc g7.size (.cells #[.int .i64 yc, .int .i64 yr, .float .f32 ys, .float .f32 yl, .float .f32 yt, .slice a5 out.length c5] 27)
    have hz8 : (w5.alloc (.cells #[.int .i64 yc, .int .i64 yr, .float .f32 ys, .float .f32 yl, .float .f32 yt, .slice a5 out.length c5] 27)).heap.size = w5.heap.size + 1 := by simp
    obtain ⟨p0, p1, p2, p3, p4, p5⟩ := SetAt.of (x := ⟨yc, yr, ys, yl, yt⟩) (v := .slice a5 out.length c5) K3
    obtain ⟨q0, q1, q2, q3, q4, q5⟩ := SetAt.of (x := ⟨yc, yr, ys, yl, yt⟩) (v := .slice a3 out.length c3) K1
    go_wp2_with fail
    generalize World.alloc w5 _ = W5 at *
    clear p0 p1 p2 p3 p4 p5 q0 q1 q2 q3 q4 q5
    refine (HE _ _ _ _ W5 HC.out HA.out).out.mono ?_
    rintro e w6 ⟨rfl, hb6⟩
    have g9 := below_trans g8 hb6 g8.size
    have hz9 := hb6.size
    replace K0 := (hb6.block (w.heap.size) (by omega)).trans K0
    replace K1 := (hb6.block (w3.heap.size) (by omega)).trans K1
    replace K2 := (hb6.block (w4.heap.size) (by omega)).trans K2
    replace K3 := (hb6.block (w5.heap.size) (by omega)).trans K3
    replace HA := Lib.hid (HA.out.below hb6)
    replace HB := Lib.hid (HB.out.below hb6)
    replace HC := Lib.hid (HC.out.below hb6)
    clear hb6
    have A5 := SetAt.of (x := ⟨xc, xr, xs, xl, xt⟩) (v := .slice a4 ls.length c4) K2
    have S5 := SetAt.of (x := ⟨xc, xr, xs, xl, xt⟩) (v := .slice a len cap) K0
    have z1 : w4.heap.size < w6.heap.size := by omega
    have z05 : w.heap.size < w6.heap.size := by omega
    obtain ⟨q0, q1, q2, q3, q4, q5⟩ := id A5
    obtain ⟨p0, p1, p2, p3, p4, p5⟩ := id S5
    go_wp2_with fail
    go_region_held3 (fun V => (V.cell? ⟨w4.heap.size, 0, none⟩ = some (.int .i64 xc) ∧ V.cell? ⟨w4.heap.size, 1, none⟩ = some (.int .i64 xr) ∧ V.cell? ⟨w4.heap.size, 2, none⟩ = some (.float .f32 xs) ∧ V.cell? ⟨w4.heap.size, 3, none⟩ = some (.float .f32 xl) ∧ V.cell? ⟨w4.heap.size, 4, none⟩ = some (.float .f32 xt) ∧ V.cell? ⟨w4.heap.size, 5, none⟩ = some (.slice a4 ls.length c4)) ∧ (V.cell? ⟨w.heap.size, 0, none⟩ = some (.int .i64 xc) ∧ V.cell? ⟨w.heap.size, 1, none⟩ = some (.int .i64 xr) ∧ V.cell? ⟨w.heap.size, 2, none⟩ = some (.float .f32 xs) ∧ V.cell? ⟨w.heap.size, 3, none⟩ = some (.float .f32 xl) ∧ V.cell? ⟨w.heap.size, 4, none⟩ = some (.float .f32 xt) ∧ V.cell? ⟨w.heap.size, 5, none⟩ = some (.slice a len cap))) (first | exact KK2 | exact KK | go_keep) (first
      | (go_at_call 27; refine (HT _ g9.drew).out.mono ?_; rintro e w7 ⟨v7, rfl, ho7, hb7⟩; obtain ⟨a7, c7, rfl⟩ := ho7.row.lenv; have KK := And.intro ((show SetAt w6.drew w4.heap.size ⟨xc, xr, xs, xl, xt⟩ (.slice a4 ls.length c4) from A5).keep hb7 z1) ((show SetAt w6.drew w.heap.size ⟨xc, xr, xs, xl, xt⟩ (.slice a len cap) from S5).keep hb7 z05))
      | (go_at_call 28; refine (HX _ _ _ _ _ ((show OwnS w6.drew W3.heap.size (.slice a4 ls.length c4) ls from HB.out).below hb7) ho7).out.mono ?_; rintro e w8 ⟨rfl, hb8⟩; have KK2 := And.intro (KK.1.keep hb8 (Nat.lt_of_lt_of_le z1 hb7.size)) (KK.2.keep hb8 (Nat.lt_of_lt_of_le z05 hb7.size))))
    all_goals
      have hbb : Below w6.heap.size w6 w8 := ((Below.refl w6.heap.size w6).drew.trans (hb7.mono (Nat.le_refl _))).trans (hb8.mono hb7.size)
      clear A5 S5 z1 z05 q0 q1 q2 q3 q4 q5 p0 p1 p2 p3 p4 p5 KK KK2 hb7 hb8 ho7
      have g10 := below_trans g9 hbb g9.size
      have hz10 := hbb.size
      replace K0 := (hbb.block (w.heap.size) (by omega)).trans K0
      replace K1 := (hbb.block (w3.heap.size) (by omega)).trans K1
      replace K2 := (hbb.block (w4.heap.size) (by omega)).trans K2
      replace K3 := (hbb.block (w5.heap.size) (by omega)).trans K3
      replace HA := Lib.hid (HA.out.below hbb)
      replace HB := Lib.hid (HB.out.below hbb)
      replace HC := Lib.hid (HC.out.below hbb)
      clear hbb
      obtain ⟨p0, p1, p2, p3, p4, p5⟩ := SetAt.of (x := ⟨xc, xr, xs, xl, xt⟩) (v := .slice a4 ls.length c4) K2
      go_wp2_with fail
      clear p0 p1 p2 p3 p4 p5
      refine (HMX _ _ w8 HB.out).out.mono ?_
      rintro e w9 ⟨rfl, ho9, hg9⟩
      have g11 := g10.grown hg9 g10.size (fun r hr => by have := (RB.out r hr).1; omega)
      have hz11 := hg9.size
      replace K0 := (hg9.block (w.heap.size) (by omega) (fun e => by have := RB.out _ e.symm; omega)).trans K0
      replace K1 := (hg9.block (w3.heap.size) (by omega) (fun e => by have := RB.out _ e.symm; omega)).trans K1
      replace K2 := (hg9.block (w4.heap.size) (by omega) (fun e => by have := RB.out _ e.symm; omega)).trans K2
      replace K3 := (hg9.block (w5.heap.size) (by omega) (fun e => by have := RB.out _ e.symm; omega)).trans K3
      replace HA := Lib.hid (HA.out.kept hg9 (own_ne RA.out RB.out (by omega)))
      replace HC := Lib.hid (HC.out.kept hg9 (own_ne RC.out RB.out (by omega)))
      clear ho9 hg9 HB HX HMX
      obtain ⟨p0, p1, p2, p3, p4, p5⟩ := SetAt.of (x := ⟨yc, yr, ys, yl, yt⟩) (v := .slice a5 out.length c5) K3
      obtain ⟨q0, q1, q2, q3, q4, q5⟩ := SetAt.of (x := ⟨yc, yr, ys, yl, yt⟩) (v := .slice a3 out.length c3) K1
      go_wp2_with fail
      clear p0 p1 p2 p3 p4 p5 q0 q1 q2 q3 q4 q5
      refine (HE _ _ _ _ w9 HC.out HA.out).out.mono ?_
      rintro e w10 ⟨rfl, hb10⟩
      have g12 := below_trans g11 hb10 g11.size
      have hz12 := hb10.size
      replace K0 := (hb10.block (w.heap.size) (by omega)).trans K0
      replace K1 := (hb10.block (w3.heap.size) (by omega)).trans K1
      replace K2 := (hb10.block (w4.heap.size) (by omega)).trans K2
      replace K3 := (hb10.block (w5.heap.size) (by omega)).trans K3
      replace HA := Lib.hid (HA.out.below hb10)
      replace HC := Lib.hid (HC.out.below hb10)
      clear hb10
      obtain ⟨p0, p1, p2, p3, p4, p5⟩ := SetAt.of (x := ⟨yc, yr, ys, yl, yt⟩) (v := .slice a5 out.length c5) K3
      go_wp2_with fail
      clear p0 p1 p2 p3 p4 p5
      refine (HMY _ _ w10 HC.out).out.mono ?_
      rintro e w11 ⟨rfl, ho11, hg11⟩
      have g13 := g12.grown hg11 g12.size (fun r hr => by have := (RC.out r hr).1; omega)
      have hz13 := hg11.size
      replace K0 := (hg11.block (w.heap.size) (by omega) (fun e => by have := RC.out _ e.symm; omega)).trans K0
      replace K1 := (hg11.block (w3.heap.size) (by omega) (fun e => by have := RC.out _ e.symm; omega)).trans K1
      replace K2 := (hg11.block (w4.heap.size) (by omega) (fun e => by have := RC.out _ e.symm; omega)).trans K2
      replace K3 := (hg11.block (w5.heap.size) (by omega) (fun e => by have := RC.out _ e.symm; omega)).trans K3
      replace HA := Lib.hid (HA.out.kept hg11 (own_ne RA.out RC.out (by omega)))
      replace HC := Lib.hid ho11
      clear ho11 hg11
      obtain ⟨p0, p1, p2, p3, p4, p5⟩ := SetAt.of (x := ⟨yc, yr, ys, yl, yt⟩) (v := .slice a5 out.length c5) K3
      go_wp2_with fail
      clear p0 p1 p2 p3 p4 p5
      refine (HHY _ _ w11 HC.out).out.mono ?_
      rintro e w12 ⟨rfl, hb12⟩
      have g14 := below_trans g13 hb12 g13.size
      have hz14 := hb12.size
      replace K0 := (hb12.block (w.heap.size) (by omega)).trans K0
      replace K1 := (hb12.block (w3.heap.size) (by omega)).trans K1
      replace K2 := (hb12.block (w4.heap.size) (by omega)).trans K2
      replace K3 := (hb12.block (w5.heap.size) (by omega)).trans K3
      replace HA := Lib.hid (HA.out.below hb12)
      replace HC := Lib.hid (HC.out.below hb12)
      clear hb12
      obtain ⟨p0, p1, p2, p3, p4, p5⟩ := SetAt.of (x := ⟨xc, xr, xs, xl, xt⟩) (v := .slice a len cap) K0
      go_wp2_with fail
      clear p0 p1 p2 p3 p4 p5
      refine (HT w12 g14).out.mono ?_
      rintro e w13 ⟨v13, rfl, ho13, hb13⟩
      obtain ⟨a13, c13, rfl⟩ := ho13.row.lenv
      have g15 := below_trans g14 hb13 g14.size
      have hz15 := hb13.size
      replace K0 := (hb13.block (w.heap.size) (by omega)).trans K0
      replace K1 := (hb13.block (w3.heap.size) (by omega)).trans K1
      replace K2 := (hb13.block (w4.heap.size) (by omega)).trans K2
      replace K3 := (hb13.block (w5.heap.size) (by omega)).trans K3
      replace HA := Lib.hid (HA.out.below hb13)
      replace HC := Lib.hid (HC.out.below hb13)
      have HD := Lib.hid ho13
      clear ho13 hb13
      go_wp2_with fail
      refine (HI _ w13 HD.out.row g15).out.mono ?_
      rintro e w14 ⟨v14, rfl, ho14, hb14⟩
      obtain ⟨a14, c14, rfl⟩ := ho14.row.lenv
      have g16 := below_trans g15 hb14 g15.size
      have hz16 := hb14.size
      replace K0 := (hb14.block (w.heap.size) (by omega)).trans K0
      replace K1 := (hb14.block (w3.heap.size) (by omega)).trans K1
      replace K2 := (hb14.block (w4.heap.size) (by omega)).trans K2
      replace K3 := (hb14.block (w5.heap.size) (by omega)).trans K3
      replace HA := Lib.hid (HA.out.below hb14)
      replace HC := Lib.hid (HC.out.below hb14)
      clear hb14 HD HI
      have HD := Lib.hid ho14
      have RD := Lib.hid (show ∀ r, (Value.slice a14 out.length c14).ownBlock = some r → w13.heap.size ≤ r ∧ r < w14.heap.size from ho14.lt)
      clear ho14
      have K4 := heap_alloc_new w14 (.cells #[.int .i64 yc, .int .i64 yr, .float .f32 ys, .float .f32 yl, .float .f32 yt, .slice a14 out.length c14] 27)
      replace K0 := (alloc_keeps w14 (.cells #[.int .i64 yc, .int .i64 yr, .float .f32 ys, .float .f32 yl, .float .f32 yt, .slice a14 out.length c14] 27) (show w.heap.size < w14.heap.size by omega)).trans K0
      replace K1 := (alloc_keeps w14 (.cells #[.int .i64 yc, .int .i64 yr, .float .f32 ys, .float .f32 yl, .float .f32 yt, .slice a14 out.length c14] 27) (show w3.heap.size < w14.heap.size by omega)).trans K1
      replace K2 := (alloc_keeps w14 (.cells #[.int .i64 yc, .int .i64 yr, .float .f32 ys, .float .f32 yl, .float .f32 yt, .slice a14 out.length c14] 27) (show w4.heap.size < w14.heap.size by omega)).trans K2
      replace K3 := (alloc_keeps w14 (.cells #[.int .i64 yc, .int .i64 yr, .float .f32 ys, .float .f32 yl, .float .f32 yt, .slice a14 out.length c14] 27) (show w5.heap.size < w14.heap.size by omega)).trans K3
      replace HA := Lib.hid (HA.out.alloc (.cells #[.int .i64 yc, .int .i64 yr, .float .f32 ys, .float .f32 yl, .float .f32 yt, .slice a14 out.length c14] 27))
      replace HC := Lib.hid (HC.out.alloc (.cells #[.int .i64 yc, .int .i64 yr, .float .f32 ys, .float .f32 yl, .float .f32 yt, .slice a14 out.length c14] 27))
      replace HD := Lib.hid (HD.out.alloc (.cells #[.int .i64 yc, .int .i64 yr, .float .f32 ys, .float .f32 yl, .float .f32 yt, .slice a14 out.length c14] 27))
      have g17 := g16.alloc g16.size (.cells #[.int .i64 yc, .int .i64 yr, .float .f32 ys, .float .f32 yl, .float .f32 yt, .slice a14 out.length c14] 27)
      have hz17 : (w14.alloc (.cells #[.int .i64 yc, .int .i64 yr, .float .f32 ys, .float .f32 yl, .float .f32 yt, .slice a14 out.length c14] 27)).heap.size = w14.heap.size + 1 := by simp
      obtain ⟨p0, p1, p2, p3, p4, p5⟩ := SetAt.of (x := ⟨yc, yr, ys, yl, yt⟩) (v := .slice a14 out.length c14) K4
      obtain ⟨q0, q1, q2, q3, q4, q5⟩ := SetAt.of (x := ⟨yc, yr, ys, yl, yt⟩) (v := .slice a3 out.length c3) K1
      go_wp2_with fail
      generalize World.alloc w14 _ = W14 at *
      clear p0 p1 p2 p3 p4 p5 q0 q1 q2 q3 q4 q5
      refine (HE _ _ _ _ W14 HD.out HA.out).out.mono ?_
      rintro e w15 ⟨rfl, hb15⟩
      have g18 := below_trans g17 hb15 g17.size
      have hz18 := hb15.size
      replace K0 := (hb15.block (w.heap.size) (by omega)).trans K0
      replace K1 := (hb15.block (w3.heap.size) (by omega)).trans K1
      replace K2 := (hb15.block (w4.heap.size) (by omega)).trans K2
      replace K3 := (hb15.block (w5.heap.size) (by omega)).trans K3
      replace K4 := (hb15.block (w14.heap.size) (by omega)).trans K4
      replace HA := Lib.hid (HA.out.below hb15)
      replace HC := Lib.hid (HC.out.below hb15)
      replace HD := Lib.hid (HD.out.below hb15)
      clear hb15
      obtain ⟨p0, p1, p2, p3, p4, p5⟩ := SetAt.of (x := ⟨yc, yr, ys, yl, yt⟩) (v := .slice a5 out.length c5) K3
      go_wp2_with fail
      clear p0 p1 p2 p3 p4 p5
      refine (HHY _ _ w15 HC.out).out.mono ?_
      rintro e w16 ⟨rfl, hb16⟩
      have g19 := below_trans g18 hb16 g18.size
      have hz19 := hb16.size
      replace K0 := (hb16.block (w.heap.size) (by omega)).trans K0
      replace K1 := (hb16.block (w3.heap.size) (by omega)).trans K1
      replace K2 := (hb16.block (w4.heap.size) (by omega)).trans K2
      replace K3 := (hb16.block (w5.heap.size) (by omega)).trans K3
      replace K4 := (hb16.block (w14.heap.size) (by omega)).trans K4
      replace HA := Lib.hid (HA.out.below hb16)
      replace HC := Lib.hid (HC.out.below hb16)
      replace HD := Lib.hid (HD.out.below hb16)
      clear hb16
      go_wp2
      go_ret
      exact ⟨rfl, g19⟩
theorem tabS_ofT {W : World} (h : laidMetH Tryd.prog Rows.fnExactTuneRow.laid W) : TabS W := by
  have h1 := laidMetH.filter (fun x => x.1 == "strings.asciiSpace") h
  rw [MakeChecks.laidMetH_plain _ _ _ (by kernel_rfl)] at h1
  exact tabS_one (rest := []) h1
end Go.Proofs.YtobpnoiienpipaaDoor
