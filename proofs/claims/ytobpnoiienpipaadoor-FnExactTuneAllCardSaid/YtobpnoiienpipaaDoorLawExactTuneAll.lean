/-
  What is proved: the walk of the law FnExactTuneAll.
  Conditions: the library's table of spaces holds what its initialiser lays.
-/
import Derived.Test.YtobpnoiienpipaaDoorTuneAllS
import Derived.Test.YtobpnoiienpipaaDoorSOpen
import Derived.Deep.RegionHeld3
namespace Go.Proofs.YtobpnoiienpipaaDoor
set_option linter.unusedVariables false
open Go.RowKit
attribute [local go_sem] run_store_float run_store_complex unary_negf neg256

theorem szT_small {ls : List (List UInt8)} {left : Nat} (h : ¬ szT ls left < 0) : totT ls ≤ left := by
  unfold szT at h
  split at h
  · assumption
  · exact absurd (by decide) h
theorem totT_len (ls : List (List UInt8)) : ls.length ≤ totT ls := by unfold totT; omega
theorem totT_mem {ls : List (List UInt8)} {l : List UInt8} (h : l ∈ ls) : l.length ≤ totT ls := by
  have h1 : ∀ (L : List (List UInt8)), l ∈ L → l.length ≤ (L.map List.length).sum := by
    intro L
    induction L with
    | nil => intro h; cases h
    | cons x r ih =>
      intro h
      rw [List.map_cons, List.sum_cons]
      rcases List.mem_cons.1 h with rfl | h
      · omega
      · have := ih h; omega
  have := h1 ls h
  unfold totT
  omega
theorem short_of {ls : List (List UInt8)} {left : Nat} (h : totT ls ≤ left) (hl : left ≤ 1048576) : Short ls := ⟨by have := totT_len ls; omega, fun l hm => by have := totT_mem hm; omega⟩
theorem own_ne {v v' : Value} {a b c d : Nat} (h : ∀ r, v.ownBlock = some r → a ≤ r ∧ r < b) (h' : ∀ r, v'.ownBlock = some r → c ≤ r ∧ r < d) (hd : b ≤ c ∨ d ≤ a) : v.ownBlock = none ∨ v.ownBlock ≠ v'.ownBlock := by
  cases hv : v.ownBlock with
  | none => exact .inl rfl
  | some r =>
    refine .inr fun e => ?_
    have h1 := h r hv
    have h2 := h' r e.symm
    omega

theorem own_ne_sb {W : World} {b b' : Nat} {v d : Value} {ls : List (List UInt8)} {bs : List Bool} (h : OwnS W b v ls) (h' : LB.Own W b' d bs) : v.ownBlock = none ∨ v.ownBlock ≠ d.ownBlock := by
  cases hv : v.ownBlock with
  | none => exact .inl rfl
  | some r => exact .inr fun e => own_types h h' r hv e.symm
theorem own_ne_bs {W : World} {b b' : Nat} {v d : Value} {ls : List (List UInt8)} {bs : List Bool} (h' : LB.Own W b' d bs) (h : OwnS W b v ls) : d.ownBlock = none ∨ d.ownBlock ≠ v.ownBlock := by
  cases hv : d.ownBlock with
  | none => exact .inl rfl
  | some r => exact .inr fun e => own_types h h' r e.symm hv
theorem szT_nat {ls : List (List UInt8)} {left : Nat} (h : ¬ szT ls left < 0) : szT ls left = ((left - totT ls : Nat) : Int) := by
  have h1 := szT_small h
  unfold szT
  rw [if_pos h1]

set_option maxRecDepth 100000 in
set_option maxHeartbeats 4000000 in
theorem walk_FnExactTuneAll (x : SetC) (a : Option Addr) (len cap : Nat) (ls : List (List UInt8)) (a1 : Option Addr) (len1 cap1 : Nat) (lines : List (List UInt8)) (w : World) (hx : x.ok) (ht : TRow w (.slice a len cap) ls) (hm : ∀ l ∈ ls, l.length ≤ maxLen) (hl : ls.length = len) (hc : len ≤ maxLen)
    (ht1 : TRow w (.slice a1 len1 cap1) lines) (hm1 : ∀ l ∈ lines, l.length ≤ maxLen) (hl1 : lines.length = len1) (hc1 : len1 ≤ maxLen) (htab : TabS w) :
    Calls Tryd.prog 7 #[x.val (.slice a len cap), .slice a1 len1 cap1] w fun e w' => e = .returned (.bool true) ∧ Below w.heap.size w w' := by
  have hb0 : Below w.heap.size w (w.alloc (.cells (x.cells (.slice a len cap)) 47)) := (Below.refl _ _).alloc (Nat.le_refl _) _
  have K0 := heap_alloc_new w (.cells (x.cells (.slice a len cap)) 47)
  have hz0 : (w.alloc (.cells (x.cells (.slice a len cap)) 47)).heap.size = w.heap.size + 1 := by simp
  have HZ := Lib.hid (szSet_any x (.slice a len cap) ls 1048576 _ (ht.below hb0) hm (by omega) (by omega))
  rw [show ((1048576 : Nat) : Int) = 1048576 from rfl] at HZ
  by_cases hneg : szT ls 1048576 < 0
  · generalize szT ls 1048576 = z at *
    obtain ⟨xc, xr, xs, xl, xt⟩ := x
    simp only [SetC.val, SetC.cells] at *
    clear ht hm hx hl hc htab ht1 hm1 hl1 hc1
    obtain ⟨q0, q1, q2, q3, q4, q5⟩ := SetAt.of (x := ⟨xc, xr, xs, xl, xt⟩) (v := .slice a len cap) K0
    go_enter Tryd.func7, Tryd.ntmps7
    go_wp2_with fail
    generalize World.alloc w _ = W0 at *
    refine HZ.out.mono ?_
    rintro e w1 ⟨rfl, hb1⟩
    go_wp2
    go_ret
    exact ⟨rfl, below_trans hb0 hb1 hb0.size⟩
  have hzn := szT_nat hneg
  have hsh : Short ls := short_of (szT_small hneg) (Nat.le_refl _)
  have hlen := hsh.1
  rw [hzn] at HZ
  have HZ1 := fun W (hW : Below w.heap.size w W) => Lib.hid (szStringS_any (.slice a1 len1 cap1) lines (1048576 - totT ls) W (ht1.below hW) hm1 (by omega) (by omega))
  by_cases hneg1 : szT lines (1048576 - totT ls) < 0
  · generalize szT lines (1048576 - totT ls) = z1 at *
    generalize 1048576 - totT ls = z at *
    obtain ⟨xc, xr, xs, xl, xt⟩ := x
    simp only [SetC.val, SetC.cells] at *
    clear ht hm hx hl hc htab ht1 hm1 hl1 hc1 hsh hzn hneg
    obtain ⟨q0, q1, q2, q3, q4, q5⟩ := SetAt.of (x := ⟨xc, xr, xs, xl, xt⟩) (v := .slice a len cap) K0
    go_enter Tryd.func7, Tryd.ntmps7
    go_wp2_with fail
    generalize World.alloc w _ = W0 at *
    refine HZ.out.mono ?_
    rintro e w1 ⟨rfl, hb1⟩
    have g1 := below_trans hb0 hb1 hb0.size
    go_wp2_with fail
    refine (HZ1 w1 g1).out.mono ?_
    rintro e w2 ⟨rfl, rfl⟩
    go_wp2
    go_ret
    exact ⟨rfl, g1⟩
  · have hsh1 : Short lines := short_of (szT_small hneg1) (by omega)
    have hlen1 := hsh1.1
    have hfine := tuneAll_fine lines (q := (x, ls)) ⟨hx, hsh⟩
    have hbl := tuneAll_len lines (x, ls)
    have hls : ls.length ≤ 1048576 := by have := szT_small hneg; have := totT_len ls; omega
    generalize szT lines (1048576 - totT ls) = z1 at *
    generalize 1048576 - totT ls = z at *
    have HT := fun W (hW : Below w.heap.size w W) => Lib.hid (toSet_any x (.slice a len cap) ls W (ht.below hW) hlen)
    have HTL := fun W (hW : Below w.heap.size w W) => Lib.hid (toStringS_any (.slice a1 len1 cap1) lines W (ht1.below hW) hlen1)
    have HS := fun v u W h h' => Lib.hid (specTuneAll_any x v u ls lines W hx h hsh h' hsh1)
    have HI := fun v u W h h' (hbW : Below w.heap.size w W) => Lib.hid (tuneAll_any x v u ls lines W hx h hsh h' hsh1 (htab.below hbW))
    unfold AllPost at HS HI
    generalize tuneAll (x, ls) lines = R at *
    obtain ⟨⟨y, out⟩, bs⟩ := R
    have hout : out.length ≤ 3000000 := hfine.log.1
    have hbn : bs.length ≤ 3000000 := by have h1 : bs.length = lines.length := hbl; omega
    have HX := fun v v' b b' W h h' => Lib.hid (eqSet_any x x v v' ls b b' W (SetC.Same.refl x) h h' hlen)
    have HE := fun v v' b b' W h h' => Lib.hid (eqSet_any y y v v' out b b' W (SetC.Same.refl y) h h' hout)
    have HEB := fun v v' W h h' => Lib.hid (eqBools_self v v' bs W h h' (by omega))
    have HEL := fun v v' b b' W h h' => Lib.hid (eqStringS_any v v' lines b b' W h h' hlen1)
    have HMX := fun base v W h => Lib.hid (markSet_any x 1 base v ls W h (by decide) (by decide) hlen)
    have HML := fun base v W h => Lib.hid (markStringS_any (1 + ls.length) base v lines W h (by omega) (by omega) hlen1)
    have HMY := fun base v W h => Lib.hid (markSet_any y 1 base v out W h (by decide) (by decide) hout)
    have HMB := fun base v W h => Lib.hid (markBools_any (1 + out.length) base v bs W h (by omega) (by omega))
    have HHY := fun base v W h => Lib.hid (heldSet_any y 1 out.length base v W h (by decide) (by decide) hout)
    have HHB := fun v W h => Lib.hid (heldBools_any (1 + out.length) v bs.length W h (by omega) (by omega))
    obtain ⟨xc, xr, xs, xl, xt⟩ := x
    obtain ⟨yc, yr, ys, yl, yt⟩ := y
    simp only [SetC.val, SetC.cells] at *
    clear ht hm hx hl hc htab hsh hfine ht1 hm1 hl1 hc1 hsh1 hbl hzn
    obtain ⟨p0, p1, p2, p3, p4, p5⟩ := SetAt.of (x := ⟨xc, xr, xs, xl, xt⟩) (v := .slice a len cap) K0
    go_enter Tryd.func7, Tryd.ntmps7
    go_wp2_with fail
    generalize World.alloc w _ = W0 at *
    refine HZ.out.mono ?_
    rintro e w1 ⟨rfl, hb1⟩
    clear p0 p1 p2 p3 p4 p5
    have g1 := below_trans hb0 hb1 hb0.size
    have hz1 := hb1.size
    replace K0 := (hb1.block (w.heap.size) (by omega)).trans K0
    clear hb1 HZ hneg
    go_wp2_with fail
    refine (HZ1 w1 g1).out.mono ?_
    rintro e w2 ⟨rfl, rfl⟩
    clear HZ1
    obtain ⟨p0, p1, p2, p3, p4, p5⟩ := SetAt.of (x := ⟨xc, xr, xs, xl, xt⟩) (v := .slice a len cap) K0
    go_wp2_with fail
    clear p0 p1 p2 p3 p4 p5
    refine (HT w1 g1).out.mono ?_
    rintro e w2 ⟨v2, rfl, ho2, hb2⟩
    obtain ⟨a2', c2', rfl⟩ := ho2.row.lenv
    clear hneg1
    have g2 := below_trans g1 hb2 g1.size
    have hz2 := hb2.size
    replace K0 := (hb2.block (w.heap.size) (by omega)).trans K0
    clear hb2
    have HP := Lib.hid ho2
    have RP := Lib.hid (show ∀ r, (Value.slice a2' ls.length c2').ownBlock = some r → w1.heap.size ≤ r ∧ r < w2.heap.size from ho2.lt)
    clear ho2
    go_wp2_with fail
    refine (HTL w2 g2).out.mono ?_
    rintro e w3 ⟨v3, rfl, ho3, hb3⟩
    obtain ⟨a3', c3', rfl⟩ := ho3.row.lenv
    have g3 := below_trans g2 hb3 g2.size
    have hz3 := hb3.size
    replace K0 := (hb3.block (w.heap.size) (by omega)).trans K0
    replace HP := Lib.hid (HP.out.below hb3)
    clear hb3
    have HQ := Lib.hid ho3
    have RQ := Lib.hid (show ∀ r, (Value.slice a3' lines.length c3').ownBlock = some r → w2.heap.size ≤ r ∧ r < w3.heap.size from ho3.lt)
    clear ho3
    go_wp2_with fail
    refine (HS _ _ w3 HP.out.row HQ.out.row).out.mono ?_
    rintro e w4 ⟨v4, d4, rfl, ho4, hd4, hb4⟩
    obtain ⟨a4', c4', rfl⟩ := ho4.row.lenv
    obtain ⟨e4', f4', hh⟩ := hd4.row.lenv
    subst hh
    have g4 := below_trans g3 hb4 g3.size
    have hz4 := hb4.size
    replace K0 := (hb4.block (w.heap.size) (by omega)).trans K0
    replace HP := Lib.hid (HP.out.below hb4)
    replace HQ := Lib.hid (HQ.out.below hb4)
    clear hb4
    have HA := Lib.hid ho4
    have RA := Lib.hid (show ∀ r, (Value.slice a4' out.length c4').ownBlock = some r → w3.heap.size ≤ r ∧ r < w4.heap.size from ho4.lt)
    clear ho4
    have HD := Lib.hid hd4
    have RD := Lib.hid (show ∀ r, (Value.slice e4' bs.length f4').ownBlock = some r → w3.heap.size ≤ r ∧ r < w4.heap.size from hd4.lt)
    clear hd4
    clear HP RP
    clear HQ RQ
    clear HS
    have K1 := heap_alloc_new w4 (.cells #[.int .i64 yc, .int .i64 yr, .float .f32 ys, .float .f32 yl, .float .f32 yt, .slice a4' out.length c4'] 27)
    replace K0 := (alloc_keeps w4 (.cells #[.int .i64 yc, .int .i64 yr, .float .f32 ys, .float .f32 yl, .float .f32 yt, .slice a4' out.length c4'] 27) (show w.heap.size < w4.heap.size by omega)).trans K0
    replace HA := Lib.hid (HA.out.alloc (.cells #[.int .i64 yc, .int .i64 yr, .float .f32 ys, .float .f32 yl, .float .f32 yt, .slice a4' out.length c4'] 27))
    replace HD := Lib.hid (HD.out.alloc (.cells #[.int .i64 yc, .int .i64 yr, .float .f32 ys, .float .f32 yl, .float .f32 yt, .slice a4' out.length c4'] 27))
    have g5 := g4.alloc g4.size (.cells #[.int .i64 yc, .int .i64 yr, .float .f32 ys, .float .f32 yl, .float .f32 yt, .slice a4' out.length c4'] 27)
    have hz5 : (w4.alloc (.cells #[.int .i64 yc, .int .i64 yr, .float .f32 ys, .float .f32 yl, .float .f32 yt, .slice a4' out.length c4'] 27)).heap.size = w4.heap.size + 1 := by simp
    obtain ⟨p0, p1, p2, p3, p4, p5⟩ := SetAt.of (x := ⟨xc, xr, xs, xl, xt⟩) (v := .slice a len cap) K0
    go_wp2_with fail
    generalize World.alloc w4 _ = W4 at *
    clear p0 p1 p2 p3 p4 p5
    refine (HT W4 g5).out.mono ?_
    rintro e w5 ⟨v5, rfl, ho5, hb5⟩
    obtain ⟨a5', c5', rfl⟩ := ho5.row.lenv
    have g6 := below_trans g5 hb5 g5.size
    have hz6 := hb5.size
    replace K0 := (hb5.block (w.heap.size) (by omega)).trans K0
    replace K1 := (hb5.block (w4.heap.size) (by omega)).trans K1
    replace HA := Lib.hid (HA.out.below hb5)
    replace HD := Lib.hid (HD.out.below hb5)
    clear hb5
    have HB := Lib.hid ho5
    have RB := Lib.hid (show ∀ r, (Value.slice a5' ls.length c5').ownBlock = some r → W4.heap.size ≤ r ∧ r < w5.heap.size from ho5.lt)
    clear ho5
    have K2 := heap_alloc_new w5 (.cells #[.int .i64 xc, .int .i64 xr, .float .f32 xs, .float .f32 xl, .float .f32 xt, .slice a5' ls.length c5'] 27)
    replace K0 := (alloc_keeps w5 (.cells #[.int .i64 xc, .int .i64 xr, .float .f32 xs, .float .f32 xl, .float .f32 xt, .slice a5' ls.length c5'] 27) (show w.heap.size < w5.heap.size by omega)).trans K0
    replace K1 := (alloc_keeps w5 (.cells #[.int .i64 xc, .int .i64 xr, .float .f32 xs, .float .f32 xl, .float .f32 xt, .slice a5' ls.length c5'] 27) (show w4.heap.size < w5.heap.size by omega)).trans K1
    replace HA := Lib.hid (HA.out.alloc (.cells #[.int .i64 xc, .int .i64 xr, .float .f32 xs, .float .f32 xl, .float .f32 xt, .slice a5' ls.length c5'] 27))
    replace HD := Lib.hid (HD.out.alloc (.cells #[.int .i64 xc, .int .i64 xr, .float .f32 xs, .float .f32 xl, .float .f32 xt, .slice a5' ls.length c5'] 27))
    replace HB := Lib.hid (HB.out.alloc (.cells #[.int .i64 xc, .int .i64 xr, .float .f32 xs, .float .f32 xl, .float .f32 xt, .slice a5' ls.length c5'] 27))
    have g7 := g6.alloc g6.size (.cells #[.int .i64 xc, .int .i64 xr, .float .f32 xs, .float .f32 xl, .float .f32 xt, .slice a5' ls.length c5'] 27)
    have hz7 : (w5.alloc (.cells #[.int .i64 xc, .int .i64 xr, .float .f32 xs, .float .f32 xl, .float .f32 xt, .slice a5' ls.length c5'] 27)).heap.size = w5.heap.size + 1 := by simp
    go_wp2_with fail
    generalize World.alloc w5 _ = W5 at *
    refine (HTL W5 g7).out.mono ?_
    rintro e w6 ⟨v6, rfl, ho6, hb6⟩
    obtain ⟨a6', c6', rfl⟩ := ho6.row.lenv
    have g8 := below_trans g7 hb6 g7.size
    have hz8 := hb6.size
    replace K0 := (hb6.block (w.heap.size) (by omega)).trans K0
    replace K1 := (hb6.block (w4.heap.size) (by omega)).trans K1
    replace K2 := (hb6.block (w5.heap.size) (by omega)).trans K2
    replace HA := Lib.hid (HA.out.below hb6)
    replace HD := Lib.hid (HD.out.below hb6)
    replace HB := Lib.hid (HB.out.below hb6)
    clear hb6
    have HL := Lib.hid ho6
    have RL := Lib.hid (show ∀ r, (Value.slice a6' lines.length c6').ownBlock = some r → W5.heap.size ≤ r ∧ r < w6.heap.size from ho6.lt)
    clear ho6
    obtain ⟨p0, p1, p2, p3, p4, p5⟩ := SetAt.of (x := ⟨xc, xr, xs, xl, xt⟩) (v := .slice a5' ls.length c5') K2
    go_wp2_with fail
    clear p0 p1 p2 p3 p4 p5
    refine (HI _ _ w6 HB.out.row HL.out.row g8).out.mono ?_
    rintro e w7 ⟨v7, d7, rfl, ho7, hd7, hb7⟩
    obtain ⟨a7', c7', rfl⟩ := ho7.row.lenv
    obtain ⟨e7', f7', hh⟩ := hd7.row.lenv
    subst hh
    have g9 := below_trans g8 hb7 g8.size
    have hz9 := hb7.size
    replace K0 := (hb7.block (w.heap.size) (by omega)).trans K0
    replace K1 := (hb7.block (w4.heap.size) (by omega)).trans K1
    replace K2 := (hb7.block (w5.heap.size) (by omega)).trans K2
    replace HA := Lib.hid (HA.out.below hb7)
    replace HD := Lib.hid (HD.out.below hb7)
    replace HB := Lib.hid (HB.out.below hb7)
    replace HL := Lib.hid (HL.out.below hb7)
    clear hb7
    have HC := Lib.hid ho7
    have RC := Lib.hid (show ∀ r, (Value.slice a7' out.length c7').ownBlock = some r → w6.heap.size ≤ r ∧ r < w7.heap.size from ho7.lt)
    clear ho7
    have HEE := Lib.hid hd7
    have REE := Lib.hid (show ∀ r, (Value.slice e7' bs.length f7').ownBlock = some r → w6.heap.size ≤ r ∧ r < w7.heap.size from hd7.lt)
    clear hd7
    have K3 := heap_alloc_new w7 (.cells #[.int .i64 yc, .int .i64 yr, .float .f32 ys, .float .f32 yl, .float .f32 yt, .slice a7' out.length c7'] 27)
    replace K0 := (alloc_keeps w7 (.cells #[.int .i64 yc, .int .i64 yr, .float .f32 ys, .float .f32 yl, .float .f32 yt, .slice a7' out.length c7'] 27) (show w.heap.size < w7.heap.size by omega)).trans K0
    replace K1 := (alloc_keeps w7 (.cells #[.int .i64 yc, .int .i64 yr, .float .f32 ys, .float .f32 yl, .float .f32 yt, .slice a7' out.length c7'] 27) (show w4.heap.size < w7.heap.size by omega)).trans K1
    replace K2 := (alloc_keeps w7 (.cells #[.int .i64 yc, .int .i64 yr, .float .f32 ys, .float .f32 yl, .float .f32 yt, .slice a7' out.length c7'] 27) (show w5.heap.size < w7.heap.size by omega)).trans K2
    replace HA := Lib.hid (HA.out.alloc (.cells #[.int .i64 yc, .int .i64 yr, .float .f32 ys, .float .f32 yl, .float .f32 yt, .slice a7' out.length c7'] 27))
    replace HD := Lib.hid (HD.out.alloc (.cells #[.int .i64 yc, .int .i64 yr, .float .f32 ys, .float .f32 yl, .float .f32 yt, .slice a7' out.length c7'] 27))
    replace HB := Lib.hid (HB.out.alloc (.cells #[.int .i64 yc, .int .i64 yr, .float .f32 ys, .float .f32 yl, .float .f32 yt, .slice a7' out.length c7'] 27))
    replace HL := Lib.hid (HL.out.alloc (.cells #[.int .i64 yc, .int .i64 yr, .float .f32 ys, .float .f32 yl, .float .f32 yt, .slice a7' out.length c7'] 27))
    replace HC := Lib.hid (HC.out.alloc (.cells #[.int .i64 yc, .int .i64 yr, .float .f32 ys, .float .f32 yl, .float .f32 yt, .slice a7' out.length c7'] 27))
    replace HEE := Lib.hid (HEE.out.alloc (.cells #[.int .i64 yc, .int .i64 yr, .float .f32 ys, .float .f32 yl, .float .f32 yt, .slice a7' out.length c7'] 27))
    have g10 := g9.alloc g9.size (.cells #[.int .i64 yc, .int .i64 yr, .float .f32 ys, .float .f32 yl, .float .f32 yt, .slice a7' out.length c7'] 27)
    have hz10 : (w7.alloc (.cells #[.int .i64 yc, .int .i64 yr, .float .f32 ys, .float .f32 yl, .float .f32 yt, .slice a7' out.length c7'] 27)).heap.size = w7.heap.size + 1 := by simp
    obtain ⟨p0, p1, p2, p3, p4, p5⟩ := SetAt.of (x := ⟨yc, yr, ys, yl, yt⟩) (v := .slice a7' out.length c7') K3
    obtain ⟨q0, q1, q2, q3, q4, q5⟩ := SetAt.of (x := ⟨yc, yr, ys, yl, yt⟩) (v := .slice a4' out.length c4') K1
    go_wp2_with fail
    generalize World.alloc w7 _ = W7 at *
    clear p0 p1 p2 p3 p4 p5 q0 q1 q2 q3 q4 q5
    refine (HE _ _ _ _ W7 HC.out HA.out).out.mono ?_
    rintro e w8 ⟨rfl, hb8⟩
    have g11 := below_trans g10 hb8 g10.size
    have hz11 := hb8.size
    replace K0 := (hb8.block (w.heap.size) (by omega)).trans K0
    replace K1 := (hb8.block (w4.heap.size) (by omega)).trans K1
    replace K2 := (hb8.block (w5.heap.size) (by omega)).trans K2
    replace K3 := (hb8.block (w7.heap.size) (by omega)).trans K3
    replace HA := Lib.hid (HA.out.below hb8)
    replace HD := Lib.hid (HD.out.below hb8)
    replace HB := Lib.hid (HB.out.below hb8)
    replace HL := Lib.hid (HL.out.below hb8)
    replace HC := Lib.hid (HC.out.below hb8)
    replace HEE := Lib.hid (HEE.out.below hb8)
    clear hb8
    go_wp2_with fail
    refine (HEB _ _ w8 HEE.out.row HD.out.row).out.mono ?_
    rintro e w9 ⟨rfl, hb9⟩
    have g12 := below_trans g11 hb9 g11.size
    have hz12 := hb9.size
    replace K0 := (hb9.block (w.heap.size) (by omega)).trans K0
    replace K1 := (hb9.block (w4.heap.size) (by omega)).trans K1
    replace K2 := (hb9.block (w5.heap.size) (by omega)).trans K2
    replace K3 := (hb9.block (w7.heap.size) (by omega)).trans K3
    replace HA := Lib.hid (HA.out.below hb9)
    replace HD := Lib.hid (HD.out.below hb9)
    replace HB := Lib.hid (HB.out.below hb9)
    replace HL := Lib.hid (HL.out.below hb9)
    replace HC := Lib.hid (HC.out.below hb9)
    replace HEE := Lib.hid (HEE.out.below hb9)
    clear hb9
    have A5 := SetAt.of (x := ⟨xc, xr, xs, xl, xt⟩) (v := .slice a5' ls.length c5') K2
    have S5 := SetAt.of (x := ⟨xc, xr, xs, xl, xt⟩) (v := .slice a len cap) K0
    have z1 : w5.heap.size < w9.heap.size := by omega
    have z05 : w.heap.size < w9.heap.size := by omega
    obtain ⟨q0, q1, q2, q3, q4, q5⟩ := id A5
    obtain ⟨p0, p1, p2, p3, p4, p5⟩ := id S5
    go_wp2_with fail
    go_region_held3 (fun V => (V.cell? ⟨w5.heap.size, 0, none⟩ = some (.int .i64 xc) ∧ V.cell? ⟨w5.heap.size, 1, none⟩ = some (.int .i64 xr) ∧ V.cell? ⟨w5.heap.size, 2, none⟩ = some (.float .f32 xs) ∧ V.cell? ⟨w5.heap.size, 3, none⟩ = some (.float .f32 xl) ∧ V.cell? ⟨w5.heap.size, 4, none⟩ = some (.float .f32 xt) ∧ V.cell? ⟨w5.heap.size, 5, none⟩ = some (.slice a5' ls.length c5')) ∧ (V.cell? ⟨w.heap.size, 0, none⟩ = some (.int .i64 xc) ∧ V.cell? ⟨w.heap.size, 1, none⟩ = some (.int .i64 xr) ∧ V.cell? ⟨w.heap.size, 2, none⟩ = some (.float .f32 xs) ∧ V.cell? ⟨w.heap.size, 3, none⟩ = some (.float .f32 xl) ∧ V.cell? ⟨w.heap.size, 4, none⟩ = some (.float .f32 xt) ∧ V.cell? ⟨w.heap.size, 5, none⟩ = some (.slice a len cap))) (first | exact KK2 | exact KK | go_keep) (first
      | (go_at_call 27; refine (HT _ g12.drew).out.mono ?_; rintro e w10 ⟨v7, rfl, ho7, hb7⟩; obtain ⟨a7, c7, rfl⟩ := ho7.row.lenv; have KK := And.intro ((show SetAt w9.drew (w5.heap.size) ⟨xc, xr, xs, xl, xt⟩ (.slice a5' ls.length c5') from A5).keep hb7 z1) ((show SetAt w9.drew w.heap.size ⟨xc, xr, xs, xl, xt⟩ (.slice a len cap) from S5).keep hb7 z05))
      | (go_at_call 28; refine (HX _ _ _ _ _ ((show OwnS w9.drew (W4.heap.size) (.slice a5' ls.length c5') ls from HB.out).below hb7) ho7).out.mono ?_; rintro e w11 ⟨rfl, hb8⟩; have KK2 := And.intro (KK.1.keep hb8 (Nat.lt_of_lt_of_le z1 hb7.size)) (KK.2.keep hb8 (Nat.lt_of_lt_of_le z05 hb7.size))))
    all_goals
      have hbb : Below w9.heap.size w9 w11 := ((Below.refl w9.heap.size w9).drew.trans (hb7.mono (Nat.le_refl _))).trans (hb8.mono hb7.size)
      clear A5 S5 z1 z05 q0 q1 q2 q3 q4 q5 p0 p1 p2 p3 p4 p5 KK KK2 hb7 hb8 ho7
      have g13 := below_trans g12 hbb g12.size
      have hz13 := hbb.size
      replace K0 := (hbb.block (w.heap.size) (by omega)).trans K0
      replace K1 := (hbb.block (w4.heap.size) (by omega)).trans K1
      replace K2 := (hbb.block (w5.heap.size) (by omega)).trans K2
      replace K3 := (hbb.block (w7.heap.size) (by omega)).trans K3
      replace HA := Lib.hid (HA.out.below hbb)
      replace HD := Lib.hid (HD.out.below hbb)
      replace HB := Lib.hid (HB.out.below hbb)
      replace HL := Lib.hid (HL.out.below hbb)
      replace HC := Lib.hid (HC.out.below hbb)
      replace HEE := Lib.hid (HEE.out.below hbb)
      clear hbb
      go_wp2_with fail
      refine (HTL w11 g13).out.mono ?_
      rintro e w12 ⟨v12, rfl, ho12, hb12⟩
      obtain ⟨a12', c12', rfl⟩ := ho12.row.lenv
      have g14 := below_trans g13 hb12 g13.size
      have hz14 := hb12.size
      replace K0 := (hb12.block (w.heap.size) (by omega)).trans K0
      replace K1 := (hb12.block (w4.heap.size) (by omega)).trans K1
      replace K2 := (hb12.block (w5.heap.size) (by omega)).trans K2
      replace K3 := (hb12.block (w7.heap.size) (by omega)).trans K3
      replace HA := Lib.hid (HA.out.below hb12)
      replace HD := Lib.hid (HD.out.below hb12)
      replace HB := Lib.hid (HB.out.below hb12)
      replace HL := Lib.hid (HL.out.below hb12)
      replace HC := Lib.hid (HC.out.below hb12)
      replace HEE := Lib.hid (HEE.out.below hb12)
      clear hb12
      have HM := Lib.hid ho12
      have RM := Lib.hid (show ∀ r, (Value.slice a12' lines.length c12').ownBlock = some r → w11.heap.size ≤ r ∧ r < w12.heap.size from ho12.lt)
      clear ho12
      go_wp2_with fail
      refine (HEL _ _ _ _ w12 HL.out HM.out).out.mono ?_
      rintro e w13 ⟨rfl, hb13⟩
      have g15 := below_trans g14 hb13 g14.size
      have hz15 := hb13.size
      replace K0 := (hb13.block (w.heap.size) (by omega)).trans K0
      replace K1 := (hb13.block (w4.heap.size) (by omega)).trans K1
      replace K2 := (hb13.block (w5.heap.size) (by omega)).trans K2
      replace K3 := (hb13.block (w7.heap.size) (by omega)).trans K3
      replace HA := Lib.hid (HA.out.below hb13)
      replace HD := Lib.hid (HD.out.below hb13)
      replace HB := Lib.hid (HB.out.below hb13)
      replace HL := Lib.hid (HL.out.below hb13)
      replace HC := Lib.hid (HC.out.below hb13)
      replace HEE := Lib.hid (HEE.out.below hb13)
      replace HM := Lib.hid (HM.out.below hb13)
      clear hb13 HEL
      clear HM RM
      obtain ⟨p0, p1, p2, p3, p4, p5⟩ := SetAt.of (x := ⟨xc, xr, xs, xl, xt⟩) (v := .slice a5' ls.length c5') K2
      go_wp2_with fail
      clear p0 p1 p2 p3 p4 p5
      refine (HMX _ _ w13 HB.out).out.mono ?_
      rintro e w14 ⟨rfl, ho14, hb14⟩
      have g16 := g15.grown hb14 g15.size (fun r hr => by have := (RB.out r hr).1; omega)
      have hz16 := hb14.size
      replace K0 := (hb14.block (w.heap.size) (by omega) (fun e => by have := RB.out _ e.symm; omega)).trans K0
      replace K1 := (hb14.block (w4.heap.size) (by omega) (fun e => by have := RB.out _ e.symm; omega)).trans K1
      replace K2 := (hb14.block (w5.heap.size) (by omega) (fun e => by have := RB.out _ e.symm; omega)).trans K2
      replace K3 := (hb14.block (w7.heap.size) (by omega) (fun e => by have := RB.out _ e.symm; omega)).trans K3
      replace HA := Lib.hid (HA.out.kept hb14 (own_ne RA.out RB.out (by omega)))
      replace HD := Lib.hid (HD.out.kept hb14 (own_ne_bs HD.out HB.out))
      replace HL := Lib.hid (HL.out.kept hb14 (own_ne RL.out RB.out (by omega)))
      replace HC := Lib.hid (HC.out.kept hb14 (own_ne RC.out RB.out (by omega)))
      replace HEE := Lib.hid (HEE.out.kept hb14 (own_ne_bs HEE.out HB.out))
      clear hb14 ho14
      clear HB RB HX HMX
      go_wp2_with fail
      refine (HML _ _ w14 HL.out).out.mono ?_
      rintro e w15 ⟨rfl, ho15, hb15⟩
      have g17 := g16.grown hb15 g16.size (fun r hr => by have := (RL.out r hr).1; omega)
      have hz17 := hb15.size
      replace K0 := (hb15.block (w.heap.size) (by omega) (fun e => by have := RL.out _ e.symm; omega)).trans K0
      replace K1 := (hb15.block (w4.heap.size) (by omega) (fun e => by have := RL.out _ e.symm; omega)).trans K1
      replace K2 := (hb15.block (w5.heap.size) (by omega) (fun e => by have := RL.out _ e.symm; omega)).trans K2
      replace K3 := (hb15.block (w7.heap.size) (by omega) (fun e => by have := RL.out _ e.symm; omega)).trans K3
      replace HA := Lib.hid (HA.out.kept hb15 (own_ne RA.out RL.out (by omega)))
      replace HD := Lib.hid (HD.out.kept hb15 (own_ne_bs HD.out HL.out))
      replace HC := Lib.hid (HC.out.kept hb15 (own_ne RC.out RL.out (by omega)))
      replace HEE := Lib.hid (HEE.out.kept hb15 (own_ne_bs HEE.out HL.out))
      clear hb15 ho15
      clear HL RL HML
      obtain ⟨p0, p1, p2, p3, p4, p5⟩ := SetAt.of (x := ⟨yc, yr, ys, yl, yt⟩) (v := .slice a7' out.length c7') K3
      obtain ⟨q0, q1, q2, q3, q4, q5⟩ := SetAt.of (x := ⟨yc, yr, ys, yl, yt⟩) (v := .slice a4' out.length c4') K1
      go_wp2_with fail
      clear p0 p1 p2 p3 p4 p5 q0 q1 q2 q3 q4 q5
      refine (HE _ _ _ _ w15 HC.out HA.out).out.mono ?_
      rintro e w16 ⟨rfl, hb16⟩
      have g18 := below_trans g17 hb16 g17.size
      have hz18 := hb16.size
      replace K0 := (hb16.block (w.heap.size) (by omega)).trans K0
      replace K1 := (hb16.block (w4.heap.size) (by omega)).trans K1
      replace K2 := (hb16.block (w5.heap.size) (by omega)).trans K2
      replace K3 := (hb16.block (w7.heap.size) (by omega)).trans K3
      replace HA := Lib.hid (HA.out.below hb16)
      replace HD := Lib.hid (HD.out.below hb16)
      replace HC := Lib.hid (HC.out.below hb16)
      replace HEE := Lib.hid (HEE.out.below hb16)
      clear hb16
      go_wp2_with fail
      refine (HEB _ _ w16 HEE.out.row HD.out.row).out.mono ?_
      rintro e w17 ⟨rfl, hb17⟩
      have g19 := below_trans g18 hb17 g18.size
      have hz19 := hb17.size
      replace K0 := (hb17.block (w.heap.size) (by omega)).trans K0
      replace K1 := (hb17.block (w4.heap.size) (by omega)).trans K1
      replace K2 := (hb17.block (w5.heap.size) (by omega)).trans K2
      replace K3 := (hb17.block (w7.heap.size) (by omega)).trans K3
      replace HA := Lib.hid (HA.out.below hb17)
      replace HD := Lib.hid (HD.out.below hb17)
      replace HC := Lib.hid (HC.out.below hb17)
      replace HEE := Lib.hid (HEE.out.below hb17)
      clear hb17
      obtain ⟨p0, p1, p2, p3, p4, p5⟩ := SetAt.of (x := ⟨yc, yr, ys, yl, yt⟩) (v := .slice a7' out.length c7') K3
      go_wp2_with fail
      clear p0 p1 p2 p3 p4 p5
      refine (HMY _ _ w17 HC.out).out.mono ?_
      rintro e w18 ⟨rfl, ho18, hb18⟩
      have g20 := g19.grown hb18 g19.size (fun r hr => by have := (RC.out r hr).1; omega)
      have hz20 := hb18.size
      replace K0 := (hb18.block (w.heap.size) (by omega) (fun e => by have := RC.out _ e.symm; omega)).trans K0
      replace K1 := (hb18.block (w4.heap.size) (by omega) (fun e => by have := RC.out _ e.symm; omega)).trans K1
      replace K2 := (hb18.block (w5.heap.size) (by omega) (fun e => by have := RC.out _ e.symm; omega)).trans K2
      replace K3 := (hb18.block (w7.heap.size) (by omega) (fun e => by have := RC.out _ e.symm; omega)).trans K3
      replace HA := Lib.hid (HA.out.kept hb18 (own_ne RA.out RC.out (by omega)))
      replace HD := Lib.hid (HD.out.kept hb18 (own_ne_bs HD.out HC.out))
      replace HEE := Lib.hid (HEE.out.kept hb18 (own_ne_bs HEE.out HC.out))
      clear hb18
      replace HC := Lib.hid ho18
      clear ho18
      go_wp2_with fail
      refine (HMB _ _ w18 HEE.out).out.mono ?_
      rintro e w19 ⟨rfl, ho19, hb19⟩
      have g21 := g20.grown hb19 g20.size (fun r hr => by have := (REE.out r hr).1; omega)
      have hz21 := hb19.size
      replace K0 := (hb19.block (w.heap.size) (by omega) (fun e => by have := REE.out _ e.symm; omega)).trans K0
      replace K1 := (hb19.block (w4.heap.size) (by omega) (fun e => by have := REE.out _ e.symm; omega)).trans K1
      replace K2 := (hb19.block (w5.heap.size) (by omega) (fun e => by have := REE.out _ e.symm; omega)).trans K2
      replace K3 := (hb19.block (w7.heap.size) (by omega) (fun e => by have := REE.out _ e.symm; omega)).trans K3
      replace HA := Lib.hid (HA.out.kept hb19 (own_ne_sb HA.out HEE.out))
      replace HD := Lib.hid (HD.out.kept hb19 (own_ne RD.out REE.out (by omega)))
      replace HC := Lib.hid (HC.out.kept hb19 (own_ne_sb HC.out HEE.out))
      clear hb19
      replace HEE := Lib.hid ho19
      clear ho19
      obtain ⟨p0, p1, p2, p3, p4, p5⟩ := SetAt.of (x := ⟨yc, yr, ys, yl, yt⟩) (v := .slice a7' out.length c7') K3
      go_wp2_with fail
      clear p0 p1 p2 p3 p4 p5
      refine (HHY _ _ w19 HC.out).out.mono ?_
      rintro e w20 ⟨rfl, hb20⟩
      have g22 := below_trans g21 hb20 g21.size
      have hz22 := hb20.size
      replace K0 := (hb20.block (w.heap.size) (by omega)).trans K0
      replace K1 := (hb20.block (w4.heap.size) (by omega)).trans K1
      replace K2 := (hb20.block (w5.heap.size) (by omega)).trans K2
      replace K3 := (hb20.block (w7.heap.size) (by omega)).trans K3
      replace HA := Lib.hid (HA.out.below hb20)
      replace HD := Lib.hid (HD.out.below hb20)
      replace HC := Lib.hid (HC.out.below hb20)
      replace HEE := Lib.hid (HEE.out.below hb20)
      clear hb20
      go_wp2_with fail
      refine (HHB _ w20 HEE.out.row).out.mono ?_
      rintro e w21 ⟨rfl, hb21⟩
      have g23 := below_trans g22 hb21 g22.size
      have hz23 := hb21.size
      replace K0 := (hb21.block (w.heap.size) (by omega)).trans K0
      replace K1 := (hb21.block (w4.heap.size) (by omega)).trans K1
      replace K2 := (hb21.block (w5.heap.size) (by omega)).trans K2
      replace K3 := (hb21.block (w7.heap.size) (by omega)).trans K3
      replace HA := Lib.hid (HA.out.below hb21)
      replace HD := Lib.hid (HD.out.below hb21)
      replace HC := Lib.hid (HC.out.below hb21)
      replace HEE := Lib.hid (HEE.out.below hb21)
      clear hb21
      obtain ⟨p0, p1, p2, p3, p4, p5⟩ := SetAt.of (x := ⟨xc, xr, xs, xl, xt⟩) (v := .slice a len cap) K0
      go_wp2_with fail
      clear p0 p1 p2 p3 p4 p5
      refine (HT w21 g23).out.mono ?_
      rintro e w22 ⟨v22, rfl, ho22, hb22⟩
      obtain ⟨a22', c22', rfl⟩ := ho22.row.lenv
      have g24 := below_trans g23 hb22 g23.size
      have hz24 := hb22.size
      replace K0 := (hb22.block (w.heap.size) (by omega)).trans K0
      replace K1 := (hb22.block (w4.heap.size) (by omega)).trans K1
      replace K2 := (hb22.block (w5.heap.size) (by omega)).trans K2
      replace K3 := (hb22.block (w7.heap.size) (by omega)).trans K3
      replace HA := Lib.hid (HA.out.below hb22)
      replace HD := Lib.hid (HD.out.below hb22)
      replace HC := Lib.hid (HC.out.below hb22)
      replace HEE := Lib.hid (HEE.out.below hb22)
      clear hb22
      have HP := Lib.hid ho22
      have RP := Lib.hid (show ∀ r, (Value.slice a22' ls.length c22').ownBlock = some r → w21.heap.size ≤ r ∧ r < w22.heap.size from ho22.lt)
      clear ho22
      go_wp2_with fail
      refine (HTL w22 g24).out.mono ?_
      rintro e w23 ⟨v23, rfl, ho23, hb23⟩
      obtain ⟨a23', c23', rfl⟩ := ho23.row.lenv
      have g25 := below_trans g24 hb23 g24.size
      have hz25 := hb23.size
      replace K0 := (hb23.block (w.heap.size) (by omega)).trans K0
      replace K1 := (hb23.block (w4.heap.size) (by omega)).trans K1
      replace K2 := (hb23.block (w5.heap.size) (by omega)).trans K2
      replace K3 := (hb23.block (w7.heap.size) (by omega)).trans K3
      replace HA := Lib.hid (HA.out.below hb23)
      replace HD := Lib.hid (HD.out.below hb23)
      replace HC := Lib.hid (HC.out.below hb23)
      replace HEE := Lib.hid (HEE.out.below hb23)
      replace HP := Lib.hid (HP.out.below hb23)
      clear hb23
      have HQ := Lib.hid ho23
      have RQ := Lib.hid (show ∀ r, (Value.slice a23' lines.length c23').ownBlock = some r → w22.heap.size ≤ r ∧ r < w23.heap.size from ho23.lt)
      clear ho23
      go_wp2_with fail
      refine (HI _ _ w23 HP.out.row HQ.out.row g25).out.mono ?_
      rintro e w24 ⟨v24, d24, rfl, ho24, hd24, hb24⟩
      obtain ⟨a24', c24', rfl⟩ := ho24.row.lenv
      obtain ⟨e24', f24', hh⟩ := hd24.row.lenv
      subst hh
      have g26 := below_trans g25 hb24 g25.size
      have hz26 := hb24.size
      replace K0 := (hb24.block (w.heap.size) (by omega)).trans K0
      replace K1 := (hb24.block (w4.heap.size) (by omega)).trans K1
      replace K2 := (hb24.block (w5.heap.size) (by omega)).trans K2
      replace K3 := (hb24.block (w7.heap.size) (by omega)).trans K3
      replace HA := Lib.hid (HA.out.below hb24)
      replace HD := Lib.hid (HD.out.below hb24)
      replace HC := Lib.hid (HC.out.below hb24)
      replace HEE := Lib.hid (HEE.out.below hb24)
      replace HP := Lib.hid (HP.out.below hb24)
      replace HQ := Lib.hid (HQ.out.below hb24)
      clear hb24 HI
      have HF := Lib.hid ho24
      have RF := Lib.hid (show ∀ r, (Value.slice a24' out.length c24').ownBlock = some r → w23.heap.size ≤ r ∧ r < w24.heap.size from ho24.lt)
      clear ho24
      have HG := Lib.hid hd24
      have RG := Lib.hid (show ∀ r, (Value.slice e24' bs.length f24').ownBlock = some r → w23.heap.size ≤ r ∧ r < w24.heap.size from hd24.lt)
      clear hd24
      clear HP RP
      clear HQ RQ
      have K4 := heap_alloc_new w24 (.cells #[.int .i64 yc, .int .i64 yr, .float .f32 ys, .float .f32 yl, .float .f32 yt, .slice a24' out.length c24'] 27)
      replace K0 := (alloc_keeps w24 (.cells #[.int .i64 yc, .int .i64 yr, .float .f32 ys, .float .f32 yl, .float .f32 yt, .slice a24' out.length c24'] 27) (show w.heap.size < w24.heap.size by omega)).trans K0
      replace K1 := (alloc_keeps w24 (.cells #[.int .i64 yc, .int .i64 yr, .float .f32 ys, .float .f32 yl, .float .f32 yt, .slice a24' out.length c24'] 27) (show w4.heap.size < w24.heap.size by omega)).trans K1
      replace K2 := (alloc_keeps w24 (.cells #[.int .i64 yc, .int .i64 yr, .float .f32 ys, .float .f32 yl, .float .f32 yt, .slice a24' out.length c24'] 27) (show w5.heap.size < w24.heap.size by omega)).trans K2
      replace K3 := (alloc_keeps w24 (.cells #[.int .i64 yc, .int .i64 yr, .float .f32 ys, .float .f32 yl, .float .f32 yt, .slice a24' out.length c24'] 27) (show w7.heap.size < w24.heap.size by omega)).trans K3
      replace HA := Lib.hid (HA.out.alloc (.cells #[.int .i64 yc, .int .i64 yr, .float .f32 ys, .float .f32 yl, .float .f32 yt, .slice a24' out.length c24'] 27))
      replace HD := Lib.hid (HD.out.alloc (.cells #[.int .i64 yc, .int .i64 yr, .float .f32 ys, .float .f32 yl, .float .f32 yt, .slice a24' out.length c24'] 27))
      replace HC := Lib.hid (HC.out.alloc (.cells #[.int .i64 yc, .int .i64 yr, .float .f32 ys, .float .f32 yl, .float .f32 yt, .slice a24' out.length c24'] 27))
      replace HEE := Lib.hid (HEE.out.alloc (.cells #[.int .i64 yc, .int .i64 yr, .float .f32 ys, .float .f32 yl, .float .f32 yt, .slice a24' out.length c24'] 27))
      replace HF := Lib.hid (HF.out.alloc (.cells #[.int .i64 yc, .int .i64 yr, .float .f32 ys, .float .f32 yl, .float .f32 yt, .slice a24' out.length c24'] 27))
      replace HG := Lib.hid (HG.out.alloc (.cells #[.int .i64 yc, .int .i64 yr, .float .f32 ys, .float .f32 yl, .float .f32 yt, .slice a24' out.length c24'] 27))
      have g27 := g26.alloc g26.size (.cells #[.int .i64 yc, .int .i64 yr, .float .f32 ys, .float .f32 yl, .float .f32 yt, .slice a24' out.length c24'] 27)
      have hz27 : (w24.alloc (.cells #[.int .i64 yc, .int .i64 yr, .float .f32 ys, .float .f32 yl, .float .f32 yt, .slice a24' out.length c24'] 27)).heap.size = w24.heap.size + 1 := by simp
      obtain ⟨p0, p1, p2, p3, p4, p5⟩ := SetAt.of (x := ⟨yc, yr, ys, yl, yt⟩) (v := .slice a24' out.length c24') K4
      obtain ⟨q0, q1, q2, q3, q4, q5⟩ := SetAt.of (x := ⟨yc, yr, ys, yl, yt⟩) (v := .slice a4' out.length c4') K1
      go_wp2_with fail
      generalize World.alloc w24 _ = W20 at *
      clear p0 p1 p2 p3 p4 p5 q0 q1 q2 q3 q4 q5
      refine (HE _ _ _ _ W20 HF.out HA.out).out.mono ?_
      rintro e w25 ⟨rfl, hb25⟩
      have g28 := below_trans g27 hb25 g27.size
      have hz28 := hb25.size
      replace K0 := (hb25.block (w.heap.size) (by omega)).trans K0
      replace K1 := (hb25.block (w4.heap.size) (by omega)).trans K1
      replace K2 := (hb25.block (w5.heap.size) (by omega)).trans K2
      replace K3 := (hb25.block (w7.heap.size) (by omega)).trans K3
      replace K4 := (hb25.block (w24.heap.size) (by omega)).trans K4
      replace HA := Lib.hid (HA.out.below hb25)
      replace HD := Lib.hid (HD.out.below hb25)
      replace HC := Lib.hid (HC.out.below hb25)
      replace HEE := Lib.hid (HEE.out.below hb25)
      replace HF := Lib.hid (HF.out.below hb25)
      replace HG := Lib.hid (HG.out.below hb25)
      clear hb25
      go_wp2_with fail
      refine (HEB _ _ w25 HG.out.row HD.out.row).out.mono ?_
      rintro e w26 ⟨rfl, hb26⟩
      have g29 := below_trans g28 hb26 g28.size
      have hz29 := hb26.size
      replace K0 := (hb26.block (w.heap.size) (by omega)).trans K0
      replace K1 := (hb26.block (w4.heap.size) (by omega)).trans K1
      replace K2 := (hb26.block (w5.heap.size) (by omega)).trans K2
      replace K3 := (hb26.block (w7.heap.size) (by omega)).trans K3
      replace K4 := (hb26.block (w24.heap.size) (by omega)).trans K4
      replace HA := Lib.hid (HA.out.below hb26)
      replace HD := Lib.hid (HD.out.below hb26)
      replace HC := Lib.hid (HC.out.below hb26)
      replace HEE := Lib.hid (HEE.out.below hb26)
      replace HF := Lib.hid (HF.out.below hb26)
      replace HG := Lib.hid (HG.out.below hb26)
      clear hb26
      obtain ⟨p0, p1, p2, p3, p4, p5⟩ := SetAt.of (x := ⟨yc, yr, ys, yl, yt⟩) (v := .slice a7' out.length c7') K3
      go_wp2_with fail
      clear p0 p1 p2 p3 p4 p5
      refine (HHY _ _ w26 HC.out).out.mono ?_
      rintro e w27 ⟨rfl, hb27⟩
      have g30 := below_trans g29 hb27 g29.size
      have hz30 := hb27.size
      replace K0 := (hb27.block (w.heap.size) (by omega)).trans K0
      replace K1 := (hb27.block (w4.heap.size) (by omega)).trans K1
      replace K2 := (hb27.block (w5.heap.size) (by omega)).trans K2
      replace K3 := (hb27.block (w7.heap.size) (by omega)).trans K3
      replace K4 := (hb27.block (w24.heap.size) (by omega)).trans K4
      replace HA := Lib.hid (HA.out.below hb27)
      replace HD := Lib.hid (HD.out.below hb27)
      replace HC := Lib.hid (HC.out.below hb27)
      replace HEE := Lib.hid (HEE.out.below hb27)
      replace HF := Lib.hid (HF.out.below hb27)
      replace HG := Lib.hid (HG.out.below hb27)
      clear hb27
      go_wp2_with fail
      refine (HHB _ w27 HEE.out.row).out.mono ?_
      rintro e w28 ⟨rfl, hb28⟩
      have g31 := below_trans g30 hb28 g30.size
      have hz31 := hb28.size
      replace K0 := (hb28.block (w.heap.size) (by omega)).trans K0
      replace K1 := (hb28.block (w4.heap.size) (by omega)).trans K1
      replace K2 := (hb28.block (w5.heap.size) (by omega)).trans K2
      replace K3 := (hb28.block (w7.heap.size) (by omega)).trans K3
      replace K4 := (hb28.block (w24.heap.size) (by omega)).trans K4
      replace HA := Lib.hid (HA.out.below hb28)
      replace HD := Lib.hid (HD.out.below hb28)
      replace HC := Lib.hid (HC.out.below hb28)
      replace HEE := Lib.hid (HEE.out.below hb28)
      replace HF := Lib.hid (HF.out.below hb28)
      replace HG := Lib.hid (HG.out.below hb28)
      clear hb28
      go_wp2
      go_ret
      exact ⟨rfl, g31⟩
theorem tabS_ofT {W : World} (h : laidMetH Tryd.prog Rows.fnExactTuneAllRow.laid W) : TabS W := by
  have h1 := laidMetH.filter (fun x => x.1 == "strings.asciiSpace") h
  rw [MakeChecks.laidMetH_plain _ _ _ (by kernel_rfl)] at h1
  exact tabS_one (rest := []) h1
end Go.Proofs.YtobpnoiienpipaaDoor
