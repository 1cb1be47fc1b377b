/-
  What is proved: the walk of the law FnExactRetune.
  Conditions: the library's table of spaces holds what its initialiser lays.
-/
import Derived.Test.YtobpnoiienpipaaDoorRetuneS
import Derived.Test.YtobpnoiienpipaaDoorSOpen
import Derived.Deep.RegionHeld3
namespace Go.Proofs.YtobpnoiienpipaaDoor
set_option linter.unusedVariables false
open Go.RowKit
attribute [local go_sem] run_store_float run_store_complex unary_negf neg256

theorem szT_small {ls : List (List UInt8)} {left : Nat} (h : ¬ szT ls left < 0) : totT ls ≤ left := by
  unfold szT at h
  split at h
  · assumption
  · exact absurd (by decide) h
theorem totT_len (ls : List (List UInt8)) : ls.length ≤ totT ls := by unfold totT; omega
theorem totT_mem {ls : List (List UInt8)} {l : List UInt8} (h : l ∈ ls) : l.length ≤ totT ls := by
  have h1 : ∀ (L : List (List UInt8)), l ∈ L → l.length ≤ (L.map List.length).sum := by
    intro L
    induction L with
    | nil => intro h; cases h
    | cons x r ih =>
      intro h
      rw [List.map_cons, List.sum_cons]
      rcases List.mem_cons.1 h with rfl | h
      · omega
      · have := ih h; omega
  have := h1 ls h
  unfold totT
  omega
theorem short_of {ls : List (List UInt8)} {left : Nat} (h : totT ls ≤ left) (hl : left ≤ 1048576) : Short ls := ⟨by have := totT_len ls; omega, fun l hm => by have := totT_mem hm; omega⟩
theorem own_ne {v v' : Value} {a b c d : Nat} (h : ∀ r, v.ownBlock = some r → a ≤ r ∧ r < b) (h' : ∀ r, v'.ownBlock = some r → c ≤ r ∧ r < d) (hd : b ≤ c ∨ d ≤ a) : v.ownBlock = none ∨ v.ownBlock ≠ v'.ownBlock := by
  cases hv : v.ownBlock with
  | none => exact .inl rfl
  | some r =>
    refine .inr fun e => ?_
    have h1 := h r hv
    have h2 := h' r e.symm
    omega

set_option maxRecDepth 100000 in
set_option maxHeartbeats 4000000 in
theorem walk_FnExactRetune (c r : Int) (a1 : Option Addr) (len1 cap1 : Nat) (log : List (List UInt8)) (w : World) (wc : (Lit.int .i64 c).wf = true) (wr : (Lit.int .i64 r).wf = true)
    (ht1 : TRow w (.slice a1 len1 cap1) log) (hm1 : ∀ l ∈ log, l.length ≤ maxLen) (hl1 : log.length = len1) (hc1 : len1 ≤ maxLen) (htab : TabS w) :
    Calls Tryd.prog 8 #[.int .i64 c, .int .i64 r, .slice a1 len1 cap1] w fun e w' => e = .returned (.bool true) ∧ Below w.heap.size w w' := by
  have hc : I64 c := by simpa [I64, Lit.wf, IntKind.min, IntKind.max, IntKind.signed, IntKind.bits] using wc
  have hr : I64 r := by simpa [I64, Lit.wf, IntKind.min, IntKind.max, IntKind.signed, IntKind.bits] using wr
  have HZ1 := Lib.hid (szStringS_any (.slice a1 len1 cap1) log 1048576 w ht1 hm1 (by omega) (by omega))
  rw [show ((1048576 : Nat) : Int) = 1048576 from rfl] at HZ1
  by_cases hneg1 : szT log 1048576 < 0
  · generalize szT log 1048576 = z1 at *
    clear htab ht1 hm1 hl1 hc1 wc wr hc hr
    go_enter Tryd.func8, Tryd.ntmps8
    go_wp2_with fail
    refine HZ1.out.mono ?_
    rintro e w2 ⟨rfl, rfl⟩
    go_wp2
    go_ret
    exact ⟨rfl, Below.refl _ _⟩
  · have hsh1 : Short log := short_of (szT_small hneg1) (by omega)
    have hlen1 := hsh1.1
    have hfine := retuneR_fine (log := log) hc hr
    generalize szT log 1048576 = z1 at *
    have HTL := fun W (hW : Below w.heap.size w W) => Lib.hid (toStringS_any (.slice a1 len1 cap1) log W (ht1.below hW) hlen1)
    have HS := fun u W h' => Lib.hid (specRetune_any c r u log W hc hr h' hsh1)
    have HI := fun u W h' (hbW : Below w.heap.size w W) => Lib.hid (retune_any c r u log W hc hr h' hsh1 (htab.below hbW))
    unfold RetPost at HS HI
    generalize retuneR c r log = R at *
    obtain ⟨⟨y, out⟩, b⟩ := R
    have hout : out.length ≤ 3000000 := hfine.log.1
    have HE := fun v v' b b' W h h' => Lib.hid (eqSet_any y y v v' out b b' W (SetC.Same.refl y) h h' hout)
    have HEL := fun v v' b b' W h h' => Lib.hid (eqStringS_any v v' log b b' W h h' hlen1)
    have HML := fun base v W h => Lib.hid (markStringS_any 1 base v log W h (by omega) (by omega) hlen1)
    have HMY := fun base v W h => Lib.hid (markSet_any y 1 base v out W h (by decide) (by decide) hout)
    have HHY := fun base v W h => Lib.hid (heldSet_any y 1 out.length base v W h (by decide) (by decide) hout)
    have hbase : Below w.heap.size w w := Below.refl _ _
    obtain ⟨yc, yr, ys, yl, yt⟩ := y
    simp only [SetC.val, SetC.cells] at *
    clear htab hfine ht1 hm1 hl1 hc1 hsh1 wc wr hc hr
    go_enter Tryd.func8, Tryd.ntmps8
    go_wp2_with fail
    refine HZ1.out.mono ?_
    rintro e w1 ⟨rfl, rfl⟩
    clear HZ1
    go_wp2_with fail
    refine (HTL w hbase).out.mono ?_
    rintro e w1 ⟨v1, rfl, ho1, hb1⟩
    obtain ⟨a1', c1', rfl⟩ := ho1.row.lenv
    clear hneg1
    have g1 := below_trans hbase hb1 hbase.size
    have hz1 := hb1.size
    clear hb1
    have HQ := Lib.hid ho1
    have RQ := Lib.hid (show ∀ r, (Value.slice a1' log.length c1').ownBlock = some r → w.heap.size ≤ r ∧ r < w1.heap.size from ho1.lt)
    clear ho1
    go_wp2_with fail
    refine (HS _ w1 HQ.out.row).out.mono ?_
    rintro e w2 ⟨v2, rfl, ho2, hb2⟩
    obtain ⟨a2', c2', rfl⟩ := ho2.row.lenv
    have g2 := below_trans g1 hb2 g1.size
    have hz2 := hb2.size
    replace HQ := Lib.hid (HQ.out.below hb2)
    clear hb2
    have HA := Lib.hid ho2
    have RA := Lib.hid (show ∀ r, (Value.slice a2' out.length c2').ownBlock = some r → w1.heap.size ≤ r ∧ r < w2.heap.size from ho2.lt)
    clear ho2
    clear HQ RQ HS
    have K1 := heap_alloc_new w2 (.cells #[.int .i64 yc, .int .i64 yr, .float .f32 ys, .float .f32 yl, .float .f32 yt, .slice a2' out.length c2'] 27)
    replace HA := Lib.hid (HA.out.alloc (.cells #[.int .i64 yc, .int .i64 yr, .float .f32 ys, .float .f32 yl, .float .f32 yt, .slice a2' out.length c2'] 27))
    have g3 := g2.alloc g2.size (.cells #[.int .i64 yc, .int .i64 yr, .float .f32 ys, .float .f32 yl, .float .f32 yt, .slice a2' out.length c2'] 27)
    have hz3 : (w2.alloc (.cells #[.int .i64 yc, .int .i64 yr, .float .f32 ys, .float .f32 yl, .float .f32 yt, .slice a2' out.length c2'] 27)).heap.size = w2.heap.size + 1 := by simp
    go_wp2_with fail
    generalize World.alloc w2 _ = W3 at *
    refine (HTL W3 g3).out.mono ?_
    rintro e w3 ⟨v3, rfl, ho3, hb3⟩
    obtain ⟨a3', c3', rfl⟩ := ho3.row.lenv
    have g4 := below_trans g3 hb3 g3.size
    have hz4 := hb3.size
    replace K1 := (hb3.block (w2.heap.size) (by omega)).trans K1
    replace HA := Lib.hid (HA.out.below hb3)
    clear hb3
    have HL := Lib.hid ho3
    have RL := Lib.hid (show ∀ r, (Value.slice a3' log.length c3').ownBlock = some r → W3.heap.size ≤ r ∧ r < w3.heap.size from ho3.lt)
    clear ho3
    go_wp2_with fail
    refine (HI _ w3 HL.out.row g4).out.mono ?_
    rintro e w4 ⟨v4, rfl, ho4, hb4⟩
    obtain ⟨a4', c4', rfl⟩ := ho4.row.lenv
    have g5 := below_trans g4 hb4 g4.size
    have hz5 := hb4.size
    replace K1 := (hb4.block (w2.heap.size) (by omega)).trans K1
    replace HA := Lib.hid (HA.out.below hb4)
    replace HL := Lib.hid (HL.out.below hb4)
    clear hb4
    have HC := Lib.hid ho4
    have RC := Lib.hid (show ∀ r, (Value.slice a4' out.length c4').ownBlock = some r → w3.heap.size ≤ r ∧ r < w4.heap.size from ho4.lt)
    clear ho4
    have K3 := heap_alloc_new w4 (.cells #[.int .i64 yc, .int .i64 yr, .float .f32 ys, .float .f32 yl, .float .f32 yt, .slice a4' out.length c4'] 27)
    replace K1 := (alloc_keeps w4 (.cells #[.int .i64 yc, .int .i64 yr, .float .f32 ys, .float .f32 yl, .float .f32 yt, .slice a4' out.length c4'] 27) (show w2.heap.size < w4.heap.size by omega)).trans K1
    replace HA := Lib.hid (HA.out.alloc (.cells #[.int .i64 yc, .int .i64 yr, .float .f32 ys, .float .f32 yl, .float .f32 yt, .slice a4' out.length c4'] 27))
    replace HL := Lib.hid (HL.out.alloc (.cells #[.int .i64 yc, .int .i64 yr, .float .f32 ys, .float .f32 yl, .float .f32 yt, .slice a4' out.length c4'] 27))
    replace HC := Lib.hid (HC.out.alloc (.cells #[.int .i64 yc, .int .i64 yr, .float .f32 ys, .float .f32 yl, .float .f32 yt, .slice a4' out.length c4'] 27))
    have g6 := g5.alloc g5.size (.cells #[.int .i64 yc, .int .i64 yr, .float .f32 ys, .float .f32 yl, .float .f32 yt, .slice a4' out.length c4'] 27)
    have hz6 : (w4.alloc (.cells #[.int .i64 yc, .int .i64 yr, .float .f32 ys, .float .f32 yl, .float .f32 yt, .slice a4' out.length c4'] 27)).heap.size = w4.heap.size + 1 := by simp
    obtain ⟨p0, p1, p2, p3, p4, p5⟩ := SetAt.of (x := ⟨yc, yr, ys, yl, yt⟩) (v := .slice a4' out.length c4') K3
    obtain ⟨q0, q1, q2, q3, q4, q5⟩ := SetAt.of (x := ⟨yc, yr, ys, yl, yt⟩) (v := .slice a2' out.length c2') K1
    go_wp2_with fail
    generalize World.alloc w4 _ = W7 at *
    clear p0 p1 p2 p3 p4 p5 q0 q1 q2 q3 q4 q5
    refine (HE _ _ _ _ W7 HC.out HA.out).out.mono ?_
    rintro e w5 ⟨rfl, hb5⟩
    have g7 := below_trans g6 hb5 g6.size
    have hz7 := hb5.size
    replace K1 := (hb5.block (w2.heap.size) (by omega)).trans K1
    replace K3 := (hb5.block (w4.heap.size) (by omega)).trans K3
    replace HA := Lib.hid (HA.out.below hb5)
    replace HL := Lib.hid (HL.out.below hb5)
    replace HC := Lib.hid (HC.out.below hb5)
    clear hb5
    go_wp2_with fail
    refine (HTL w5 g7).out.mono ?_
    rintro e w6 ⟨v6, rfl, ho6, hb6⟩
    obtain ⟨a6', c6', rfl⟩ := ho6.row.lenv
    have g8 := below_trans g7 hb6 g7.size
    have hz8 := hb6.size
    replace K1 := (hb6.block (w2.heap.size) (by omega)).trans K1
    replace K3 := (hb6.block (w4.heap.size) (by omega)).trans K3
    replace HA := Lib.hid (HA.out.below hb6)
    replace HL := Lib.hid (HL.out.below hb6)
    replace HC := Lib.hid (HC.out.below hb6)
    clear hb6
    have HM := Lib.hid ho6
    have RM := Lib.hid (show ∀ r, (Value.slice a6' log.length c6').ownBlock = some r → w5.heap.size ≤ r ∧ r < w6.heap.size from ho6.lt)
    clear ho6
    go_wp2_with fail
    refine (HEL _ _ _ _ w6 HL.out HM.out).out.mono ?_
    rintro e w7 ⟨rfl, hb7⟩
    have g9 := below_trans g8 hb7 g8.size
    have hz9 := hb7.size
    replace K1 := (hb7.block (w2.heap.size) (by omega)).trans K1
    replace K3 := (hb7.block (w4.heap.size) (by omega)).trans K3
    replace HA := Lib.hid (HA.out.below hb7)
    replace HL := Lib.hid (HL.out.below hb7)
    replace HC := Lib.hid (HC.out.below hb7)
    replace HM := Lib.hid (HM.out.below hb7)
    clear hb7 HEL
    clear HM RM
    go_wp2_with fail
    refine (HML _ _ w7 HL.out).out.mono ?_
    rintro e w8 ⟨rfl, ho8, hb8⟩
    have g10 := g9.grown hb8 g9.size (fun r hr => by have := (RL.out r hr).1; omega)
    have hz10 := hb8.size
    replace K1 := (hb8.block (w2.heap.size) (by omega) (fun e => by have := RL.out _ e.symm; omega)).trans K1
    replace K3 := (hb8.block (w4.heap.size) (by omega) (fun e => by have := RL.out _ e.symm; omega)).trans K3
    replace HA := Lib.hid (HA.out.kept hb8 (own_ne RA.out RL.out (by omega)))
    replace HC := Lib.hid (HC.out.kept hb8 (own_ne RC.out RL.out (by omega)))
    clear hb8 ho8
    clear HL RL HML
    obtain ⟨p0, p1, p2, p3, p4, p5⟩ := SetAt.of (x := ⟨yc, yr, ys, yl, yt⟩) (v := .slice a4' out.length c4') K3
    obtain ⟨q0, q1, q2, q3, q4, q5⟩ := SetAt.of (x := ⟨yc, yr, ys, yl, yt⟩) (v := .slice a2' out.length c2') K1
    go_wp2_with fail
    clear p0 p1 p2 p3 p4 p5 q0 q1 q2 q3 q4 q5
    refine (HE _ _ _ _ w8 HC.out HA.out).out.mono ?_
    rintro e w9 ⟨rfl, hb9⟩
    have g11 := below_trans g10 hb9 g10.size
    have hz11 := hb9.size
    replace K1 := (hb9.block (w2.heap.size) (by omega)).trans K1
    replace K3 := (hb9.block (w4.heap.size) (by omega)).trans K3
    replace HA := Lib.hid (HA.out.below hb9)
    replace HC := Lib.hid (HC.out.below hb9)
    clear hb9
    obtain ⟨p0, p1, p2, p3, p4, p5⟩ := SetAt.of (x := ⟨yc, yr, ys, yl, yt⟩) (v := .slice a4' out.length c4') K3
    go_wp2_with fail
    clear p0 p1 p2 p3 p4 p5
    refine (HMY _ _ w9 HC.out).out.mono ?_
    rintro e w10 ⟨rfl, ho10, hb10⟩
    have g12 := g11.grown hb10 g11.size (fun r hr => by have := (RC.out r hr).1; omega)
    have hz12 := hb10.size
    replace K1 := (hb10.block (w2.heap.size) (by omega) (fun e => by have := RC.out _ e.symm; omega)).trans K1
    replace K3 := (hb10.block (w4.heap.size) (by omega) (fun e => by have := RC.out _ e.symm; omega)).trans K3
    replace HA := Lib.hid (HA.out.kept hb10 (own_ne RA.out RC.out (by omega)))
    clear hb10
    replace HC := Lib.hid ho10
    clear ho10
    obtain ⟨p0, p1, p2, p3, p4, p5⟩ := SetAt.of (x := ⟨yc, yr, ys, yl, yt⟩) (v := .slice a4' out.length c4') K3
    go_wp2_with fail
    clear p0 p1 p2 p3 p4 p5
    refine (HHY _ _ w10 HC.out).out.mono ?_
    rintro e w11 ⟨rfl, hb11⟩
    have g13 := below_trans g12 hb11 g12.size
    have hz13 := hb11.size
    replace K1 := (hb11.block (w2.heap.size) (by omega)).trans K1
    replace K3 := (hb11.block (w4.heap.size) (by omega)).trans K3
    replace HA := Lib.hid (HA.out.below hb11)
    replace HC := Lib.hid (HC.out.below hb11)
    clear hb11
    go_wp2_with fail
    refine (HTL w11 g13).out.mono ?_
    rintro e w12 ⟨v12, rfl, ho12, hb12⟩
    obtain ⟨a12', c12', rfl⟩ := ho12.row.lenv
    have g14 := below_trans g13 hb12 g13.size
    have hz14 := hb12.size
    replace K1 := (hb12.block (w2.heap.size) (by omega)).trans K1
    replace K3 := (hb12.block (w4.heap.size) (by omega)).trans K3
    replace HA := Lib.hid (HA.out.below hb12)
    replace HC := Lib.hid (HC.out.below hb12)
    clear hb12
    have HQ := Lib.hid ho12
    have RQ := Lib.hid (show ∀ r, (Value.slice a12' log.length c12').ownBlock = some r → w11.heap.size ≤ r ∧ r < w12.heap.size from ho12.lt)
    clear ho12
    go_wp2_with fail
    refine (HI _ w12 HQ.out.row g14).out.mono ?_
    rintro e w13 ⟨v13, rfl, ho13, hb13⟩
    obtain ⟨a13', c13', rfl⟩ := ho13.row.lenv
    have g15 := below_trans g14 hb13 g14.size
    have hz15 := hb13.size
    replace K1 := (hb13.block (w2.heap.size) (by omega)).trans K1
    replace K3 := (hb13.block (w4.heap.size) (by omega)).trans K3
    replace HA := Lib.hid (HA.out.below hb13)
    replace HC := Lib.hid (HC.out.below hb13)
    replace HQ := Lib.hid (HQ.out.below hb13)
    clear hb13 HI
    have HF := Lib.hid ho13
    have RF := Lib.hid (show ∀ r, (Value.slice a13' out.length c13').ownBlock = some r → w12.heap.size ≤ r ∧ r < w13.heap.size from ho13.lt)
    clear ho13
    clear HQ RQ
    have K4 := heap_alloc_new w13 (.cells #[.int .i64 yc, .int .i64 yr, .float .f32 ys, .float .f32 yl, .float .f32 yt, .slice a13' out.length c13'] 27)
    replace K1 := (alloc_keeps w13 (.cells #[.int .i64 yc, .int .i64 yr, .float .f32 ys, .float .f32 yl, .float .f32 yt, .slice a13' out.length c13'] 27) (show w2.heap.size < w13.heap.size by omega)).trans K1
    replace K3 := (alloc_keeps w13 (.cells #[.int .i64 yc, .int .i64 yr, .float .f32 ys, .float .f32 yl, .float .f32 yt, .slice a13' out.length c13'] 27) (show w4.heap.size < w13.heap.size by omega)).trans K3
    replace HA := Lib.hid (HA.out.alloc (.cells #[.int .i64 yc, .int .i64 yr, .float .f32 ys, .float .f32 yl, .float .f32 yt, .slice a13' out.length c13'] 27))
    replace HC := Lib.hid (HC.out.alloc (.cells #[.int .i64 yc, .int .i64 yr, .float .f32 ys, .float .f32 yl, .float .f32 yt, .slice a13' out.length c13'] 27))
    replace HF := Lib.hid (HF.out.alloc (.cells #[.int .i64 yc, .int .i64 yr, .float .f32 ys, .float .f32 yl, .float .f32 yt, .slice a13' out.length c13'] 27))
    have g16 := g15.alloc g15.size (.cells #[.int .i64 yc, .int .i64 yr, .float .f32 ys, .float .f32 yl, .float .f32 yt, .slice a13' out.length c13'] 27)
    have hz16 : (w13.alloc (.cells #[.int .i64 yc, .int .i64 yr, .float .f32 ys, .float .f32 yl, .float .f32 yt, .slice a13' out.length c13'] 27)).heap.size = w13.heap.size + 1 := by simp
    obtain ⟨p0, p1, p2, p3, p4, p5⟩ := SetAt.of (x := ⟨yc, yr, ys, yl, yt⟩) (v := .slice a13' out.length c13') K4
    obtain ⟨q0, q1, q2, q3, q4, q5⟩ := SetAt.of (x := ⟨yc, yr, ys, yl, yt⟩) (v := .slice a2' out.length c2') K1
    go_wp2_with fail
    generalize World.alloc w13 _ = W20 at *
    clear p0 p1 p2 p3 p4 p5 q0 q1 q2 q3 q4 q5
    refine (HE _ _ _ _ W20 HF.out HA.out).out.mono ?_
    rintro e w14 ⟨rfl, hb14⟩
    have g17 := below_trans g16 hb14 g16.size
    have hz17 := hb14.size
    replace K1 := (hb14.block (w2.heap.size) (by omega)).trans K1
    replace K3 := (hb14.block (w4.heap.size) (by omega)).trans K3
    replace K4 := (hb14.block (w13.heap.size) (by omega)).trans K4
    replace HA := Lib.hid (HA.out.below hb14)
    replace HC := Lib.hid (HC.out.below hb14)
    replace HF := Lib.hid (HF.out.below hb14)
    clear hb14
    obtain ⟨p0, p1, p2, p3, p4, p5⟩ := SetAt.of (x := ⟨yc, yr, ys, yl, yt⟩) (v := .slice a4' out.length c4') K3
    go_wp2_with fail
    clear p0 p1 p2 p3 p4 p5
    refine (HHY _ _ w14 HC.out).out.mono ?_
    rintro e w15 ⟨rfl, hb15⟩
    have g18 := below_trans g17 hb15 g17.size
    have hz18 := hb15.size
    replace K1 := (hb15.block (w2.heap.size) (by omega)).trans K1
    replace K3 := (hb15.block (w4.heap.size) (by omega)).trans K3
    replace K4 := (hb15.block (w13.heap.size) (by omega)).trans K4
    replace HA := Lib.hid (HA.out.below hb15)
    replace HC := Lib.hid (HC.out.below hb15)
    replace HF := Lib.hid (HF.out.below hb15)
    clear hb15
    go_wp2
    go_ret
    exact ⟨rfl, g18⟩
theorem tabS_ofT {W : World} (h : laidMetH Tryd.prog Rows.fnExactRetuneRow.laid W) : TabS W := by
  have h1 := laidMetH.filter (fun x => x.1 == "strings.asciiSpace") h
  rw [MakeChecks.laidMetH_plain _ _ _ (by kernel_rfl)] at h1
  exact tabS_one (rest := []) h1
end Go.Proofs.YtobpnoiienpipaaDoor
