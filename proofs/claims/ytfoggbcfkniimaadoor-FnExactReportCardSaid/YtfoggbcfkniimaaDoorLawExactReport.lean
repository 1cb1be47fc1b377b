/-
  What is proved: the walk of the law FnExactReport.
  Conditions: none beyond the argument's own.
-/
import Derived.Test.YtfoggbcfkniimaaDoorReportI
import Derived.Deep.RegionHeld3
namespace Go.Proofs.YtfoggbcfkniimaaDoor
set_option linter.unusedVariables false
open Go.RowKit
attribute [local go_sem] run_store_float run_store_complex unary_negf neg256

theorem szT_small {ls : List (List UInt8)} {left : Nat} (h : ¬ szT ls left < 0) : totT ls ≤ left := by
  unfold szT at h
  split at h
  · assumption
  · exact absurd (by decide) h
theorem totT_len (ls : List (List UInt8)) : ls.length ≤ totT ls := by unfold totT; omega
set_option maxRecDepth 100000 in
set_option maxHeartbeats 4000000 in
theorem walk_FnExactReport (x : SetC) (a : Option Addr) (len cap : Nat) (ls : List (List UInt8)) (w : World) (hx : x.ok) (ht : TRow w (.slice a len cap) ls) (hm : ∀ l ∈ ls, l.length ≤ maxLen) (hl : ls.length = len) (hc : len ≤ maxLen) (htab : Tab w) :
    Calls Tryd.prog 9 #[x.val (.slice a len cap)] w fun e w' => e = .returned (.bool true) ∧ Below w.heap.size w w' := by
  have hb0 : Below w.heap.size w (w.alloc (.cells (x.cells (.slice a len cap)) 47)) := (Below.refl _ _).alloc (Nat.le_refl _) _
  have s0 : SetAt (w.alloc (.cells (x.cells (.slice a len cap)) 47)) w.heap.size x (.slice a len cap) := SetAt.new w x _ _
  have z0 : w.heap.size < (w.alloc (.cells (x.cells (.slice a len cap)) 47)).heap.size := by simp
  have HZ := Lib.hid (szSet_any x (.slice a len cap) ls 1048576 _ (ht.below hb0) hm (by omega) (by omega))
  rw [show ((1048576 : Nat) : Int) = 1048576 from rfl] at HZ
  by_cases hneg : szT ls 1048576 < 0
  · generalize szT ls 1048576 = z at *
    obtain ⟨xc, xr, xs, xl, xt⟩ := x
    simp only [SetC.val, SetC.cells] at *
    clear ht hm hx hl hc htab
    obtain ⟨q0, q1, q2, q3, q4, q5⟩ := id s0
    go_enter Tryd.func9, Tryd.ntmps9
    go_wp2_with fail
    generalize World.alloc w _ = W0 at *
    refine HZ.out.mono ?_
    rintro e w1 ⟨rfl, hb1⟩
    go_wp2
    go_ret
    exact ⟨rfl, below_trans hb0 hb1 hb0.size⟩
  · have hlen : ls.length ≤ 3000000 := by have := szT_small hneg; have := totT_len ls; omega
    generalize szT ls 1048576 = z at *
    have HT := fun W (hW : Below w.heap.size w W) => Lib.hid (toSet_any x (.slice a len cap) ls W (ht.below hW) hlen)
    have HS := fun v W h => Lib.hid (specReport_any x v ls W hx h hlen)
    have HI := fun v W h (hbW : Below w.heap.size w W) => Lib.hid (report_any x v ls W hx h hlen (htab.below hbW))
    have HE := fun v v' b b' W h h' => Lib.hid (eqSet_any x x v v' ls b b' W (SetC.Same.refl x) h h' hlen)
    have HB := fun W v t => Lib.hid (SetAt.new W x v t)
    generalize (if setB x ls.length = true then repT x else []) = b at *
    obtain ⟨xc, xr, xs, xl, xt⟩ := x
    simp only [SetC.val, SetC.cells] at *
    clear ht hm hx hl hc htab
    obtain ⟨q0, q1, q2, q3, q4, q5⟩ := id s0
    go_enter Tryd.func9, Tryd.ntmps9
    go_wp2_with fail
    generalize World.alloc w _ = W0 at *
    refine HZ.out.mono ?_
    rintro e w1 ⟨rfl, hb1⟩
    have s1 := s0.keep hb1 z0
    have z01 := Nat.lt_of_lt_of_le z0 hb1.size
    have g1 := below_trans hb0 hb1 hb0.size
    clear q0 q1 q2 q3 q4 q5 s0 z0 hb0 hb1 HZ
    obtain ⟨q0, q1, q2, q3, q4, q5⟩ := id s1
    go_wp2_with fail
    refine (HT w1 g1).out.mono ?_
    rintro e w2 ⟨v2, rfl, ho2, hb2⟩
    have s2 := s1.keep hb2 z01
    have z02 := Nat.lt_of_lt_of_le z01 hb2.size
    have g2 := below_trans g1 hb2 g1.size
    obtain ⟨a2, c2, rfl⟩ := ho2.row.lenv
    have HO := Lib.hid ho2
    clear ho2 hb2 q0 q1 q2 q3 q4 q5 s1 z01 g1
    obtain ⟨q0, q1, q2, q3, q4, q5⟩ := id s2
    go_wp2_with fail
    refine (HS _ w2 HO.out.row).out.mono ?_
    rintro e w3 ⟨rfl, hb3⟩
    have s3 := s2.keep hb3 z02
    have z03 := Nat.lt_of_lt_of_le z02 hb3.size
    have g3 := below_trans g2 hb3 g2.size
    clear hb3 g2 HO q0 q1 q2 q3 q4 q5 s2 z02
    obtain ⟨q0, q1, q2, q3, q4, q5⟩ := id s3
    go_wp2_with fail
    refine (HT w3 g3).out.mono ?_
    rintro e w4 ⟨v4, rfl, ho4, hb4⟩
    have s4 := s3.keep hb4 z03
    have z04 := Nat.lt_of_lt_of_le z03 hb4.size
    have g4 := below_trans g3 hb4 g3.size
    obtain ⟨a4, c4, rfl⟩ := ho4.row.lenv
    have a1 := (HB w4 (.slice a4 ls.length c4) 27).out
    have HO := Lib.hid ((ho4.alloc (.cells #[.int .i64 xc, .int .i64 xr, .float .f32 xs, .float .f32 xl, .float .f32 xt, .slice a4 ls.length c4] 27)))
    have g5 := g4.alloc g4.size (.cells #[.int .i64 xc, .int .i64 xr, .float .f32 xs, .float .f32 xl, .float .f32 xt, .slice a4 ls.length c4] 27)
    have s5 := s4.keep ((Below.refl w4.heap.size w4).alloc (Nat.le_refl _) (.cells #[.int .i64 xc, .int .i64 xr, .float .f32 xs, .float .f32 xl, .float .f32 xt, .slice a4 ls.length c4] 27)) z04
    have z1 : w4.heap.size < (w4.alloc (.cells #[.int .i64 xc, .int .i64 xr, .float .f32 xs, .float .f32 xl, .float .f32 xt, .slice a4 ls.length c4] 27)).heap.size := by simp
    have z05 := Nat.lt_trans z04 z1
    clear ho4 hb4 g4 g3 q0 q1 q2 q3 q4 q5 s3 s4 z03
    obtain ⟨q0, q1, q2, q3, q4, q5⟩ := id a1
    go_wp2_with fail
    generalize World.alloc w4 _ = W4 at *
    refine (HI _ W4 HO.out.row g5).out.mono ?_
    rintro e w5 ⟨rfl, hb5⟩
    have g6 := below_trans g5 hb5 g5.size
    have HO5 := Lib.hid (HO.out.below hb5)
    have A5 := a1.keep hb5 z1
    have S5 := s5.keep hb5 z05
    replace z1 := Nat.lt_of_lt_of_le z1 hb5.size
    replace z05 := Nat.lt_of_lt_of_le z05 hb5.size
    clear q0 q1 q2 q3 q4 q5 a1 hb5 HO g5 s5
    obtain ⟨q0, q1, q2, q3, q4, q5⟩ := id A5
    obtain ⟨p0, p1, p2, p3, p4, p5⟩ := id S5
    go_wp2_with fail
    go_region_held3 (fun V => (V.cell? ⟨w4.heap.size, 0, none⟩ = some (.int .i64 xc) ∧ V.cell? ⟨w4.heap.size, 1, none⟩ = some (.int .i64 xr) ∧ V.cell? ⟨w4.heap.size, 2, none⟩ = some (.float .f32 xs) ∧ V.cell? ⟨w4.heap.size, 3, none⟩ = some (.float .f32 xl) ∧ V.cell? ⟨w4.heap.size, 4, none⟩ = some (.float .f32 xt) ∧ V.cell? ⟨w4.heap.size, 5, none⟩ = some (.slice a4 ls.length c4)) ∧ (V.cell? ⟨w.heap.size, 0, none⟩ = some (.int .i64 xc) ∧ V.cell? ⟨w.heap.size, 1, none⟩ = some (.int .i64 xr) ∧ V.cell? ⟨w.heap.size, 2, none⟩ = some (.float .f32 xs) ∧ V.cell? ⟨w.heap.size, 3, none⟩ = some (.float .f32 xl) ∧ V.cell? ⟨w.heap.size, 4, none⟩ = some (.float .f32 xt) ∧ V.cell? ⟨w.heap.size, 5, none⟩ = some (.slice a len cap))) (first | exact KK2 | exact KK | go_keep) (first
      | (go_at_call 27; refine (HT _ g6.drew).out.mono ?_; rintro e w6 ⟨v6, rfl, ho6, hb6⟩; obtain ⟨a6, c6, rfl⟩ := ho6.row.lenv; have KK := And.intro ((show SetAt w5.drew w4.heap.size ⟨xc, xr, xs, xl, xt⟩ (.slice a4 ls.length c4) from A5).keep hb6 z1) ((show SetAt w5.drew w.heap.size ⟨xc, xr, xs, xl, xt⟩ (.slice a len cap) from S5).keep hb6 z05))
      | (go_at_call 28; refine (HE _ _ _ _ _ ((show OwnS w5.drew w3.heap.size (.slice a4 ls.length c4) ls from HO5.out).below hb6) ho6).out.mono ?_; rintro e w7 ⟨rfl, hb7⟩; have KK2 := And.intro (KK.1.keep hb7 (Nat.lt_of_lt_of_le z1 hb6.size)) (KK.2.keep hb7 (Nat.lt_of_lt_of_le z05 hb6.size))))
    all_goals
      have g7 := below_trans g6.drew hb6 g6.size
      have g8 := below_trans g7 hb7 g7.size
      go_wp2
      go_ret
      exact ⟨rfl, g8⟩
theorem tab_ofR {W : World} (h : laidMetH Tryd.prog Rows.fnExactReportRow.laid W) : Tab W := by
  have h1 := laidMetH.filter (fun x => x.1 == "internal/strconv.uint64pow10") h
  rw [MakeChecks.laidMetH_plain _ _ _ (by kernel_rfl)] at h1
  exact tab_one (rest := []) h1
end Go.Proofs.YtfoggbcfkniimaaDoor
