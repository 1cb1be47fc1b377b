/-
  What is proved: the walk of the law FnExactReceive.
  Conditions: none beyond the arguments' own.
-/
import Derived.Test.YtobpnoiienpipaaGreatPz44
import Derived.Deep.RegionHeld3
namespace Go.Proofs.YtobpnoiienpipaaGreat
set_option linter.unusedVariables false
open Go.RowKit
attribute [local go_sem] run_store_float run_store_complex unary_negf neg256

theorem szT_small {ls : List (List UInt8)} {left : Nat} (h : ¬ szT ls left < 0) : totT ls ≤ left := by
  unfold szT at h
  split at h
  · assumption
  · exact absurd (by decide) h
theorem totT_len (ls : List (List UInt8)) : ls.length ≤ totT ls := by unfold totT; omega
theorem recv_dn {w w' : World} (h : ∃ n, w' = w.drewN n) : Below w.heap.size w w' := by
  obtain ⟨n, rfl⟩ := h
  exact belowDN (Below.refl _ _) n
theorem Rows64.long {rows : List (List C3)} (h : Rows64 rows) : rows.length ≤ 2000000 := Nat.le_trans h.1 (by decide)
theorem Rows64.wide {rows : List (List C3)} (h : Rows64 rows) : ∀ r ∈ rows, r.length ≤ 1000000 ∧ NumL r := fun r hr => ⟨Nat.le_trans (h.2 r hr).1 (by decide), (h.2 r hr).2⟩
theorem Rows64.thin {rows : List (List C3)} (h : Rows64 rows) : ∀ r ∈ rows, r.length ≤ 64 := fun r hr => (h.2 r hr).1
theorem Rows64.part {rows : List (List C3)} (h : Rows64 rows) : ∀ k, k < rows.length → 2 * Go.Proofs.YtobpnoiienpipaaGreat.csum (rows.take k) ≤ 8199 := fun k _ => by
  have h1 := csum_le (rs := rows) k
  have h2 := h.csum
  omega
set_option maxRecDepth 100000 in
set_option maxHeartbeats 8000000 in
theorem walk_FnExactReceive (x : SetC) (a : Option Addr) (len cap : Nat) (ls : List (List UInt8)) (a1 : Option Addr) (len1 cap1 : Nat) (zs : List Nat) (w : World) (hx : x.ok) (ht : TRow w (.slice a len cap) ls) (hm : ∀ l ∈ ls, l.length ≤ maxLen) (hl : ls.length = len) (hc : len ≤ maxLen)
    (hw1 : FRow w (.slice a1 len1 cap1) zs ∧ (∀ z ∈ zs, z < 2 ^ 32) ∧ zs.length = len1) :
    Calls Tryz.prog 4 #[x.val (.slice a len cap), .slice a1 len1 cap1] w fun e w' => e = .returned (.bool true) ∧ Below w.heap.size w w' := by
  obtain ⟨hrow, _, hl1⟩ := hw1
  have hb0 : Below w.heap.size w (w.alloc (.cells (x.cells (.slice a len cap)) 44)) := (Below.refl _ _).alloc (Nat.le_refl _) _
  have K0 := heap_alloc_new w (.cells (x.cells (.slice a len cap)) 44)
  have hz0 : (w.alloc (.cells (x.cells (.slice a len cap)) 44)).heap.size = w.heap.size + 1 := by simp
  by_cases hbig : 1048576 < len1
  · simp only [SetC.val, SetC.cells] at *
    clear hx ht hm hl hc hrow hl1
    go_enter Tryz.func4, Tryz.ntmps4
    go_wp2
    go_ret
    exact ⟨rfl, hb0⟩
  have HZ := Lib.hid (szSet_any x (.slice a len cap) ls 1048576 _ (ht.below hb0) hm (by omega) (by omega))
  rw [show ((1048576 : Nat) : Int) = 1048576 from rfl] at HZ
  by_cases hneg : szT ls 1048576 < 0
  · generalize szT ls 1048576 = z at *
    obtain ⟨xc, xr, xs, xl, xt⟩ := x
    simp only [SetC.val, SetC.cells] at *
    clear ht hm hx hl hc hrow hl1
    obtain ⟨q0, q1, q2, q3, q4, q5⟩ := SetAt.of (x := ⟨xc, xr, xs, xl, xt⟩) (v := .slice a len cap) K0
    go_enter Tryz.func4, Tryz.ntmps4
    go_wp2_with fail
    generalize World.alloc w _ = W0 at *
    refine HZ.out.mono ?_
    rintro e w1 ⟨rfl, hb1⟩
    go_wp2
    go_ret
    exact ⟨rfl, below_trans hb0 hb1 hb0.size⟩
  · have hlen : ls.length ≤ 1048576 := by have := szT_small hneg; have := totT_len ls; omega
    have hlen3 : ls.length ≤ 3000000 := by omega
    have hzl : zs.length ≤ 1048576 := by omega
    generalize szT ls 1048576 = z at *
    obtain ⟨LL, okk, hbd, hfix⟩ := rec_fix x ls.length zs
    have HT := fun W (hW : Below w.heap.size w W) => Lib.hid (toSet_any x (.slice a len cap) ls W (ht.below hW) hlen3)
    have HTF := fun W (hW : Below w.heap.size w W) => Lib.hid (toFloats_any (.slice a1 len1 cap1) zs W (hrow.below hW) (by omega))
    have HS := fun vl v W h h' => Lib.hid (rec_got hfix (specReceive_full x vl v ls zs W hx h hlen3 h' (by omega)))
    have HI := fun vl v W h h' => Lib.hid (rec_got hfix (receive_any x vl v ls zs W hx h hlen3 h' (by omega)))
    have HX := fun v v' b b' W h h' => Lib.hid (eqSet_any x x v v' ls b b' W (SetC.Same.refl x) h h' hlen3)
    have HE := fun b b' v v' ss ss' W h h' => Lib.hid (eqRows_num b b' v v' LL ss ss' W h h' hbd.long hbd.wide)
    have HEF := fun v v' W h h' => Lib.hid (eqFloats_sm v v' zs zs W h h' (SmL.refl _) (by omega))
    have HMX := fun base v W h => Lib.hid (markSet_any x 1 base v ls W h (by decide) (by decide) hlen3)
    have HMF := fun base v W h => Lib.hid (markFrom_any (1 + ls.length) base v zs W h (by omega) (by omega))
    have HMC := fun base v ss W h => Lib.hid (markRowsB_any base v LL ss W h hbd.long hbd.csum hbd.thin hbd.part)
    have HHC := fun base v ss W h => Lib.hid (heldRowsB_any base v LL ss W h hbd.long hbd.csum hbd.thin hbd.part)
    obtain ⟨xc, xr, xs, xl, xt⟩ := x
    simp only [SetC.val, SetC.cells] at *
    clear ht hm hx hl hc hrow hl1 hbd hfix hlen3
    cases okk
    all_goals
      obtain ⟨p0, p1, p2, p3, p4, p5⟩ := SetAt.of (x := ⟨xc, xr, xs, xl, xt⟩) (v := .slice a len cap) K0
      go_enter Tryz.func4, Tryz.ntmps4
      go_wp2_with fail
      generalize World.alloc w _ = W0 at *
      refine HZ.out.mono ?_
      rintro e w1 ⟨rfl, hb1⟩
      clear p0 p1 p2 p3 p4 p5
      have g1 := below_trans hb0 hb1 hb0.size
      have hz1 := hb1.size
      replace K0 := (hb1.block (w.heap.size) (by omega)).trans K0
      clear hb1 HZ
      obtain ⟨p0, p1, p2, p3, p4, p5⟩ := SetAt.of (x := ⟨xc, xr, xs, xl, xt⟩) (v := .slice a len cap) K0
      go_wp2_with fail
      clear p0 p1 p2 p3 p4 p5
      refine (HT w1 g1).out.mono ?_
      rintro e w2 ⟨v2, rfl, ho2, hb2⟩
      obtain ⟨a2', c2', rfl⟩ := ho2.row.lenv
      have g2 := below_trans g1 hb2 g1.size
      have hz2 := hb2.size
      replace K0 := (hb2.block (w.heap.size) (by omega)).trans K0
      clear hb2
      have RP := Lib.hid (show ∀ r, (fun r => (Value.slice a2' ls.length c2').ownBlock = some r) r → w1.heap.size ≤ r ∧ r < w2.heap.size from ho2.lt)
      have HP := Lib.hid ho2
      clear ho2
      go_wp2_with fail
      refine (HTF w2 g2).out.mono ?_
      rintro e w3 ⟨v3, rfl, ho3, hb3⟩
      have g3 := below_trans g2 hb3 g2.size
      have hz3 := hb3.size
      replace K0 := (hb3.block (w.heap.size) (by omega)).trans K0
      replace HP := Lib.hid (HP.out.below hb3)
      clear hb3
      have RQ := Lib.hid (show ∀ r, Blk v3 r → w2.heap.size ≤ r ∧ r < w3.heap.size from ho3.lt)
      have HQ := Lib.hid ho3
      clear ho3
      go_wp2_with fail
      refine (HS _ _ w3 HP.out.row HQ.out.row).out.mono ?_
      rintro e w4 ⟨v4, s4, rfl, ho4, hb4⟩
      have g4 := below_trans g3 hb4 g3.size
      have hz4 := hb4.size
      replace K0 := (hb4.block (w.heap.size) (by omega)).trans K0
      replace HP := Lib.hid (HP.out.below hb4)
      replace HQ := Lib.hid (HQ.out.below hb4)
      clear hb4
      have RA := Lib.hid (show ∀ r, GBlk v4 s4 r → w3.heap.size ≤ r ∧ r < w4.heap.size from ho4.lt)
      have HA := Lib.hid ho4
      clear ho4
      clear HP RP
      clear HQ RQ
      clear HS
      obtain ⟨p0, p1, p2, p3, p4, p5⟩ := SetAt.of (x := ⟨xc, xr, xs, xl, xt⟩) (v := .slice a len cap) K0
      go_wp2_with fail
      clear p0 p1 p2 p3 p4 p5
      refine (HT w4 g4).out.mono ?_
      rintro e w5 ⟨v5, rfl, ho5, hb5⟩
      obtain ⟨a5', c5', rfl⟩ := ho5.row.lenv
      have g5 := below_trans g4 hb5 g4.size
      have hz5 := hb5.size
      replace K0 := (hb5.block (w.heap.size) (by omega)).trans K0
      replace HA := Lib.hid (HA.out.below hb5)
      clear hb5
      have RB := Lib.hid (show ∀ r, (fun r => (Value.slice a5' ls.length c5').ownBlock = some r) r → w4.heap.size ≤ r ∧ r < w5.heap.size from ho5.lt)
      have HB := Lib.hid ho5
      clear ho5
      have K2 := heap_alloc_new w5 (.cells #[.int .i64 xc, .int .i64 xr, .float .f32 xs, .float .f32 xl, .float .f32 xt, .slice a5' ls.length c5'] 37)
      have hb2' := (Below.refl w5.heap.size w5).alloc (Nat.le_refl _) (.cells #[.int .i64 xc, .int .i64 xr, .float .f32 xs, .float .f32 xl, .float .f32 xt, .slice a5' ls.length c5'] 37)
      replace K0 := (alloc_keeps w5 (.cells #[.int .i64 xc, .int .i64 xr, .float .f32 xs, .float .f32 xl, .float .f32 xt, .slice a5' ls.length c5'] 37) (show w.heap.size < w5.heap.size by omega)).trans K0
      replace HA := Lib.hid (HA.out.below hb2')
      replace HB := Lib.hid (HB.out.below hb2')
      have g6 := g5.alloc g5.size (.cells #[.int .i64 xc, .int .i64 xr, .float .f32 xs, .float .f32 xl, .float .f32 xt, .slice a5' ls.length c5'] 37)
      have hz6 : (w5.alloc (.cells #[.int .i64 xc, .int .i64 xr, .float .f32 xs, .float .f32 xl, .float .f32 xt, .slice a5' ls.length c5'] 37)).heap.size = w5.heap.size + 1 := by simp
      clear hb2'
      go_wp2_with fail
      generalize World.alloc w5 _ = W5 at *
      refine (HTF W5 g6).out.mono ?_
      rintro e w6 ⟨v6, rfl, ho6, hb6⟩
      have g7 := below_trans g6 hb6 g6.size
      have hz7 := hb6.size
      replace K0 := (hb6.block (w.heap.size) (by omega)).trans K0
      replace K2 := (hb6.block (w5.heap.size) (by omega)).trans K2
      replace HA := Lib.hid (HA.out.below hb6)
      replace HB := Lib.hid (HB.out.below hb6)
      clear hb6
      have RXr := Lib.hid (show ∀ r, Blk v6 r → W5.heap.size ≤ r ∧ r < w6.heap.size from ho6.lt)
      have HXr := Lib.hid ho6
      clear ho6
      obtain ⟨p0, p1, p2, p3, p4, p5⟩ := SetAt.of (x := ⟨xc, xr, xs, xl, xt⟩) (v := .slice a5' ls.length c5') K2
      go_wp2_with fail
      clear p0 p1 p2 p3 p4 p5
      refine (HI _ _ w6 HB.out.row HXr.out.row).out.mono ?_
      rintro e w7 ⟨v7, s7, rfl, ho7, hb7⟩
      have g8 := below_trans g7 hb7 g7.size
      have hz8 := hb7.size
      replace K0 := (hb7.block (w.heap.size) (by omega)).trans K0
      replace K2 := (hb7.block (w5.heap.size) (by omega)).trans K2
      replace HA := Lib.hid (HA.out.below hb7)
      replace HB := Lib.hid (HB.out.below hb7)
      replace HXr := Lib.hid (HXr.out.below hb7)
      clear hb7
      have RC := Lib.hid (show ∀ r, GBlk v7 s7 r → w6.heap.size ≤ r ∧ r < w7.heap.size from ho7.lt)
      have HC := Lib.hid ho7
      clear ho7
      go_wp2_with fail
      refine (HE _ _ _ _ _ _ w7 HC.out HA.out).out.mono ?_
      rintro e w8 ⟨rfl, hb8⟩
      have g9 := below_trans g8 hb8 g8.size
      have hz9 := hb8.size
      replace K0 := (hb8.block (w.heap.size) (by omega)).trans K0
      replace K2 := (hb8.block (w5.heap.size) (by omega)).trans K2
      replace HA := Lib.hid (HA.out.below hb8)
      replace HB := Lib.hid (HB.out.below hb8)
      replace HXr := Lib.hid (HXr.out.below hb8)
      replace HC := Lib.hid (HC.out.below hb8)
      clear hb8
      have A5 := SetAt.of (x := ⟨xc, xr, xs, xl, xt⟩) (v := .slice a5' ls.length c5') K2
      have S5 := SetAt.of (x := ⟨xc, xr, xs, xl, xt⟩) (v := .slice a len cap) K0
      have z1' : w5.heap.size < w8.heap.size := by omega
      have z05 : w.heap.size < w8.heap.size := by omega
      obtain ⟨q0, q1, q2, q3, q4, q5⟩ := id A5
      obtain ⟨p0, p1, p2, p3, p4, p5⟩ := id S5
      go_wp2_with fail
      go_region_held3 (fun V => (V.cell? ⟨w5.heap.size, 0, none⟩ = some (.int .i64 xc) ∧ V.cell? ⟨w5.heap.size, 1, none⟩ = some (.int .i64 xr) ∧ V.cell? ⟨w5.heap.size, 2, none⟩ = some (.float .f32 xs) ∧ V.cell? ⟨w5.heap.size, 3, none⟩ = some (.float .f32 xl) ∧ V.cell? ⟨w5.heap.size, 4, none⟩ = some (.float .f32 xt) ∧ V.cell? ⟨w5.heap.size, 5, none⟩ = some (.slice a5' ls.length c5')) ∧ (V.cell? ⟨w.heap.size, 0, none⟩ = some (.int .i64 xc) ∧ V.cell? ⟨w.heap.size, 1, none⟩ = some (.int .i64 xr) ∧ V.cell? ⟨w.heap.size, 2, none⟩ = some (.float .f32 xs) ∧ V.cell? ⟨w.heap.size, 3, none⟩ = some (.float .f32 xl) ∧ V.cell? ⟨w.heap.size, 4, none⟩ = some (.float .f32 xt) ∧ V.cell? ⟨w.heap.size, 5, none⟩ = some (.slice a len cap))) (first | exact KK2 | exact KK | go_keep) (first
        | (go_at_call 14; refine (HT _ g9.drew).out.mono ?_; rintro e w9 ⟨v7', rfl, ho7, hb7⟩; obtain ⟨a7', c7', rfl⟩ := ho7.row.lenv; have KK := And.intro ((show SetAt w8.drew (w5.heap.size) ⟨xc, xr, xs, xl, xt⟩ (.slice a5' ls.length c5') from A5).keep hb7 z1') ((show SetAt w8.drew w.heap.size ⟨xc, xr, xs, xl, xt⟩ (.slice a len cap) from S5).keep hb7 z05))
        | (go_at_call 17; refine (HX _ _ _ _ _ ((HB.out.below (Below.refl w8.heap.size w8).drew).below hb7) ho7).out.mono ?_; rintro e w10 ⟨rfl, hb8⟩; have KK2 := And.intro (KK.1.keep hb8 (Nat.lt_of_lt_of_le z1' hb7.size)) (KK.2.keep hb8 (Nat.lt_of_lt_of_le z05 hb7.size))))
      all_goals
        have hbb : Below w8.heap.size w8 w10 := ((Below.refl w8.heap.size w8).drew.trans (hb7.mono (Nat.le_refl _))).trans (hb8.mono hb7.size)
        clear A5 S5 z1' z05 q0 q1 q2 q3 q4 q5 p0 p1 p2 p3 p4 p5 KK KK2 hb7 hb8 ho7
        have g10 := below_trans g9 hbb g9.size
        have hz10 := hbb.size
        replace K0 := (hbb.block (w.heap.size) (by omega)).trans K0
        replace K2 := (hbb.block (w5.heap.size) (by omega)).trans K2
        replace HA := Lib.hid (HA.out.below hbb)
        replace HB := Lib.hid (HB.out.below hbb)
        replace HXr := Lib.hid (HXr.out.below hbb)
        replace HC := Lib.hid (HC.out.below hbb)
        clear hbb
        go_wp2_with fail
        refine (HTF w10 g10).out.mono ?_
        rintro e w11 ⟨v11, rfl, ho11, hb11⟩
        have g11 := below_trans g10 hb11 g10.size
        have hz11 := hb11.size
        replace K0 := (hb11.block (w.heap.size) (by omega)).trans K0
        replace K2 := (hb11.block (w5.heap.size) (by omega)).trans K2
        replace HA := Lib.hid (HA.out.below hb11)
        replace HB := Lib.hid (HB.out.below hb11)
        replace HXr := Lib.hid (HXr.out.below hb11)
        replace HC := Lib.hid (HC.out.below hb11)
        clear hb11
        have RM := Lib.hid (show ∀ r, Blk v11 r → w10.heap.size ≤ r ∧ r < w11.heap.size from ho11.lt)
        have HM := Lib.hid ho11
        clear ho11
        go_wp2_with fail
        refine (HEF _ _ w11 HXr.out.row HM.out.row).out.mono ?_
        rintro e w12 ⟨rfl, hd12⟩
        have hb12 := recv_dn hd12
        clear hd12
        have g12 := below_trans g11 hb12 g11.size
        have hz12 := hb12.size
        replace K0 := (hb12.block (w.heap.size) (by omega)).trans K0
        replace K2 := (hb12.block (w5.heap.size) (by omega)).trans K2
        replace HA := Lib.hid (HA.out.below hb12)
        replace HB := Lib.hid (HB.out.below hb12)
        replace HXr := Lib.hid (HXr.out.below hb12)
        replace HC := Lib.hid (HC.out.below hb12)
        replace HM := Lib.hid (HM.out.below hb12)
        clear hb12 HEF
        clear HM RM
        obtain ⟨p0, p1, p2, p3, p4, p5⟩ := SetAt.of (x := ⟨xc, xr, xs, xl, xt⟩) (v := .slice a5' ls.length c5') K2
        go_wp2_with fail
        clear p0 p1 p2 p3 p4 p5
        refine (HMX _ _ w12 HB.out).out.mono ?_
        rintro e w13 ⟨rfl, ho13, hg13⟩
        have hb13 := Turn.of hg13
        clear ho13 hg13
        have g13 := Turn.below g12 g12.size hb13 (fun k hk => by have := (RB.out k hk).1; omega)
        have hz13 := hb13.size
        replace K0 := (hb13.block (w.heap.size) (by omega) (fun e => by have := RB.out _ e; omega)).trans K0
        replace K2 := (hb13.block (w5.heap.size) (by omega) (fun e => by have := RB.out _ e; omega)).trans K2
        replace HA := Lib.hid (HA.out.turn hb13 (fun k hk hs => by have h1 := RA.out k hk; have h2 := RB.out k hs; omega))
        replace HXr := Lib.hid (HXr.out.turn hb13 (fun k hk hs => by have h1 := RXr.out k hk; have h2 := RB.out k hs; omega))
        replace HC := Lib.hid (HC.out.turn hb13 (fun k hk hs => by have h1 := RC.out k hk; have h2 := RB.out k hs; omega))
        clear hb13 HX HMX
        clear HB RB
        clear K2
        go_wp2_with fail
        refine (HMF _ _ w13 HXr.out).out.mono ?_
        rintro e w14 ⟨rfl, ho14, hg14⟩
        have hb14 := Turn.of hg14
        clear ho14 hg14
        have g14 := Turn.below g13 g13.size hb14 (fun k hk => by have := (RXr.out k hk).1; omega)
        have hz14 := hb14.size
        replace K0 := (hb14.block (w.heap.size) (by omega) (fun e => by have := RXr.out _ e; omega)).trans K0
        replace HA := Lib.hid (HA.out.turn hb14 (fun k hk hs => by have h1 := RA.out k hk; have h2 := RXr.out k hs; omega))
        replace HC := Lib.hid (HC.out.turn hb14 (fun k hk hs => by have h1 := RC.out k hk; have h2 := RXr.out k hs; omega))
        clear hb14 HMF
        clear HXr RXr
        go_wp2_with fail
        refine (HE _ _ _ _ _ _ w14 HC.out HA.out).out.mono ?_
        rintro e w15 ⟨rfl, hb15⟩
        have g15 := below_trans g14 hb15 g14.size
        have hz15 := hb15.size
        replace K0 := (hb15.block (w.heap.size) (by omega)).trans K0
        replace HA := Lib.hid (HA.out.below hb15)
        replace HC := Lib.hid (HC.out.below hb15)
        clear hb15
        go_wp2_with fail
        refine (HMC _ _ _ w15 HC.out).out.mono ?_
        rintro e w16 ⟨rfl, ho16, hb16⟩
        have g16 := Turn.below g15 g15.size hb16 (fun k hk => by have := (RC.out k hk).1; omega)
        have hz16 := hb16.size
        replace K0 := (hb16.block (w.heap.size) (by omega) (fun e => by have := RC.out _ e; omega)).trans K0
        replace HA := Lib.hid (HA.out.turn hb16 (fun k hk hs => by have h1 := RA.out k hk; have h2 := RC.out k hs; omega))
        clear hb16 HMC
        replace HC := Lib.hid ho16
        clear ho16
        go_wp2_with fail
        refine (HHC _ _ _ w16 HC.out).out.mono ?_
        rintro e w17 ⟨rfl, hd17⟩
        have hb17 := recv_dn hd17
        clear hd17
        have g17 := below_trans g16 hb17 g16.size
        have hz17 := hb17.size
        replace K0 := (hb17.block (w.heap.size) (by omega)).trans K0
        replace HA := Lib.hid (HA.out.below hb17)
        replace HC := Lib.hid (HC.out.below hb17)
        clear hb17
        obtain ⟨p0, p1, p2, p3, p4, p5⟩ := SetAt.of (x := ⟨xc, xr, xs, xl, xt⟩) (v := .slice a len cap) K0
        go_wp2_with fail
        clear p0 p1 p2 p3 p4 p5
        refine (HT w17 g17).out.mono ?_
        rintro e w18 ⟨v18, rfl, ho18, hb18⟩
        obtain ⟨a18', c18', rfl⟩ := ho18.row.lenv
        have g18 := below_trans g17 hb18 g17.size
        have hz18 := hb18.size
        replace K0 := (hb18.block (w.heap.size) (by omega)).trans K0
        replace HA := Lib.hid (HA.out.below hb18)
        replace HC := Lib.hid (HC.out.below hb18)
        clear hb18
        have RP := Lib.hid (show ∀ r, (fun r => (Value.slice a18' ls.length c18').ownBlock = some r) r → w17.heap.size ≤ r ∧ r < w18.heap.size from ho18.lt)
        have HP := Lib.hid ho18
        clear ho18
        go_wp2_with fail
        refine (HTF w18 g18).out.mono ?_
        rintro e w19 ⟨v19, rfl, ho19, hb19⟩
        have g19 := below_trans g18 hb19 g18.size
        have hz19 := hb19.size
        replace K0 := (hb19.block (w.heap.size) (by omega)).trans K0
        replace HA := Lib.hid (HA.out.below hb19)
        replace HC := Lib.hid (HC.out.below hb19)
        replace HP := Lib.hid (HP.out.below hb19)
        clear hb19
        have RQ := Lib.hid (show ∀ r, Blk v19 r → w18.heap.size ≤ r ∧ r < w19.heap.size from ho19.lt)
        have HQ := Lib.hid ho19
        clear ho19
        go_wp2_with fail
        refine (HI _ _ w19 HP.out.row HQ.out.row).out.mono ?_
        rintro e w20 ⟨v20, s20, rfl, ho20, hb20⟩
        have g20 := below_trans g19 hb20 g19.size
        have hz20 := hb20.size
        replace K0 := (hb20.block (w.heap.size) (by omega)).trans K0
        replace HA := Lib.hid (HA.out.below hb20)
        replace HC := Lib.hid (HC.out.below hb20)
        replace HP := Lib.hid (HP.out.below hb20)
        replace HQ := Lib.hid (HQ.out.below hb20)
        clear hb20 HI
        have RD := Lib.hid (show ∀ r, GBlk v20 s20 r → w19.heap.size ≤ r ∧ r < w20.heap.size from ho20.lt)
        have HD := Lib.hid ho20
        clear ho20
        clear HP RP
        clear HQ RQ
        go_wp2_with fail
        refine (HE _ _ _ _ _ _ w20 HD.out HA.out).out.mono ?_
        rintro e w21 ⟨rfl, hb21⟩
        have g21 := below_trans g20 hb21 g20.size
        have hz21 := hb21.size
        replace K0 := (hb21.block (w.heap.size) (by omega)).trans K0
        replace HA := Lib.hid (HA.out.below hb21)
        replace HC := Lib.hid (HC.out.below hb21)
        replace HD := Lib.hid (HD.out.below hb21)
        clear hb21
        go_wp2_with fail
        refine (HHC _ _ _ w21 HC.out).out.mono ?_
        rintro e w22 ⟨rfl, hd22⟩
        have hb22 := recv_dn hd22
        clear hd22
        have g22 := below_trans g21 hb22 g21.size
        have hz22 := hb22.size
        replace K0 := (hb22.block (w.heap.size) (by omega)).trans K0
        replace HA := Lib.hid (HA.out.below hb22)
        replace HC := Lib.hid (HC.out.below hb22)
        replace HD := Lib.hid (HD.out.below hb22)
        clear hb22
        go_wp2
        go_ret
        exact ⟨rfl, g22⟩
end Go.Proofs.YtobpnoiienpipaaGreat
