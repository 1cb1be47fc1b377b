/-
  What is proved: what the model draws for chapter 5: channels, complex numbers, echoes.
  Conditions: the cursor's block holds a cursor; the bytes can be read.
-/
import Derived.Test.YtgecclccmmcdoaaPkCh
import Derived.Test.YtgecclccmmcdoaaLawDelayed
import Derived.OwnWalk
namespace Go.Proofs.Ytgecclccmmcdoaa
set_option linter.unusedVariables false
open Go.RowKit
open Flt (Q)
attribute [local go_sem] run_store_float run_store_complex unary_negf neg256

theorem foi8d (n : Int) : ∃ r, floatBits .quo .f64 (floatOfInt .f64 n) 4620693217682128896 = some r := by
  obtain ⟨r, hr, _⟩ := Flt.div_some (f := Ieee.double) (Flt.nearest_ok Ieee.double (n < 0) n.natAbs 0) (show Ieee.double.read 4620693217682128896 = .number false 4503599627370496 (-49) by decide +kernel) (by decide)
  exact ⟨r, hr⟩
theorem foi1000d (n : Int) : ∃ r, floatBits .quo .f64 (floatOfInt .f64 n) 4652007308841189376 = some r := by
  obtain ⟨r, hr, _⟩ := Flt.div_some (f := Ieee.double) (Flt.nearest_ok Ieee.double (n < 0) n.natAbs 0) (show Ieee.double.read 4652007308841189376 = .number false 8796093022208000 (-43) by decide +kernel) (by decide)
  exact ⟨r, hr⟩
set_option maxHeartbeats 1000000 in
theorem l01Real_any (b : Nat) (m : Int) (w : World) (hc : Cur w b) (h0 : 0 ≤ m) (h1 : m ≤ 1000) :
    Calls Try.prog 74 #[.pointer (some ⟨b, 0, none⟩), .int .i64 m] w fun e w' => F64Post b w e w' := by
  go_enter Try.func74, Try.ntmps74
  go_wp2_with fail
  refine (l01Once_any _ _ _ hc (by decide) (by decide)).mono ?_
  rintro e w1 ⟨t, rfl, hc1, hg1⟩
  cases t
  · go_wp2_with fail
    refine (l01Below_any _ _ _ hc1 (by omega) (by omega)).mono ?_
    rintro e w2 ⟨x, hx, hx', rfl, hc2, hg2⟩
    obtain ⟨r, hr⟩ := foi8d (x : Int)
    have hq := fun W => run_float_arith (P := Try.prog) W .quo 95 .f64 _ _ _ hr
    have hg := hg1.trans hg2
    clear hx hx' hr hg1 hg2 hc1 hc
    go_wp2_with fail
    refine (l01Once_any _ _ _ hc2 (by decide) (by decide)).mono ?_
    rintro e w3 ⟨t, rfl, hc3, hg3⟩
    have hg := hg.trans hg3
    clear hg3 hc2 hq
    cases t
    · go_wp2_with fail
      refine (l01Once_any _ _ _ hc3 (by decide) (by decide)).mono ?_
      rintro e w4 ⟨t, rfl, hc4, hg4⟩
      cases t
      all_goals
        go_wp2
        go_ret
        exact F64Post.mk hc4 (hg.trans hg4)
    · go_wp2_with fail
      refine (l01Below_any _ _ _ hc3 (by omega) (by omega)).mono ?_
      rintro e w4 ⟨y, hy, hy', rfl, hc4, hg4⟩
      obtain ⟨r4, hr4⟩ := foi1000d (y : Int)
      have hq4 := fun W => run_float_arith (P := Try.prog) W .quo 95 .f64 _ _ _ hr4
      have hg := hg.trans hg4
      clear hy hy' hr4 hg4 hc3
      go_wp2_with fail
      refine (l01Once_any _ _ _ hc4 (by decide) (by decide)).mono ?_
      rintro e w5 ⟨t, rfl, hc5, hg5⟩
      cases t
      all_goals
        go_wp2
        go_ret
        exact F64Post.mk hc5 (hg.trans hg5)
  · go_wp2_with fail
    refine (l01Odd_any _ _ hc1).mono ?_
    rintro e w2 ⟨x, rfl, hc2, hg2⟩
    go_wp2
    go_ret
    exact F64Post.mk hc2 (hg1.trans hg2)
theorem PlainC.fit {h : Chn} (hp : PlainC h) : h.X < 2 ^ 32 ∧ h.Y < 2 ^ 32 := by
  obtain ⟨α, ω, ξ, η, ⟨⟨_, _, h1, h2⟩, _⟩, _⟩ := hp
  exact ⟨h1.1, h2.1⟩
/-- A channel lies in a block. -/
def HoldC (w : World) (x A O X Y : Nat) : Prop := (X < 2 ^ 32 ∧ Y < 2 ^ 32) ∧ w.heap[x]? = some (.cells #[.float .f32 A, .float .f32 O, .complex .f32 X Y] 29 (0, 0))
theorem HoldC.c0 {w : World} {x A O X Y : Nat} (h : HoldC w x A O X Y) : w.cell? ⟨x, 0, none⟩ = some (.float .f32 A) := by simp [World.cell?, h.2]
theorem HoldC.c1 {w : World} {x A O X Y : Nat} (h : HoldC w x A O X Y) : w.cell? ⟨x, 1, none⟩ = some (.float .f32 O) := by simp [World.cell?, h.2]
theorem HoldC.c2 {w : World} {x A O X Y : Nat} (h : HoldC w x A O X Y) : w.cell? ⟨x, 2, none⟩ = some (.complex .f32 X Y) := by simp [World.cell?, h.2]
theorem HoldC.f0 {w : World} {x A O X Y : Nat} (h : HoldC w x A O X Y) : w.frozen? ⟨x, 0, none⟩ = false := by simp [World.frozen?, h.2]
theorem HoldC.f1 {w : World} {x A O X Y : Nat} (h : HoldC w x A O X Y) : w.frozen? ⟨x, 1, none⟩ = false := by simp [World.frozen?, h.2]
theorem HoldC.f2 {w : World} {x A O X Y : Nat} (h : HoldC w x A O X Y) : w.frozen? ⟨x, 2, none⟩ = false := by simp [World.frozen?, h.2]
theorem HoldC.kept {w w' : World} {x A O X Y : Nat} {row : Option Nat} (h : HoldC w x A O X Y) (hg : w.grownBy w' row) (hne : some x ≠ row) : HoldC w' x A O X Y :=
  ⟨h.1, (hg.block x (Array.getElem?_eq_some_iff.1 h.2).1 hne).trans h.2⟩
theorem HoldC.new (w : World) {A O X Y : Nat} (h : X < 2 ^ 32 ∧ Y < 2 ^ 32) : HoldC (w.alloc (.cells #[.float .f32 A, .float .f32 O, .complex .f32 X Y] 29)) w.heap.size A O X Y := ⟨h, heap_alloc_new w _⟩
theorem HoldC.set0 {w : World} {x A O X Y : Nat} (h : HoldC w x A O X Y) (A' : Nat) : HoldC (w.setCell ⟨x, 0, none⟩ (.float .f32 A')) x A' O X Y := ⟨h.1, heap_put (i := 0) h.2⟩
theorem HoldC.set1 {w : World} {x A O X Y : Nat} (h : HoldC w x A O X Y) (O' : Nat) : HoldC (w.setCell ⟨x, 1, none⟩ (.float .f32 O')) x A O' X Y := ⟨h.1, heap_put (i := 1) h.2⟩
theorem HoldC.set2 {w : World} {x A O X Y X' Y' : Nat} (h : HoldC w x A O X Y) (h' : X' < 2 ^ 32 ∧ Y' < 2 ^ 32) : HoldC (w.setCell ⟨x, 2, none⟩ (.complex .f32 X' Y')) x A O X' Y' := ⟨h', heap_put (i := 2) h.2⟩
theorem HoldC.drewN {w : World} {x A O X Y : Nat} (h : HoldC w x A O X Y) (n : Nat) : HoldC (w.drewN n) x A O X Y := h
theorem HoldC.all {w : World} {x A O X Y : Nat} (h : HoldC w x A O X Y) : w.cell? ⟨x, 0, none⟩ = some (.float .f32 A) ∧ w.cell? ⟨x, 1, none⟩ = some (.float .f32 O) ∧ w.cell? ⟨x, 2, none⟩ = some (.complex .f32 X Y) ∧ w.frozen? ⟨x, 0, none⟩ = false ∧ w.frozen? ⟨x, 1, none⟩ = false ∧ w.frozen? ⟨x, 2, none⟩ = false := ⟨h.c0, h.c1, h.c2, h.f0, h.f1, h.f2⟩
def AnyCh (b : Nat) (w : World) (e : Ending) (w' : World) : Prop := ∃ A O X Y, (X < 2 ^ 32 ∧ Y < 2 ^ 32) ∧ e = .returned (.agg #[.float .f32 A, .float .f32 O, .complex .f32 X Y]) ∧ Cur w' b ∧ w.grownBy w' (some b)
/-- All three fields written. -/
def putC (w : World) (x A O X Y : Nat) : World := ((w.setCell ⟨x, 0, none⟩ (.float .f32 A)).setCell ⟨x, 1, none⟩ (.float .f32 O)).setCell ⟨x, 2, none⟩ (.complex .f32 X Y)
theorem HoldC.put {w : World} {x A O X Y A' O' X' Y' : Nat} (h : HoldC w x A O X Y) (h' : X' < 2 ^ 32 ∧ Y' < 2 ^ 32) : HoldC (putC w x A' O' X' Y') x A' O' X' Y' := ((h.set0 A').set1 O').set2 h'
theorem putC.grown {w : World} (x A O X Y : Nat) : w.grownBy (putC w x A O X Y) (some x) := ((Lib.grownBy_setCell w x 0 _).trans (Lib.grownBy_setCell _ x 1 _)).trans (Lib.grownBy_setCell _ x 2 _)
theorem putC.cur {w : World} {x A O X Y b : Nat} (h : Cur w b) (hb : b < x) : Cur (putC w x A O X Y) b := h.grown (putC.grown x A O X Y) (fun r e => by cases e; exact hb)
theorem putC.below {a w : World} {x A O X Y b : Nat} (h : a.grownBy w (some b)) (hx : a.heap.size ≤ x) : a.grownBy (putC w x A O X Y) (some b) := grown_set (grown_set (grown_set h (p := ⟨x, 0, none⟩) hx _) (p := ⟨x, 1, none⟩) hx _) (p := ⟨x, 2, none⟩) hx _
/-- What stands ahead of the return: the channel, and the place of the answer. -/
structure AtEnd (w wz : World) (b x A O X Y : Nat) : Prop where
  ch : HoldC wz x A O X Y
  res : HoldC wz w.heap.size 0 0 0 0
  cur : Cur wz b
  grown : w.grownBy wz (some b)
theorem AtEnd.set0 {w wz : World} {b x A O X Y : Nat} (h : AtEnd w wz b x A O X Y) (hb : b < w.heap.size) (hx : w.heap.size < x) (A' : Nat) : AtEnd w (wz.setCell ⟨x, 0, none⟩ (.float .f32 A')) b x A' O X Y :=
  ⟨h.ch.set0 A', h.res.kept (Lib.grownBy_setCell wz x 0 _) (by intro e; cases e; omega), h.cur.set (p := ⟨x, 0, none⟩) (by show b < x; omega) _, grown_set h.grown (p := ⟨x, 0, none⟩) (by show _ ≤ x; omega) _⟩
theorem AtEnd.set1 {w wz : World} {b x A O X Y : Nat} (h : AtEnd w wz b x A O X Y) (hb : b < w.heap.size) (hx : w.heap.size < x) (O' : Nat) : AtEnd w (wz.setCell ⟨x, 1, none⟩ (.float .f32 O')) b x A O' X Y :=
  ⟨h.ch.set1 O', h.res.kept (Lib.grownBy_setCell wz x 1 _) (by intro e; cases e; omega), h.cur.set (p := ⟨x, 1, none⟩) (by show b < x; omega) _, grown_set h.grown (p := ⟨x, 1, none⟩) (by show _ ≤ x; omega) _⟩
theorem AtEnd.set2 {w wz : World} {b x A O X Y X' Y' : Nat} (h : AtEnd w wz b x A O X Y) (hb : b < w.heap.size) (hx : w.heap.size < x) (hf : X' < 2 ^ 32 ∧ Y' < 2 ^ 32) : AtEnd w (wz.setCell ⟨x, 2, none⟩ (.complex .f32 X' Y')) b x A O X' Y' :=
  ⟨h.ch.set2 hf, h.res.kept (Lib.grownBy_setCell wz x 2 _) (by intro e; cases e; omega), h.cur.set (p := ⟨x, 2, none⟩) (by show b < x; omega) _, grown_set h.grown (p := ⟨x, 2, none⟩) (by show _ ≤ x; omega) _⟩
theorem AtEnd.next {w wz w' : World} {b x A O X Y : Nat} (h : AtEnd w wz b x A O X Y) (hb : b < w.heap.size) (hx : w.heap.size < x) (hc : Cur w' b) (hg : wz.grownBy w' (some b)) (n : Nat) : AtEnd w (w'.drewN n) b x A O X Y :=
  ⟨(h.ch.kept hg (by intro e; cases e; omega)).drewN n, (h.res.kept hg (by intro e; cases e; omega)).drewN n, hc.drewN n, grownN (h.grown.trans hg) n⟩
/-- What the return leaves. -/
theorem AtEnd.done {w wz : World} {b x A O X Y : Nat} (h : AtEnd w wz b x A O X Y) (hb : b < w.heap.size) : HoldC (putC wz w.heap.size A O X Y) w.heap.size A O X Y ∧ Cur (putC wz w.heap.size A O X Y) b ∧ w.grownBy (putC wz w.heap.size A O X Y) (some b) :=
  ⟨h.res.put h.ch.1, putC.cur h.cur hb, putC.below h.grown (Nat.le_refl _)⟩
set_option maxHeartbeats 2000000 in
theorem l05Any_any (b : Nat) (w : World) (hc : Cur w b) :
    Calls Try.prog 139 #[.pointer (some ⟨b, 0, none⟩)] w fun e w' => AnyCh b w e w' := by
  have hlt := hc.lt
  have hcR := hc.alloc (.cells #[.float .f32 0, .float .f32 0, .complex .f32 0 0] 29)
  have hgR := World.grownBy_alloc w (.cells #[.float .f32 0, .float .f32 0, .complex .f32 0 0] 29) (some b)
  have hR := HoldC.new w (A := 0) (O := 0) (X := 0) (Y := 0) (by decide)
  have hszR : (w.alloc (.cells #[.float .f32 0, .float .f32 0, .complex .f32 0 0] 29)).heap.size = w.heap.size + 1 := by simp
  have HR := Lib.hid hR
  clear hc hR
  go_enter Try.func139, Try.ntmps139
  go_wp2_with fail
  generalize w.alloc (.cells #[.float .f32 0, .float .f32 0, .complex .f32 0 0] 29) = wR at *
  refine (l05Plain_any b _ hcR).mono ?_
  rintro e w1 ⟨A, O, X, Y, hp, rfl, hc1, hg1⟩
  have HF := Lib.hid hp.fit
  have hs1 : w.heap.size < w1.heap.size := by have := hg1.size; omega
  have hne1 : some w.heap.size ≠ some b := by intro e; cases e; omega
  have HR1 := Lib.hid ((HR.out.kept hg1 hne1).kept (World.grownBy_alloc w1 (.cells #[.float .f32 A, .float .f32 O, .complex .f32 X Y] 29) none) (by simp))
  have HC1 := Lib.hid (HoldC.new w1 (A := A) (O := O) (HF.out))
  have hcA := hc1.alloc (.cells #[.float .f32 A, .float .f32 O, .complex .f32 X Y] 29)
  have hgA := grown_alloc (hgR.trans hg1) (.cells #[.float .f32 A, .float .f32 O, .complex .f32 X Y] 29)
  obtain ⟨x, hx⟩ : ∃ x, w1.heap.size = x := ⟨_, rfl⟩
  rw [hx] at HC1 hs1
  clear hp hc1 hg1 hgR hcR HR HF hszR
  go_wp2_with fail
  generalize w1.alloc (.cells #[.float .f32 A, .float .f32 O, .complex .f32 X Y] 29) = wA at *
  refine (l01Below_any b _ _ hcA (by decide) (by decide)).mono ?_
  rintro e w2 ⟨v, hv, _, rfl, hc2, hg2⟩
  have hv := hv (by decide)
  have H2 := Lib.hid (show AtEnd w w2 b x A O X Y from ⟨HC1.out.kept hg2 (by intro e; cases e; omega), HR1.out.kept hg2 hne1, hc2, hgA.trans hg2⟩)
  clear HR1 HC1 hg2 hgA hcA
  rcases (by omega : v = 0 ∨ v = 1 ∨ v = 2 ∨ v = 3 ∨ v = 4 ∨ 5 ≤ v) with rfl | rfl | rfl | rfl | rfl | hv5
  · go_wp2_with fail
    refine (l01Real_any b 20 _ hc2 (by decide) (by decide)).mono ?_
    rintro e w3 ⟨r, rfl, hcw3, hgw3⟩
    obtain ⟨z, n, hnz, hz⟩ := conv32 r w3
    have Hw3 := Lib.hid (H2.out.next hlt hs1 hcw3 hgw3 n)
    obtain ⟨q0, q1, q2, g0, g1, g2⟩ := Hw3.out.ch.all
    have HZ := Lib.hid (Hw3.out.set0 hlt hs1 z)
    clear hgw3 hcw3 hc2 H2
    have HE := Lib.hid (HZ.out.done hlt)
    obtain ⟨c0, c1, c2, f0, f1, f2⟩ := HZ.out.ch.all
    obtain ⟨r0, r1, r2, s0, s1, s2⟩ := HZ.out.res.all
    go_wp2
    unfold putC at HE
    obtain ⟨w9, hw9⟩ : ∃ w9, ((((w3.drewN n).setCell ⟨x, 0, none⟩ (.float .f32 z)).setCell ⟨w.heap.size, 0, none⟩ (.float .f32 z)).setCell ⟨w.heap.size, 1, none⟩ (.float .f32 O)).setCell ⟨w.heap.size, 2, none⟩ (.complex .f32 X Y) = w9 := ⟨_, rfl⟩
    rw [hw9] at HE ⊢
    obtain ⟨d0, d1, d2, _, _, _⟩ := HE.out.1.all
    refine bodyPost_ret (v := .agg #[.float .f32 z, .float .f32 O, .complex .f32 X Y]) ?_ rfl ⟨z, O, X, Y, HE.out.1.1, rfl, HE.out.2.1, HE.out.2.2⟩
    simp [results, Try.results139, go_sem, d0, d1, d2]
  · go_wp2_with fail
    refine (l01Real_any b 80 _ hc2 (by decide) (by decide)).mono ?_
    rintro e w3 ⟨r, rfl, hcw3, hgw3⟩
    obtain ⟨z, n, hnz, hz⟩ := conv32 r w3
    have Hw3 := Lib.hid (H2.out.next hlt hs1 hcw3 hgw3 n)
    obtain ⟨q0, q1, q2, g0, g1, g2⟩ := Hw3.out.ch.all
    have HZ := Lib.hid (Hw3.out.set1 hlt hs1 z)
    clear hgw3 hcw3 hc2 H2
    have HE := Lib.hid (HZ.out.done hlt)
    obtain ⟨c0, c1, c2, f0, f1, f2⟩ := HZ.out.ch.all
    obtain ⟨r0, r1, r2, s0, s1, s2⟩ := HZ.out.res.all
    go_wp2
    unfold putC at HE
    obtain ⟨w9, hw9⟩ : ∃ w9, ((((w3.drewN n).setCell ⟨x, 1, none⟩ (.float .f32 z)).setCell ⟨w.heap.size, 0, none⟩ (.float .f32 A)).setCell ⟨w.heap.size, 1, none⟩ (.float .f32 z)).setCell ⟨w.heap.size, 2, none⟩ (.complex .f32 X Y) = w9 := ⟨_, rfl⟩
    rw [hw9] at HE ⊢
    obtain ⟨d0, d1, d2, _, _, _⟩ := HE.out.1.all
    refine bodyPost_ret (v := .agg #[.float .f32 A, .float .f32 z, .complex .f32 X Y]) ?_ rfl ⟨A, z, X, Y, HE.out.1.1, rfl, HE.out.2.1, HE.out.2.2⟩
    simp [results, Try.results139, go_sem, d0, d1, d2]
  · go_wp2_with fail
    refine (l01Real_any b 20 _ hc2 (by decide) (by decide)).mono ?_
    rintro e w3 ⟨r, rfl, hcw3, hgw3⟩
    obtain ⟨z, n, hnz, hz⟩ := conv32 r w3
    have Hw3 := Lib.hid (H2.out.next hlt hs1 hcw3 hgw3 n)
    clear hgw3 hcw3 hc2 H2
    go_wp2_with fail
    refine (l01Real_any b 20 _ Hw3.out.cur (by decide) (by decide)).mono ?_
    rintro e w4 ⟨r4, rfl, hcw4, hgw4⟩
    obtain ⟨z4, n4, hnz4, hz4⟩ := conv32 r4 w4
    have Hw4 := Lib.hid (Hw3.out.next hlt hs1 hcw4 hgw4 n4)
    obtain ⟨q0, q1, q2, g0, g1, g2⟩ := Hw4.out.ch.all
    have HZ := Lib.hid (Hw4.out.set2 hlt hs1 (X' := z) (Y' := z4) ⟨hz, hz4⟩)
    clear hgw4 hcw4 Hw3 hz hz4
    have HE := Lib.hid (HZ.out.done hlt)
    obtain ⟨c0, c1, c2, f0, f1, f2⟩ := HZ.out.ch.all
    obtain ⟨r0, r1, r2, s0, s1, s2⟩ := HZ.out.res.all
    go_wp2
    unfold putC at HE
    obtain ⟨w9, hw9⟩ : ∃ w9, ((((w4.drewN n4).setCell ⟨x, 2, none⟩ (.complex .f32 z z4)).setCell ⟨w.heap.size, 0, none⟩ (.float .f32 A)).setCell ⟨w.heap.size, 1, none⟩ (.float .f32 O)).setCell ⟨w.heap.size, 2, none⟩ (.complex .f32 z z4) = w9 := ⟨_, rfl⟩
    rw [hw9] at HE ⊢
    obtain ⟨d0, d1, d2, _, _, _⟩ := HE.out.1.all
    refine bodyPost_ret (v := .agg #[.float .f32 A, .float .f32 O, .complex .f32 z z4]) ?_ rfl ⟨A, O, z, z4, HE.out.1.1, rfl, HE.out.2.1, HE.out.2.2⟩
    simp [results, Try.results139, go_sem, d0, d1, d2]
  · obtain ⟨q0, q1, q2, g0, g1, g2⟩ := H2.out.ch.all
    have HZ := Lib.hid (((H2.out.set0 hlt hs1 1098907648).set1 hlt hs1 3263168512).set2 hlt hs1 (X' := 1098907648) (Y' := 3246391296) (by decide))
    clear hc2 H2
    have HE := Lib.hid (HZ.out.done hlt)
    obtain ⟨c0, c1, c2, f0, f1, f2⟩ := HZ.out.ch.all
    obtain ⟨r0, r1, r2, s0, s1, s2⟩ := HZ.out.res.all
    go_wp2
    unfold putC at HE
    obtain ⟨w9, hw9⟩ : ∃ w9, (((((w2.setCell ⟨x, 0, none⟩ (.float .f32 1098907648)).setCell ⟨x, 1, none⟩ (.float .f32 3263168512)).setCell ⟨x, 2, none⟩ (.complex .f32 1098907648 3246391296)).setCell ⟨w.heap.size, 0, none⟩ (.float .f32 1098907648)).setCell ⟨w.heap.size, 1, none⟩ (.float .f32 3263168512)).setCell ⟨w.heap.size, 2, none⟩ (.complex .f32 1098907648 3246391296) = w9 := ⟨_, rfl⟩
    rw [hw9] at HE ⊢
    obtain ⟨d0, d1, d2, _, _, _⟩ := HE.out.1.all
    refine bodyPost_ret (v := .agg #[.float .f32 1098907648, .float .f32 3263168512, .complex .f32 1098907648 3246391296]) ?_ rfl ⟨1098907648, 3263168512, 1098907648, 3246391296, HE.out.1.1, rfl, HE.out.2.1, HE.out.2.2⟩
    simp [results, Try.results139, go_sem, d0, d1, d2]
  · obtain ⟨q0, q1, q2, g0, g1, g2⟩ := H2.out.ch.all
    have HZ := Lib.hid (H2.out.set2 hlt hs1 (X' := 0) (Y' := 0) (by decide))
    clear hc2 H2
    have HE := Lib.hid (HZ.out.done hlt)
    obtain ⟨c0, c1, c2, f0, f1, f2⟩ := HZ.out.ch.all
    obtain ⟨r0, r1, r2, s0, s1, s2⟩ := HZ.out.res.all
    go_wp2
    unfold putC at HE
    obtain ⟨w9, hw9⟩ : ∃ w9, (((w2.setCell ⟨x, 2, none⟩ (.complex .f32 0 0)).setCell ⟨w.heap.size, 0, none⟩ (.float .f32 A)).setCell ⟨w.heap.size, 1, none⟩ (.float .f32 O)).setCell ⟨w.heap.size, 2, none⟩ (.complex .f32 0 0) = w9 := ⟨_, rfl⟩
    rw [hw9] at HE ⊢
    obtain ⟨d0, d1, d2, _, _, _⟩ := HE.out.1.all
    refine bodyPost_ret (v := .agg #[.float .f32 A, .float .f32 O, .complex .f32 0 0]) ?_ rfl ⟨A, O, 0, 0, HE.out.1.1, rfl, HE.out.2.1, HE.out.2.2⟩
    simp [results, Try.results139, go_sem, d0, d1, d2]
  · have HZ := H2
    clear hc2 H2
    rcases (by omega : v = 5 ∨ v = 6 ∨ v = 7 ∨ v = 8 ∨ v = 9 ∨ v = 10 ∨ v = 11) with rfl | rfl | rfl | rfl | rfl | rfl | rfl
    all_goals
      have HE := Lib.hid (HZ.out.done hlt)
      obtain ⟨c0, c1, c2, f0, f1, f2⟩ := HZ.out.ch.all
      obtain ⟨r0, r1, r2, s0, s1, s2⟩ := HZ.out.res.all
      go_wp2
      unfold putC at HE
      obtain ⟨w9, hw9⟩ : ∃ w9, (((w2).setCell ⟨w.heap.size, 0, none⟩ (.float .f32 A)).setCell ⟨w.heap.size, 1, none⟩ (.float .f32 O)).setCell ⟨w.heap.size, 2, none⟩ (.complex .f32 X Y) = w9 := ⟨_, rfl⟩
      rw [hw9] at HE ⊢
      obtain ⟨d0, d1, d2, _, _, _⟩ := HE.out.1.all
      refine bodyPost_ret (v := .agg #[.float .f32 A, .float .f32 O, .complex .f32 X Y]) ?_ rfl ⟨A, O, X, Y, HE.out.1.1, rfl, HE.out.2.1, HE.out.2.2⟩
      simp [results, Try.results139, go_sem, d0, d1, d2]
theorem Src.below {w w' : World} {b b' : Nat} {a : Option Addr} {len cap : Nat} (h : Src w b a len cap) (hb : Below w.heap.size w w') (hle : b ≤ b') : Src w' b' a len cap := by
  refine ⟨h.1, fun i hi => ?_⟩
  obtain ⟨g, off, z, h1, h2, h3, h4⟩ := h.2 i hi
  exact ⟨g, off, z, h1, by omega, h3, (grown_of hb).cell h4 (by simp)⟩
theorem fldA (A O X Y : Nat) (w : World) : (Instr.field 29 (.agg #[.float .f32 A, .float .f32 O, .complex .f32 X Y]) 0).run Try.prog w = .ok (.float .f32 A) w := by kernel_rfl
theorem fldO (A O X Y : Nat) (w : World) : (Instr.field 29 (.agg #[.float .f32 A, .float .f32 O, .complex .f32 X Y]) 1).run Try.prog w = .ok (.float .f32 O) w := by kernel_rfl
theorem fldG (A O X Y : Nat) (w : World) : (Instr.field 29 (.agg #[.float .f32 A, .float .f32 O, .complex .f32 X Y]) 2).run Try.prog w = .ok (.complex .f32 X Y) w := by kernel_rfl
def DrawPw (w : World) (e : Ending) (w' : World) : Prop := ∃ X Y, (X < 2 ^ 32 ∧ Y < 2 ^ 32) ∧ e = .returned (.complex .f32 X Y) ∧ Below w.heap.size w w'
def DrawTm (w : World) (e : Ending) (w' : World) : Prop := ∃ u v X Y, ((u < 2 ^ 32 ∧ v < 2 ^ 32) ∧ X < 2 ^ 32 ∧ Y < 2 ^ 32) ∧ e = .returned (.tuple #[.complex .f32 u v, .complex .f32 X Y]) ∧ Below w.heap.size w w'
def DrawCh (w : World) (e : Ending) (w' : World) : Prop := ∃ A O X Y, PlainC ⟨A, O, X, Y⟩ ∧ e = .returned (.agg #[.float .f32 A, .float .f32 O, .complex .f32 X Y]) ∧ Below w.heap.size w w'
set_option maxHeartbeats 1000000 in
theorem drawCh_any (a : Option Addr) (len cap : Nat) (w : World) (hs : Src w w.heap.size a len cap) :
    Calls Try.prog 14 #[.slice a len cap] w fun e w' => DrawCh w e w' := by
  have hR := HoldC.new w (A := 0) (O := 0) (X := 0) (Y := 0) (by decide)
  have hbR : Below w.heap.size w (w.alloc (.cells #[.float .f32 0, .float .f32 0, .complex .f32 0 0] 29)) := (Below.refl _ _).alloc (Nat.le_refl _) _
  have hszR : (w.alloc (.cells #[.float .f32 0, .float .f32 0, .complex .f32 0 0] 29)).heap.size = w.heap.size + 1 := by simp
  have HN := Lib.hid (l01New_any a len cap (w.alloc (.cells #[.float .f32 0, .float .f32 0, .complex .f32 0 0] 29)) (hs.below hbR (by omega)))
  have HR := Lib.hid hR
  clear hs hR
  go_enter Try.func14, Try.ntmps14
  go_wp2_with fail
  generalize w.alloc (.cells #[.float .f32 0, .float .f32 0, .complex .f32 0 0] 29) = wR at *
  refine HN.out.mono ?_
  rintro e w1 ⟨rfl, hc1, hg1⟩
  go_wp2_with fail
  rw [hszR] at hc1
  refine (l05Plain_any _ _ hc1).mono ?_
  rintro e w2 ⟨A, O, X, Y, hp, rfl, hc2, hg2⟩
  have HP := Lib.hid hp
  have hR2 := (HR.out.kept hg1 (by simp)).kept hg2 (by intro e; have := Option.some.inj e; omega)
  have HE := Lib.hid (hR2.put (A' := A) (O' := O) (X' := X) (Y' := Y) hp.fit)
  have hb2 := below_trans hbR (drawn hg1 (hszR.symm ▸ hg2)) (by omega)
  have HB2 := Lib.hid (show Below w.heap.size w (putC w2 w.heap.size A O X Y) from ((hb2.setCell (p := ⟨w.heap.size, 0, none⟩) (Nat.le_refl _) _).setCell (p := ⟨w.heap.size, 1, none⟩) (Nat.le_refl _) _).setCell (p := ⟨w.heap.size, 2, none⟩) (Nat.le_refl _) _)
  obtain ⟨r0, r1, r2, s0, s1, s2⟩ := hR2.all
  clear hp hR2 HR hb2 hbR hg1 hg2 hc1 hc2 HN
  go_wp2
  unfold putC at HE HB2
  generalize (((w2.setCell ⟨w.heap.size, 0, none⟩ (.float .f32 A)).setCell ⟨w.heap.size, 1, none⟩ (.float .f32 O)).setCell ⟨w.heap.size, 2, none⟩ (.complex .f32 X Y)) = w9 at *
  obtain ⟨d0, d1, d2, _, _, _⟩ := HE.out.all
  refine bodyPost_ret (v := .agg #[.float .f32 A, .float .f32 O, .complex .f32 X Y]) ?_ rfl ⟨A, O, X, Y, HP.out, rfl, HB2.out⟩
  simp [results, Try.results14, go_sem, d0, d1, d2]
def DrawEc (w : World) (e : Ending) (w' : World) : Prop := ∃ v xs n k, (xs.length ≤ 5000 ∧ I64 n ∧ k < 2 ^ 32) ∧ e = .returned (.tuple #[v, .int .i64 n, .float .f32 k]) ∧ FRow w' v xs ∧ Below w.heap.size w w'
theorem DrawEc.mk {w w' : World} {v : Value} {xs : List Nat} {n : Int} {k : Nat} (h : xs.length ≤ 5000 ∧ I64 n ∧ k < 2 ^ 32) (hr : FRow w' v xs) (hb : Below w.heap.size w w') : DrawEc w (.returned (.tuple #[v, .int .i64 n, .float .f32 k])) w' := ⟨v, xs, n, k, h, rfl, hr, hb⟩
end Go.Proofs.Ytgecclccmmcdoaa
