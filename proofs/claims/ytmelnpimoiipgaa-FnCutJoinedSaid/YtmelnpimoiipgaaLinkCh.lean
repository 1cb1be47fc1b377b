/-
  What is proved: what the model draws as a link: a picture and a channel.
  Conditions: the bytes can be read.
-/
import Derived.Test.YtmelnpimoiipgaaPictL
import Derived.Test.YtmelnpimoiipgaaDraw5
namespace Go.Proofs.Ytmelnpimoiipgaa
set_option linter.unusedVariables false
open Go.RowKit
open Flt (Q)
attribute [local go_sem] run_store_float run_store_complex unary_negf neg256

theorem half_of {n : Int} (h : n.natAbs < 2 ^ 20) : ∃ r, floatBits .quo .f32 (floatOfInt .f32 n) 1073741824 = some r ∧ Q 148 r n := by
  obtain ⟨r, h1, h2⟩ := (q_int h).quo (f := 148) (show Ieee.single.read 1073741824 = .number false 8388608 (-22) by decide +kernel) (by omega) (by decide) (by decide)
  exact ⟨r, h1, h2⟩
def ThreeG (x : Int) : Prop := x = 1 ∨ x = 2 ∨ x = 4
def FourG (x : Int) : Prop := x = 1 ∨ x = 2 ∨ x = -1 ∨ x = -2
/-- A channel of a link. -/
def LinkH (h : Chn) : Prop := ∃ α ω ξ η : Int, ThreeG α ∧ FourG ξ ∧ ω.natAbs ≤ 32 ∧ η.natAbs ≤ 4 ∧ Q 148 h.A α ∧ Q 146 h.O ω ∧ Q 147 h.X (α * ξ) ∧ Q 146 h.Y (α * η)
theorem ThreeG.le {x : Int} (h : ThreeG x) : x.natAbs ≤ 4 := by rcases h with rfl | rfl | rfl <;> decide
theorem FourG.le {x : Int} (h : FourG x) : x.natAbs ≤ 2 := by rcases h with rfl | rfl | rfl | rfl <;> decide
theorem gain_x {A X : Nat} {α ξ : Int} (hA : Q 148 A α) (hX : Q 148 X ξ) (h1 : α.natAbs ≤ 4) (h2 : ξ.natAbs ≤ 4) : ∃ r, floatBits .mul .f32 A X = some r ∧ Q 147 r (α * ξ) := by
  have hm := Nat.mul_le_mul h1 h2
  rw [← Int.natAbs_mul] at hm
  obtain ⟨r, k1, k2⟩ := hA.mul hX (Nat.lt_of_le_of_lt hm (by decide)) (by omega) (by omega)
  exact ⟨r, k1, k2⟩
theorem gain_y {A Y : Nat} {α η : Int} (hA : Q 148 A α) (hY : Q 147 Y η) (h1 : α.natAbs ≤ 4) (h2 : η.natAbs ≤ 4) : ∃ r, floatBits .mul .f32 A Y = some r ∧ Q 146 r (α * η) := by
  have hm := Nat.mul_le_mul h1 h2
  rw [← Int.natAbs_mul] at hm
  obtain ⟨r, k1, k2⟩ := hA.mul hY (Nat.lt_of_le_of_lt hm (by decide)) (by omega) (by omega)
  exact ⟨r, k1, k2⟩
def LkPost (b : Nat) (w : World) (e : Ending) (w' : World) : Prop := ∃ A O X Y, LinkH ⟨A, O, X, Y⟩ ∧ e = .returned (.agg #[.float .f32 A, .float .f32 O, .complex .f32 X Y]) ∧ Cur w' b ∧ w.grownBy w' (some b)
theorem q_lt {e x : Nat} {a : Int} (h : Q e x a) : x < 2 ^ 32 := h.1
set_option maxHeartbeats 1000000 in
theorem l08Channel_any (b : Nat) (w : World) (hc : Cur w b) :
    Calls Try.prog 60 #[.pointer (some ⟨b, 0, none⟩)] w fun e w' => LkPost b w e w' := by
  have hlt := hc.lt
  have hcA := hc.alloc (.cells #[.float .f32 0, .float .f32 0, .complex .f32 0 0] 35)
  have hgA := World.grownBy_alloc w (.cells #[.float .f32 0, .float .f32 0, .complex .f32 0 0] 35) (some b)
  have hnew := heap_alloc_new w (.cells #[.float .f32 0, .float .f32 0, .complex .f32 0 0] 35)
  have hsA : w.heap.size < (w.alloc (.cells #[.float .f32 0, .float .f32 0, .complex .f32 0 0] 35)).heap.size := by simp
  have hszA : (w.alloc (.cells #[.float .f32 0, .float .f32 0, .complex .f32 0 0] 35)).heap.size = w.heap.size + 1 := by simp
  have HN := Lib.hid hnew
  clear hc hnew
  go_enter Try.func60, Try.ntmps60
  go_wp2_with fail
  generalize w.alloc (.cells #[.float .f32 0, .float .f32 0, .complex .f32 0 0] 35) = wA at *
  have hnl := Nums.lit (P := ThreeG) wA 3 [1, 2, 4] (by unfold ThreeG; decide)
  rw [hszA] at hnl
  have HNL := Lib.hid hnl
  clear hnl hszA
  refine (l01PickInt_any ThreeG b _ 3 3 _ (hcA.alloc _) (by decide) (by decide) (by have := hcA.lt; omega) (by decide) HNL.out).mono ?_
  rintro e w1 ⟨x1, hx1, rfl, hc1, hgx⟩
  have hg1 := (World.grownBy_alloc wA (.cells #[.int .i64 1, .int .i64 2, .int .i64 4] 3) (some b)).trans hgx
  have hx1l := hx1.le
  obtain ⟨A, hA, gA⟩ := half_of (n := x1) (by omega)
  have qA := fun W => run_float_arith (P := Try.prog) W .quo 25 .f32 _ _ _ hA
  have HA := Lib.hid gA
  have HX1 := Lib.hid hx1
  clear hA gA hx1 hgx HNL
  go_wp2_with fail
  have HNL := Lib.hid (Nums.lit (P := FourG) w1 3 [1, 2, -1, -2] (by unfold FourG; decide))
  refine (l01PickInt_any FourG b _ 4 4 _ (hc1.alloc _) (by decide) (by decide) (by have := hc1.lt; omega) (by decide) HNL.out).mono ?_
  rintro e w2 ⟨x2, hx2, rfl, hc2, hgx⟩
  have hg2 := (World.grownBy_alloc w1 (.cells #[.int .i64 1, .int .i64 2, .int .i64 (-1), .int .i64 (-2)] 3) (some b)).trans hgx
  have hx2l := hx2.le
  obtain ⟨X0, hX, qX⟩ := half_of (n := x2) (by omega)
  have qx := fun W => run_float_arith (P := Try.prog) W .quo 25 .f32 _ _ _ hX
  have HX2 := Lib.hid hx2
  obtain ⟨X, hX', qX'⟩ := gain_x HA.out qX (by omega) (by omega)
  have qx' := fun W => run_float_arith (P := Try.prog) W .mul 25 .f32 _ _ _ hX'
  have HX := Lib.hid qX'
  clear hX qX hX' qX' hx2 hgx HNL
  go_wp2_with fail
  refine (l01Below_any b _ _ hc2 (by decide) (by decide)).mono ?_
  rintro e w3 ⟨x3, hx3, _, rfl, hc3, hg3⟩
  have hx3 := hx3 (by decide)
  obtain ⟨Y0, hY, qY⟩ := quarter (n := (x3 : Int) - 4) (by omega)
  have qy := fun W => run_float_arith (P := Try.prog) W .quo 25 .f32 _ _ _ hY
  obtain ⟨Y, hY', qY'⟩ := gain_y HA.out qY (by omega) (by omega)
  have qy' := fun W => run_float_arith (P := Try.prog) W .mul 25 .f32 _ _ _ hY'
  have HY := Lib.hid qY'
  clear hY qY hY' qY'
  go_wp2_with fail
  refine (l01Below_any b _ _ hc3 (by decide) (by decide)).mono ?_
  rintro e w4 ⟨x4, hx4, _, rfl, hc4, hg4⟩
  have hx4 := hx4 (by decide)
  obtain ⟨O, hO, qO⟩ := eighth (n := (x4 : Int) - 32) (by omega)
  have qo := fun W => run_float_arith (P := Try.prog) W .quo 25 .f32 _ _ _ hO
  have HO := Lib.hid qO
  clear hO qO
  have hg := ((hg1.trans hg2).trans hg3).trans hg4
  have hB : w4.heap[w.heap.size]? = some (.cells #[.float .f32 0, .float .f32 0, .complex .f32 0 0] 35 (0, 0)) := (hg.block _ hsA (by intro h; cases h; omega)).trans HN.out
  have c0 : w4.cell? ⟨w.heap.size, 0, none⟩ = some (.float .f32 0) := by simp [World.cell?, hB]
  have c1 : w4.cell? ⟨w.heap.size, 1, none⟩ = some (.float .f32 0) := by simp [World.cell?, hB]
  have c2 : w4.cell? ⟨w.heap.size, 2, none⟩ = some (.complex .f32 0 0) := by simp [World.cell?, hB]
  have f0 : w4.frozen? ⟨w.heap.size, 0, none⟩ = false := by simp [World.frozen?, hB]
  have f1 : w4.frozen? ⟨w.heap.size, 1, none⟩ = false := by simp [World.frozen?, hB]
  have f2 : w4.frozen? ⟨w.heap.size, 2, none⟩ = false := by simp [World.frozen?, hB]
  have hB2 := heap_put (i := 2) (v := .complex .f32 X Y) (heap_put (i := 1) (v := .float .f32 O) (heap_put (i := 0) (v := .float .f32 A) hB))
  have hgr := grown_set (grown_set (grown_set (hgA.trans hg) (p := ⟨w.heap.size, 0, none⟩) (Nat.le_refl _) (.float .f32 A)) (p := ⟨w.heap.size, 1, none⟩) (Nat.le_refl _) (.float .f32 O)) (p := ⟨w.heap.size, 2, none⟩) (Nat.le_refl _) (.complex .f32 X Y)
  have hcr := ((hc4.set (p := ⟨w.heap.size, 0, none⟩) hlt (.float .f32 A)).set (p := ⟨w.heap.size, 1, none⟩) hlt (.float .f32 O)).set (p := ⟨w.heap.size, 2, none⟩) hlt (.complex .f32 X Y)
  have HPC := Lib.hid (show LinkH ⟨A, O, X, Y⟩ from ⟨_, _, _, _, HX1.out, HX2.out, by omega, by omega, HA.out, HO.out, HX.out, HY.out⟩)
  clear hB hc1 hc2 hc3 hc4 hg1 hg2 hg3 hg4 hg hgA hcA
  have HB := Lib.hid hB2
  clear hB2
  go_wp2
  generalize (((w4.setCell ⟨w.heap.size, 0, none⟩ (.float .f32 A)).setCell ⟨w.heap.size, 1, none⟩ (.float .f32 O)).setCell ⟨w.heap.size, 2, none⟩ (.complex .f32 X Y)) = w5 at *
  have d0 : w5.cell? ⟨w.heap.size, 0, none⟩ = some (.float .f32 A) := by have := HB.out; simp [World.cell?, this]
  have d1 : w5.cell? ⟨w.heap.size, 1, none⟩ = some (.float .f32 O) := by have := HB.out; simp [World.cell?, this]
  have d2 : w5.cell? ⟨w.heap.size, 2, none⟩ = some (.complex .f32 X Y) := by have := HB.out; simp [World.cell?, this]
  refine bodyPost_ret (v := .agg #[.float .f32 A, .float .f32 O, .complex .f32 X Y]) ?_ rfl ⟨A, O, X, Y, HPC.out, rfl, hcr, hgr⟩
  simp [results, Try.results60, go_sem, d0, d1, d2]
structure LinkP (w w' : World) (W g cap base : Nat) (rs : List (List C3)) (ss : List SV) (A O X Y : Nat) : Prop where
  wide1 : 1 ≤ W ∧ W ≤ 4
  high : rs.length = 4 ∨ rs.length = 8
  chan : LinkH ⟨A, O, X, Y⟩
  baseL : w.heap.size ≤ base
  grid : GridC w' base (.slice (some ⟨g, 0, none⟩) rs.length cap) rs ss
  done : DoneL rs W rs.length 0
  wide : ∀ r ∈ rs, r.length = W
  below : Below w.heap.size w w'
def DrawLk (w : World) (e : Ending) (w' : World) : Prop := ∃ W g cap base rs ss A O X Y, LinkP w w' W g cap base rs ss A O X Y ∧ e = .returned (.tuple #[.slice (some ⟨g, 0, none⟩) rs.length cap, .agg #[.float .f32 A, .float .f32 O, .complex .f32 X Y]])
set_option maxHeartbeats 1000000 in
theorem drawLink_any (a : Option Addr) (len cap : Nat) (w : World) (hs : Src w w.heap.size a len cap) :
    Calls Try.prog 16 #[.slice a len cap] w fun e w' => DrawLk w e w' := by
  have hR := HoldC.new w (A := 0) (O := 0) (X := 0) (Y := 0) (by decide)
  have hbR : Below w.heap.size w (w.alloc (.cells #[.float .f32 0, .float .f32 0, .complex .f32 0 0] 35)) := (Below.refl _ _).alloc (Nat.le_refl _) _
  have hszR : (w.alloc (.cells #[.float .f32 0, .float .f32 0, .complex .f32 0 0] 35)).heap.size = w.heap.size + 1 := by simp
  have HN := Lib.hid (l01New_any a len cap (w.alloc (.cells #[.float .f32 0, .float .f32 0, .complex .f32 0 0] 35)) (hs.below hbR (by omega)))
  have HR := Lib.hid hR
  clear hs hR
  go_enter Try.func16, Try.ntmps16
  go_wp2_with fail
  generalize w.alloc (.cells #[.float .f32 0, .float .f32 0, .complex .f32 0 0] 35) = wR at *
  refine HN.out.mono ?_
  rintro e w1 ⟨rfl, hc1, hg1⟩
  rw [hszR] at hc1
  go_wp2_with fail
  refine (l08Picture_any _ _ hc1).mono ?_
  rintro e w2 ⟨W, g, cp, rs, ss, hW, hH, rfl, hpl, hdl⟩
  have hgp := hpl.grown
  have hc2 := hpl.cur
  have HP := Lib.hid hpl
  have HD := Lib.hid hdl
  have HH := Lib.hid hH
  clear hpl hdl hH
  go_wp2_with fail
  refine (l08Channel_any _ _ hc2).mono ?_
  rintro e w3 ⟨A, O, X, Y, hp, rfl, hc3, hg3⟩
  have HC := Lib.hid hp
  have hlt1 := hc1.lt
  have HG3 := Lib.hid ((HP.out.next hlt1 hc3 hg3).grid)
  have hs1 : w.heap.size + 1 < w1.heap.size := hlt1
  have hR2 := ((HR.out.kept hg1 (by simp)).kept hgp (by intro e; have := Option.some.inj e; omega)).kept hg3 (by intro e; have := Option.some.inj e; omega)
  have HE := Lib.hid (hR2.put (A' := A) (O' := O) (X' := X) (Y' := Y) ⟨q_lt (Classical.choose_spec (Classical.choose_spec (Classical.choose_spec (Classical.choose_spec hp)))).2.2.2.2.2.2.1, q_lt (Classical.choose_spec (Classical.choose_spec (Classical.choose_spec (Classical.choose_spec hp)))).2.2.2.2.2.2.2⟩)
  have hb2 := below_trans hbR (drawn hg1 (hszR.symm ▸ hgp.trans hg3)) (by omega)
  have HB2 := Lib.hid (show Below w.heap.size w (putC w3 w.heap.size A O X Y) from ((hb2.setCell (p := ⟨w.heap.size, 0, none⟩) (Nat.le_refl _) _).setCell (p := ⟨w.heap.size, 1, none⟩) (Nat.le_refl _) _).setCell (p := ⟨w.heap.size, 2, none⟩) (Nat.le_refl _) _)
  have HG4 := Lib.hid (show GridC (putC w3 w.heap.size A O X Y) w1.heap.size (.slice (some ⟨g, 0, none⟩) rs.length cp) rs ss from HG3.out.kept (row := some w.heap.size) (((Lib.grownBy_setCell w3 w.heap.size 0 _).trans (Lib.grownBy_setCell _ w.heap.size 1 _)).trans (Lib.grownBy_setCell _ w.heap.size 2 _)) (fun r e => by cases e; left; omega))
  obtain ⟨r0, r1, r2, s0, s1, s2⟩ := hR2.all
  clear hp hR2 HR hb2 hbR hg1 hgp hg3 hc1 hc2 hc3 HN HG3
  go_wp2
  unfold putC at HE HB2 HG4
  generalize (((w3.setCell ⟨w.heap.size, 0, none⟩ (.float .f32 A)).setCell ⟨w.heap.size, 1, none⟩ (.float .f32 O)).setCell ⟨w.heap.size, 2, none⟩ (.complex .f32 X Y)) = w9 at *
  obtain ⟨d0, d1, d2, _, _, _⟩ := HE.out.all
  refine bodyPost_ret (v := .tuple #[.slice (some ⟨g, 0, none⟩) rs.length cp, .agg #[.float .f32 A, .float .f32 O, .complex .f32 X Y]]) ?_ rfl ⟨W, g, cp, w1.heap.size, rs, ss, A, O, X, Y, ⟨hW, HH.out, HC.out, by omega, HG4.out, HD.out, HP.out.wide, HB2.out⟩, rfl⟩
  simp [results, Try.results16, go_sem, d0, d1, d2]
end Go.Proofs.Ytmelnpimoiipgaa
