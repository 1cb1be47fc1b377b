/-
  What is proved: what the model draws as a channel of small dyadic numbers.
  Conditions: the cursor's block holds a cursor.
-/
import Derived.Test.YtnedmhhodmmddaaUndo
import Derived.Test.YtnedmhhodmmddaaDrawRow
namespace Go.Proofs.Ytnedmhhodmmddaa
set_option linter.unusedVariables false
open Go.RowKit
open Flt (Q)
attribute [local go_sem] run_store_float run_store_complex unary_negf neg256

theorem Flt.Q.down {e j x : Nat} {a : Int} (h : Flt.Q e x (a * 2 ^ j)) : Flt.Q (e + j) x a := by
  obtain ⟨h0, s, u, hx, ha⟩ := h
  exact ⟨h0, s, u, hx, by rw [ha, Int.mul_assoc, Flt.pow_cast, Flt.pow_cast, Flt.pow_cast, ← Int.natCast_mul, ← Nat.pow_add, Nat.add_comm j e]⟩
theorem q_int {n : Int} (h : n.natAbs < 2 ^ 20) : Q 149 (floatOfInt .f32 n) n := by
  have h1 := (Flt.Sx.ofInt h).q
  have e : 16 * n = n * 2 ^ 4 := by omega
  rw [e] at h1
  exact h1.down
theorem quarter {n : Int} (h : n.natAbs < 2 ^ 20) : ∃ r, floatBits .quo .f32 (floatOfInt .f32 n) 1082130432 = some r ∧ Q 147 r n := by
  obtain ⟨r, h1, h2⟩ := (q_int h).quo (f := 147) (show Ieee.single.read 1082130432 = .number false 8388608 (-21) by decide +kernel) (by omega) (by decide) (by decide)
  exact ⟨r, h1, h2⟩
theorem eighth {n : Int} (h : n.natAbs < 2 ^ 20) : ∃ r, floatBits .quo .f32 (floatOfInt .f32 n) 1090519040 = some r ∧ Q 146 r n := by
  obtain ⟨r, h1, h2⟩ := (q_int h).quo (f := 146) (show Ieee.single.read 1090519040 = .number false 8388608 (-20) by decide +kernel) (by omega) (by decide) (by decide)
  exact ⟨r, h1, h2⟩
/-- The gains of brightness that are drawn. -/
def GainOf (A : Nat) (α : Int) : Prop := A = 1048576000 ∧ α = 1 ∨ A = 1056964608 ∧ α = 2 ∨ A = 1065353216 ∧ α = 4 ∨ A = 1073741824 ∧ α = 8
theorem gain_quo {n : Int} (h : n = 1 ∨ n = 2 ∨ n = 4 ∨ n = 8) : ∃ r, floatBits .quo .f32 (floatOfInt .f32 n) 1082130432 = some r ∧ GainOf r n := by
  rcases h with rfl | rfl | rfl | rfl
  · exact ⟨1048576000, by decide +kernel, .inl ⟨rfl, rfl⟩⟩
  · exact ⟨1056964608, by decide +kernel, .inr (.inl ⟨rfl, rfl⟩)⟩
  · exact ⟨1065353216, by decide +kernel, .inr (.inr (.inl ⟨rfl, rfl⟩))⟩
  · exact ⟨1073741824, by decide +kernel, .inr (.inr (.inr ⟨rfl, rfl⟩))⟩
theorem GainOf.q {A : Nat} {α : Int} (h : GainOf A α) : Q 147 A α := by
  rcases h with ⟨rfl, rfl⟩ | ⟨rfl, rfl⟩ | ⟨rfl, rfl⟩ | ⟨rfl, rfl⟩
  · exact Flt.q_word (by decide) (show Ieee.single.read 1048576000 = .number false 8388608 (-25) by decide +kernel) (by decide +kernel)
  · exact Flt.q_word (by decide) (show Ieee.single.read 1056964608 = .number false 8388608 (-24) by decide +kernel) (by decide +kernel)
  · exact Flt.q_word (by decide) (show Ieee.single.read 1065353216 = .number false 8388608 (-23) by decide +kernel) (by decide +kernel)
  · exact Flt.q_word (by decide) (show Ieee.single.read 1073741824 = .number false 8388608 (-22) by decide +kernel) (by decide +kernel)
/-- A channel of small dyadic numbers. -/
def PlainC (h : Chn) : Prop := ∃ α ω ξ η, PlainH h α ω ξ η ∧ GainOf h.A α
theorem PlainC.mk {A O X Y : Nat} {α ω ξ η : Int} (hA : GainOf A α) (hO : Q 146 O ω) (hX : Q 147 X ξ) (hY : Q 147 Y η) (h1 : ω.natAbs ≤ 32) (h2 : ξ.natAbs ≤ 8) (h3 : η.natAbs ≤ 8) : PlainC ⟨A, O, X, Y⟩ := by
  refine ⟨α, ω, ξ, η, ⟨⟨hA.q, hO, hX, hY⟩, ?_, h1, h2, h3⟩, hA⟩
  rcases hA with ⟨_, rfl⟩ | ⟨_, rfl⟩ | ⟨_, rfl⟩ | ⟨_, rfl⟩ <;> decide
def Four (x : Int) : Prop := x = 1 ∨ x = 2 ∨ x = 4 ∨ x = 8
def chV (h : Chn) : Value := .agg #[.float .f32 h.A, .float .f32 h.O, .complex .f32 h.X h.Y]
def ChPost (b : Nat) (w : World) (e : Ending) (w' : World) : Prop := ∃ A O X Y, PlainC ⟨A, O, X, Y⟩ ∧ e = .returned (.agg #[.float .f32 A, .float .f32 O, .complex .f32 X Y]) ∧ Cur w' b ∧ w.grownBy w' (some b)
set_option maxHeartbeats 400000 in
theorem l05Plain_any (b : Nat) (w : World) (hc : Cur w b) :
    Calls Try.prog 39 #[.pointer (some ⟨b, 0, none⟩)] w fun e w' => ChPost b w e w' := by
  have hlt := hc.lt
  have hcA := hc.alloc (.cells #[.float .f32 0, .float .f32 0, .complex .f32 0 0] 33)
  have hgA := World.grownBy_alloc w (.cells #[.float .f32 0, .float .f32 0, .complex .f32 0 0] 33) (some b)
  have hnew := heap_alloc_new w (.cells #[.float .f32 0, .float .f32 0, .complex .f32 0 0] 33)
  have hsA : w.heap.size < (w.alloc (.cells #[.float .f32 0, .float .f32 0, .complex .f32 0 0] 33)).heap.size := by simp
  have hszA : (w.alloc (.cells #[.float .f32 0, .float .f32 0, .complex .f32 0 0] 33)).heap.size = w.heap.size + 1 := by simp
  have HN := Lib.hid hnew
  clear hc hnew
  go_enter Try.func39, Try.ntmps39
  go_wp2_with fail
  generalize w.alloc (.cells #[.float .f32 0, .float .f32 0, .complex .f32 0 0] 33) = wA at *
  have hnl := Nums.lit (P := Four) wA 3 [1, 2, 4, 8] (by unfold Four; decide)
  rw [hszA] at hnl
  have HNL := Lib.hid hnl
  clear hnl hszA
  refine (l01PickInt_any Four b _ 4 4 _ (hcA.alloc _) (by decide) (by decide) (by have := hcA.lt; omega) (by decide) HNL.out).mono ?_
  rintro e w1 ⟨x1, hx1, rfl, hc1, hgx⟩
  have hg1 := (World.grownBy_alloc wA (.cells #[.int .i64 1, .int .i64 2, .int .i64 4, .int .i64 8] 3) (some b)).trans hgx
  obtain ⟨A, hA, gA⟩ := gain_quo hx1
  have qA := fun W => run_float_arith (P := Try.prog) W .quo 30 .f32 _ _ _ hA
  have HA := Lib.hid gA
  clear hA gA hx1 hgx HNL
  go_wp2_with fail
  refine (l01Below_any b _ _ hc1 (by decide) (by decide)).mono ?_
  rintro e w2 ⟨x2, hx2, _, rfl, hc2, hg2⟩
  have hx2 := hx2 (by decide)
  obtain ⟨X, hX, qX⟩ := quarter (n := (x2 : Int) - 8) (by omega)
  have qx := fun W => run_float_arith (P := Try.prog) W .quo 30 .f32 _ _ _ hX
  have HX := Lib.hid qX
  clear hX qX
  go_wp2_with fail
  refine (l01Below_any b _ _ hc2 (by decide) (by decide)).mono ?_
  rintro e w3 ⟨x3, hx3, _, rfl, hc3, hg3⟩
  have hx3 := hx3 (by decide)
  obtain ⟨O, hO, qO⟩ := eighth (n := (x3 : Int) - 32) (by omega)
  have qo := fun W => run_float_arith (P := Try.prog) W .quo 30 .f32 _ _ _ hO
  have HO := Lib.hid qO
  clear hO qO
  go_wp2_with fail
  refine (l01Below_any b _ _ hc3 (by decide) (by decide)).mono ?_
  rintro e w4 ⟨x4, hx4, _, rfl, hc4, hg4⟩
  have hx4 := hx4 (by decide)
  obtain ⟨Y, hY, qY⟩ := quarter (n := (x4 : Int) - 8) (by omega)
  have qy := fun W => run_float_arith (P := Try.prog) W .quo 30 .f32 _ _ _ hY
  have HY := Lib.hid qY
  clear hY qY
  have hg := ((hg1.trans hg2).trans hg3).trans hg4
  have hB : w4.heap[w.heap.size]? = some (.cells #[.float .f32 0, .float .f32 0, .complex .f32 0 0] 33 (0, 0)) := (hg.block _ hsA (by intro h; cases h; omega)).trans HN.out
  have c0 : w4.cell? ⟨w.heap.size, 0, none⟩ = some (.float .f32 0) := by simp [World.cell?, hB]
  have c1 : w4.cell? ⟨w.heap.size, 1, none⟩ = some (.float .f32 0) := by simp [World.cell?, hB]
  have c2 : w4.cell? ⟨w.heap.size, 2, none⟩ = some (.complex .f32 0 0) := by simp [World.cell?, hB]
  have f0 : w4.frozen? ⟨w.heap.size, 0, none⟩ = false := by simp [World.frozen?, hB]
  have f1 : w4.frozen? ⟨w.heap.size, 1, none⟩ = false := by simp [World.frozen?, hB]
  have f2 : w4.frozen? ⟨w.heap.size, 2, none⟩ = false := by simp [World.frozen?, hB]
  have hB2 := heap_put (i := 2) (v := .complex .f32 X Y) (heap_put (i := 1) (v := .float .f32 O) (heap_put (i := 0) (v := .float .f32 A) hB))
  have hgr := grown_set (grown_set (grown_set (hgA.trans hg) (p := ⟨w.heap.size, 0, none⟩) (Nat.le_refl _) (.float .f32 A)) (p := ⟨w.heap.size, 1, none⟩) (Nat.le_refl _) (.float .f32 O)) (p := ⟨w.heap.size, 2, none⟩) (Nat.le_refl _) (.complex .f32 X Y)
  have hcr := ((hc4.set (p := ⟨w.heap.size, 0, none⟩) hlt (.float .f32 A)).set (p := ⟨w.heap.size, 1, none⟩) hlt (.float .f32 O)).set (p := ⟨w.heap.size, 2, none⟩) hlt (.complex .f32 X Y)
  have HPC := Lib.hid (PlainC.mk HA.out HO.out HX.out HY.out (by omega) (by omega) (by omega))
  clear hB hc1 hc2 hc3 hc4 hg1 hg2 hg3 hg4 hg hgA hcA
  have HB := Lib.hid hB2
  clear hB2
  go_wp2
  generalize (((w4.setCell ⟨w.heap.size, 0, none⟩ (.float .f32 A)).setCell ⟨w.heap.size, 1, none⟩ (.float .f32 O)).setCell ⟨w.heap.size, 2, none⟩ (.complex .f32 X Y)) = w5 at *
  have d0 : w5.cell? ⟨w.heap.size, 0, none⟩ = some (.float .f32 A) := by have := HB.out; simp [World.cell?, this]
  have d1 : w5.cell? ⟨w.heap.size, 1, none⟩ = some (.float .f32 O) := by have := HB.out; simp [World.cell?, this]
  have d2 : w5.cell? ⟨w.heap.size, 2, none⟩ = some (.complex .f32 X Y) := by have := HB.out; simp [World.cell?, this]
  refine bodyPost_ret (v := .agg #[.float .f32 A, .float .f32 O, .complex .f32 X Y]) ?_ rfl ⟨A, O, X, Y, HPC.out, rfl, hcr, hgr⟩
  simp [results, Try.results39, go_sem, d0, d1, d2]
end Go.Proofs.Ytnedmhhodmmddaa
