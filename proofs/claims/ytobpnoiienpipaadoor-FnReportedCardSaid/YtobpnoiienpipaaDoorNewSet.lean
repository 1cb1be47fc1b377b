/-
  What is proved: the walks of NewSet, the program's and the model's.
  Conditions: the numbers are 64-bit ones.
-/
import Derived.Test.YtobpnoiienpipaaDoorSetOk
namespace Go.Proofs.YtobpnoiienpipaaDoor
set_option linter.unusedVariables false
open Go.RowKit
attribute [local go_sem] run_store_float run_store_complex unary_negf neg256 neg1024

/-- The set that NewSet makes, and the one of zeros. -/
def newC (c r : Int) : SetC := ⟨c, r, 3250585600, 1040187392, 1065353216⟩
def zeroC : SetC := ⟨0, 0, 0, 0, 0⟩
def newB (c r : Int) : Bool := setB (newC c r) 0
def newR (c r : Int) : SetC := if newB c r = true then newC c r else zeroC
theorem newC_ok {c r : Int} (h : I64 c) (h' : I64 r) : (newC c r).ok := ⟨h, h'⟩
theorem zeroC_ok : zeroC.ok := ⟨⟨by decide, by decide⟩, ⟨by decide, by decide⟩⟩
theorem newR_ok {c r : Int} (h : I64 c) (h' : I64 r) : (newR c r).ok := by
  unfold newR
  split
  · exact newC_ok h h'
  · exact zeroC_ok
theorem alloc2 (w : World) (o1 o2 : Obj) : ((w.alloc o1).alloc o2).heap[w.heap.size]? = some o1 ∧ ((w.alloc o1).alloc o2).heap[w.heap.size + 1]? = some o2 ∧
    ((w.alloc o1).alloc o2).heap.size = w.heap.size + 2 ∧ Below w.heap.size w ((w.alloc o1).alloc o2) := by
  have h1 : (w.alloc o1).heap.size = w.heap.size + 1 := by simp
  refine ⟨?_, ?_, by simp, ?_⟩
  · rw [alloc_keeps _ _ (by omega)]
    exact heap_alloc_new _ _
  · rw [← h1]
    exact heap_alloc_new _ _
  · exact ((Below.refl _ _).alloc (Nat.le_refl _) _).alloc (by omega) _
set_option maxHeartbeats 2000000 in
theorem newSet_any (c r : Int) (w : World) (hc : I64 c) (hr : I64 r) :
    Calls Tryd.prog 23 #[.int .i64 c, .int .i64 r] w fun e w' => e = .returned (.tuple #[(newR c r).val (.slice none 0 0), .bool (newB c r)]) ∧ Below w.heap.size w w' := by
  have HS := fun W => Lib.hid (setOk_any (newC c r) (.slice none 0 0) [] W (newC_ok hc hr) (.inl ⟨⟨_, _, rfl⟩, rfl⟩) (by simp))
  have hB : setB (newC c r) ([] : List (List UInt8)).length = newB c r := rfl
  simp only [hB] at HS
  unfold newR
  obtain ⟨b, hb⟩ : ∃ b, newB c r = b := ⟨_, rfl⟩
  rw [hb] at HS ⊢
  clear hB hb hc hr
  simp only [SetC.val, newC] at HS
  obtain ⟨k1, k2, hsz, hbl⟩ := alloc2 w (.cells #[.int .i64 0, .int .i64 0, .float .f32 0, .float .f32 0, .float .f32 0, .slice none 0 0] 27) (.cells #[.int .i64 c, .int .i64 r, .float .f32 3250585600, .float .f32 1040187392, .float .f32 1065353216, .slice none 0 0] 27)
  go_enter Tryd.func23, Tryd.ntmps23
  go_wp2_with fail
  generalize World.alloc (World.alloc w _) _ = X at *
  refine (HS X).out.mono ?_
  rintro e w1 ⟨rfl, hb1⟩
  have hbw := below_trans hbl hb1 hbl.size
  replace k1 := (hb1.block _ (by omega)).trans k1
  replace k2 := (hb1.block _ (by omega)).trans k2
  obtain ⟨p0, p1, p2, p3, p4, p5⟩ : (w1.cell? ⟨w.heap.size + 1, 0, none⟩ = some (.int .i64 c)) ∧ (w1.cell? ⟨w.heap.size + 1, 1, none⟩ = some (.int .i64 r)) ∧ (w1.cell? ⟨w.heap.size + 1, 2, none⟩ = some (.float .f32 3250585600)) ∧ (w1.cell? ⟨w.heap.size + 1, 3, none⟩ = some (.float .f32 1040187392)) ∧ (w1.cell? ⟨w.heap.size + 1, 4, none⟩ = some (.float .f32 1065353216)) ∧ (w1.cell? ⟨w.heap.size + 1, 5, none⟩ = some (.slice none 0 0)) := by
    refine ⟨?_, ?_, ?_, ?_, ?_, ?_⟩ <;> simp [World.cell?, k2]
  obtain ⟨r0, r1, r2, r3, r4, r5⟩ : (w1.cell? ⟨w.heap.size, 0, none⟩ = some (.int .i64 0)) ∧ (w1.cell? ⟨w.heap.size, 1, none⟩ = some (.int .i64 0)) ∧ (w1.cell? ⟨w.heap.size, 2, none⟩ = some (.float .f32 0)) ∧ (w1.cell? ⟨w.heap.size, 3, none⟩ = some (.float .f32 0)) ∧ (w1.cell? ⟨w.heap.size, 4, none⟩ = some (.float .f32 0)) ∧ (w1.cell? ⟨w.heap.size, 5, none⟩ = some (.slice none 0 0)) := by
    refine ⟨?_, ?_, ?_, ?_, ?_, ?_⟩ <;> simp [World.cell?, k1]
  obtain ⟨s0, s1, s2, s3, s4, s5⟩ : w1.frozen? ⟨w.heap.size, 0, none⟩ = false ∧ w1.frozen? ⟨w.heap.size, 1, none⟩ = false ∧ w1.frozen? ⟨w.heap.size, 2, none⟩ = false ∧ w1.frozen? ⟨w.heap.size, 3, none⟩ = false ∧ w1.frozen? ⟨w.heap.size, 4, none⟩ = false ∧ w1.frozen? ⟨w.heap.size, 5, none⟩ = false := by
    refine ⟨?_, ?_, ?_, ?_, ?_, ?_⟩ <;> simp [World.frozen?, k1]
  clear HS k1 k2 hb1 hsz
  cases b
  · go_wp2
    refine bodyPost_ret (v := .tuple #[.agg #[.int .i64 0, .int .i64 0, .float .f32 0, .float .f32 0, .float .f32 0, .slice none 0 0], .bool false]) ?_ rfl ⟨rfl, ?_⟩
    · simp [results, Tryd.results23, go_sem, r0, r1, r2, r3, r4, r5]
    · exact ((((((hbw.setCell (p := ⟨_, _, none⟩) (by simp) _).setCell (p := ⟨_, _, none⟩) (by simp) _).setCell (p := ⟨_, _, none⟩) (by simp) _).setCell (p := ⟨_, _, none⟩) (by simp) _).setCell (p := ⟨_, _, none⟩) (by simp) _).setCell (p := ⟨_, _, none⟩) (by simp) _)
  · go_wp2
    refine bodyPost_ret (v := .tuple #[.agg #[.int .i64 c, .int .i64 r, .float .f32 3250585600, .float .f32 1040187392, .float .f32 1065353216, .slice none 0 0], .bool true]) ?_ rfl ⟨rfl, ?_⟩
    · simp [results, Tryd.results23, go_sem, r0, r1, r2, r3, r4, r5]
    · exact ((((((hbw.setCell (p := ⟨_, _, none⟩) (by simp) _).setCell (p := ⟨_, _, none⟩) (by simp) _).setCell (p := ⟨_, _, none⟩) (by simp) _).setCell (p := ⟨_, _, none⟩) (by simp) _).setCell (p := ⟨_, _, none⟩) (by simp) _).setCell (p := ⟨_, _, none⟩) (by simp) _)
set_option maxHeartbeats 2000000 in
theorem specNewSet_any (c r : Int) (w : World) (hc : I64 c) (hr : I64 r) :
    Calls Tryd.prog 42 #[.int .i64 c, .int .i64 r] w fun e w' => e = .returned (.tuple #[(newR c r).val (.slice none 0 0), .bool (newB c r)]) ∧ Below w.heap.size w w' := by
  have HS := fun W => Lib.hid (specSetOk_any (newC c r) (.slice none 0 0) [] W (newC_ok hc hr) (.inl ⟨⟨_, _, rfl⟩, rfl⟩) (by simp))
  have hB : setB (newC c r) ([] : List (List UInt8)).length = newB c r := rfl
  simp only [hB] at HS
  unfold newR
  obtain ⟨b, hb⟩ : ∃ b, newB c r = b := ⟨_, rfl⟩
  rw [hb] at HS ⊢
  clear hB hb hc hr
  simp only [SetC.val, newC] at HS
  obtain ⟨k1, k2, hsz, hbl⟩ := alloc2 w (.cells #[.int .i64 0, .int .i64 0, .float .f32 0, .float .f32 0, .float .f32 0, .slice none 0 0] 27) (.cells #[.int .i64 c, .int .i64 r, .float .f32 3250585600, .float .f32 1040187392, .float .f32 1065353216, .slice none 0 0] 27)
  go_enter Tryd.func42, Tryd.ntmps42
  go_wp2_with fail
  generalize World.alloc (World.alloc w _) _ = X at *
  refine (HS X).out.mono ?_
  rintro e w1 ⟨rfl, hb1⟩
  have hbw := below_trans hbl hb1 hbl.size
  replace k1 := (hb1.block _ (by omega)).trans k1
  replace k2 := (hb1.block _ (by omega)).trans k2
  obtain ⟨p0, p1, p2, p3, p4, p5⟩ : (w1.cell? ⟨w.heap.size + 1, 0, none⟩ = some (.int .i64 c)) ∧ (w1.cell? ⟨w.heap.size + 1, 1, none⟩ = some (.int .i64 r)) ∧ (w1.cell? ⟨w.heap.size + 1, 2, none⟩ = some (.float .f32 3250585600)) ∧ (w1.cell? ⟨w.heap.size + 1, 3, none⟩ = some (.float .f32 1040187392)) ∧ (w1.cell? ⟨w.heap.size + 1, 4, none⟩ = some (.float .f32 1065353216)) ∧ (w1.cell? ⟨w.heap.size + 1, 5, none⟩ = some (.slice none 0 0)) := by
    refine ⟨?_, ?_, ?_, ?_, ?_, ?_⟩ <;> simp [World.cell?, k2]
  obtain ⟨r0, r1, r2, r3, r4, r5⟩ : (w1.cell? ⟨w.heap.size, 0, none⟩ = some (.int .i64 0)) ∧ (w1.cell? ⟨w.heap.size, 1, none⟩ = some (.int .i64 0)) ∧ (w1.cell? ⟨w.heap.size, 2, none⟩ = some (.float .f32 0)) ∧ (w1.cell? ⟨w.heap.size, 3, none⟩ = some (.float .f32 0)) ∧ (w1.cell? ⟨w.heap.size, 4, none⟩ = some (.float .f32 0)) ∧ (w1.cell? ⟨w.heap.size, 5, none⟩ = some (.slice none 0 0)) := by
    refine ⟨?_, ?_, ?_, ?_, ?_, ?_⟩ <;> simp [World.cell?, k1]
  obtain ⟨s0, s1, s2, s3, s4, s5⟩ : w1.frozen? ⟨w.heap.size, 0, none⟩ = false ∧ w1.frozen? ⟨w.heap.size, 1, none⟩ = false ∧ w1.frozen? ⟨w.heap.size, 2, none⟩ = false ∧ w1.frozen? ⟨w.heap.size, 3, none⟩ = false ∧ w1.frozen? ⟨w.heap.size, 4, none⟩ = false ∧ w1.frozen? ⟨w.heap.size, 5, none⟩ = false := by
    refine ⟨?_, ?_, ?_, ?_, ?_, ?_⟩ <;> simp [World.frozen?, k1]
  clear HS k1 k2 hb1 hsz
  cases b
  · go_wp2
    refine bodyPost_ret (v := .tuple #[.agg #[.int .i64 0, .int .i64 0, .float .f32 0, .float .f32 0, .float .f32 0, .slice none 0 0], .bool false]) ?_ rfl ⟨rfl, ?_⟩
    · simp [results, Tryd.results42, go_sem, r0, r1, r2, r3, r4, r5]
    · exact ((((((hbw.setCell (p := ⟨_, _, none⟩) (by simp) _).setCell (p := ⟨_, _, none⟩) (by simp) _).setCell (p := ⟨_, _, none⟩) (by simp) _).setCell (p := ⟨_, _, none⟩) (by simp) _).setCell (p := ⟨_, _, none⟩) (by simp) _).setCell (p := ⟨_, _, none⟩) (by simp) _)
  · go_wp2
    refine bodyPost_ret (v := .tuple #[.agg #[.int .i64 c, .int .i64 r, .float .f32 3250585600, .float .f32 1040187392, .float .f32 1065353216, .slice none 0 0], .bool true]) ?_ rfl ⟨rfl, ?_⟩
    · simp [results, Tryd.results42, go_sem, r0, r1, r2, r3, r4, r5]
    · exact ((((((hbw.setCell (p := ⟨_, _, none⟩) (by simp) _).setCell (p := ⟨_, _, none⟩) (by simp) _).setCell (p := ⟨_, _, none⟩) (by simp) _).setCell (p := ⟨_, _, none⟩) (by simp) _).setCell (p := ⟨_, _, none⟩) (by simp) _).setCell (p := ⟨_, _, none⟩) (by simp) _)
end Go.Proofs.YtobpnoiienpipaaDoor
