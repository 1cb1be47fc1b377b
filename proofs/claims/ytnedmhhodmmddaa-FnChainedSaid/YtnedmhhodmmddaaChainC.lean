/-
  What is proved: the walk of the program's Chain at channels that are valid.
  Conditions: the channels are valid; what the arithmetic answers is told.
-/
import Derived.Test.YtnedmhhodmmddaaUndoC
namespace Go.Proofs.Ytnedmhhodmmddaa
set_option linter.unusedVariables false
open Go.RowKit
open Flt (Q Num sg sumv subv mulv quov)
attribute [local go_sem] run_store_float run_store_complex unary_negf neg256

/-- The place of the answer, ahead of all else that is made. -/
structure ResC (w wr : World) : Prop where
  res : LieC wr w.heap.size 0 0 0 0
  bel : Below w.heap.size w wr
theorem ResC.start (w : World) : ResC w (w.alloc (.cells #[.float .f32 0, .float .f32 0, .complex .f32 0 0] 33)) := ⟨LieC.new w 0 0 0 0, (Below.refl _ _).alloc (Nat.le_refl _) _⟩
theorem ResC.next {w wr w' : World} (h : ResC w wr) (hb : Below wr.heap.size wr w') : ResC w w' := ⟨h.res.below hb, below_trans h.bel hb h.bel.size⟩
theorem ResC.alloc {w wr : World} (h : ResC w wr) (o : Obj) : ResC w (wr.alloc o) := h.next ((Below.refl _ _).alloc (Nat.le_refl _) o)
theorem ResC.done {w wr : World} (h : ResC w wr) (a o x y : Nat) : LieC (putC wr w.heap.size a o x y) w.heap.size a o x y ∧ Below w.heap.size w (putC wr w.heap.size a o x y) :=
  ⟨h.res.put a o x y, putC.bel h.bel (Nat.le_refl _)⟩
set_option maxHeartbeats 1000000 in
theorem isGain (v : Value) (w : World) : (Instr.typeAssert (.iface 66 v) 64 66 true).run Try.prog w = .ok (.tuple #[v, .bool true]) w := by kernel_rfl
theorem noGain (v : Value) (w : World) : (Instr.typeAssert (.iface 71 v) 64 66 true).run Try.prog w = .ok (.tuple #[.agg #[.float .f32 0, .float .f32 0, .complex .f32 0 0], .bool false]) w := by kernel_rfl
theorem isChain (v : Value) (w : World) : (Instr.typeAssert (.iface 71 v) 64 71 true).run Try.prog w = .ok (.tuple #[v, .bool true]) w := by kernel_rfl
set_option maxRecDepth 100000 in
theorem foldedGain_any (A O X Y : Nat) (w : World) (h : ChOk ⟨A, O, X, Y⟩) :
    Calls Try.prog 40 #[.iface 66 (.agg #[.float .f32 A, .float .f32 O, .complex .f32 X Y])] w fun e w' => ChanA (fun h => h = ⟨A, O, X, Y⟩) w e w' := by
  have HV := fun W => Lib.hid (validChannel_any A O X Y W h)
  clear h
  have ht := isGain (.agg #[.float .f32 A, .float .f32 O, .complex .f32 X Y])
  go_enter Try.func40, Try.ntmps40
  go_wp2_with fail
  have hR := (ResC.start w).alloc (.cells #[.float .f32 A, .float .f32 O, .complex .f32 X Y] 66)
  generalize (w.alloc (.cells #[.float .f32 0, .float .f32 0, .complex .f32 0 0] 33)).alloc (.cells #[.float .f32 A, .float .f32 O, .complex .f32 X Y] 66) = wA at *
  refine (HV _).out.mono ?_
  rintro e w3 ⟨a2, o2, x2, y2, h2, rfl, hb3⟩
  obtain ⟨rfl, rfl, rfl, rfl⟩ : a2 = A ∧ o2 = O ∧ x2 = X ∧ y2 = Y := by simpa using h2
  have HR := Lib.hid (hR.next hb3)
  have HF := Lib.hid ((hR.next hb3).done a2 o2 x2 y2)
  unfold putC at HF
  obtain ⟨r0, r1, r2, s0, s1, s2⟩ := HR.out.res.all
  clear hR hb3 h2
  go_wp2
  generalize (((w3.setCell ⟨w.heap.size, 0, none⟩ (.float .f32 a2)).setCell ⟨w.heap.size, 1, none⟩ (.float .f32 o2)).setCell ⟨w.heap.size, 2, none⟩ (.complex .f32 x2 y2)) = w9 at *
  obtain ⟨d0, d1, d2, _, _, _⟩ := HF.out.1.all
  refine bodyPost_ret (v := .tuple #[.agg #[.float .f32 a2, .float .f32 o2, .complex .f32 x2 y2], .bool true]) ?_ rfl ⟨a2, o2, x2, y2, rfl, rfl, HF.out.2⟩
  simp [results, Try.results40, go_sem, d0, d1, d2]
set_option maxRecDepth 100000 in
set_option maxHeartbeats 1000000 in
theorem foldedChain_any (A O X Y A' O' X' Y' a m o x y : Nat) (w : World) (h : ChOk ⟨A, O, X, Y⟩) (h' : ChOk ⟨A', O', X', Y'⟩)
    (h1 : floatBits .mul .f32 A A' = some a) (h2 : floatBits .mul .f32 A' O = some m) (h3 : floatBits .add .f32 m O' = some o) (hg : GainsTo X Y X' Y' x y) (h4 : ChOk ⟨a, o, x, y⟩) :
    Calls Try.prog 40 #[.iface 71 (.agg #[.iface 66 (.agg #[.float .f32 A, .float .f32 O, .complex .f32 X Y]), .iface 66 (.agg #[.float .f32 A', .float .f32 O', .complex .f32 X' Y'])])] w fun e w' => ChanA (fun h => h = ⟨a, o, x, y⟩) w e w' := by
  have HG1 := fun W => Lib.hid (foldedGain_any A O X Y W h)
  have HG2 := fun W => Lib.hid (foldedGain_any A' O' X' Y' W h')
  have HI := fun W => Lib.hid (inTurn_any A O X Y A' O' X' Y' a m o x y W h1 h2 h3 hg)
  have HV := fun W => Lib.hid (validChannel_any a o x y W h4)
  clear h h' h1 h2 h3 hg h4
  have ht := noGain (.agg #[.iface 66 (.agg #[.float .f32 A, .float .f32 O, .complex .f32 X Y]), .iface 66 (.agg #[.float .f32 A', .float .f32 O', .complex .f32 X' Y'])])
  have ht2 := isChain (.agg #[.iface 66 (.agg #[.float .f32 A, .float .f32 O, .complex .f32 X Y]), .iface 66 (.agg #[.float .f32 A', .float .f32 O', .complex .f32 X' Y'])])
  go_enter Try.func40, Try.ntmps40
  go_wp2_with fail
  have hR := (ResC.start w).alloc (.cells #[.iface 66 (.agg #[.float .f32 A, .float .f32 O, .complex .f32 X Y]), .iface 66 (.agg #[.float .f32 A', .float .f32 O', .complex .f32 X' Y'])] 71)
  have hE := heap_alloc_new (w.alloc (.cells #[.float .f32 0, .float .f32 0, .complex .f32 0 0] 33)) (.cells #[.iface 66 (.agg #[.float .f32 A, .float .f32 O, .complex .f32 X Y]), .iface 66 (.agg #[.float .f32 A', .float .f32 O', .complex .f32 X' Y'])] 71)
  rw [World.size_alloc] at hE
  have e1 : ((w.alloc (.cells #[.float .f32 0, .float .f32 0, .complex .f32 0 0] 33)).alloc (.cells #[.iface 66 (.agg #[.float .f32 A, .float .f32 O, .complex .f32 X Y]), .iface 66 (.agg #[.float .f32 A', .float .f32 O', .complex .f32 X' Y'])] 71)).cell? ⟨w.heap.size + 1, 1, none⟩ = some (.iface 66 (.agg #[.float .f32 A', .float .f32 O', .complex .f32 X' Y'])) := (cell_of_row _ _ 1 _ _ _ hE).trans rfl
  generalize (w.alloc (.cells #[.float .f32 0, .float .f32 0, .complex .f32 0 0] 33)).alloc (.cells #[.iface 66 (.agg #[.float .f32 A, .float .f32 O, .complex .f32 X Y]), .iface 66 (.agg #[.float .f32 A', .float .f32 O', .complex .f32 X' Y'])] 71) = wA at *
  clear hE
  refine (HG1 _).out.mono ?_
  rintro e w3 ⟨a2, o2, x2, y2, h2, rfl, hb3⟩
  obtain ⟨rfl, rfl, rfl, rfl⟩ : a2 = A ∧ o2 = O ∧ x2 = X ∧ y2 = Y := by simpa using h2
  have hR3 := hR.next hb3
  have e3 := (grown_of hb3).cell e1 (by simp)
  have e4 := (grown_of ((Below.refl _ w3).alloc (Nat.le_refl _) (.cells #[.float .f32 a2, .float .f32 o2, .complex .f32 x2 y2] 33))).cell e3 (by simp)
  have hR4 := hR3.alloc (.cells #[.float .f32 a2, .float .f32 o2, .complex .f32 x2 y2] 33)
  have hC4 := LieC.new w3 a2 o2 x2 y2
  clear hR hb3 h2 e1 e3 hR3
  go_wp2_with fail
  generalize w3.alloc (.cells #[.float .f32 a2, .float .f32 o2, .complex .f32 x2 y2] 33) = w4 at *
  refine (HG2 _).out.mono ?_
  rintro e w5 ⟨a5, o5, x5, y5, h2, rfl, hb5⟩
  obtain ⟨rfl, rfl, rfl, rfl⟩ : a5 = A' ∧ o5 = O' ∧ x5 = X' ∧ y5 = Y' := by simpa using h2
  have hR6 := (hR4.next hb5).alloc (.cells #[.float .f32 a5, .float .f32 o5, .complex .f32 x5 y5] 33)
  have hC6 := (hC4.below hb5).below ((Below.refl _ w5).alloc (Nat.le_refl _) (.cells #[.float .f32 a5, .float .f32 o5, .complex .f32 x5 y5] 33))
  have hD6 := LieC.new w5 a5 o5 x5 y5
  obtain ⟨c0, c1, c2, _, _, _⟩ := hC6.all
  obtain ⟨d0, d1, d2, _, _, _⟩ := hD6.all
  have HR6 := Lib.hid hR6
  clear hR4 hC4 hb5 h2 e4 hR6 hC6 hD6
  go_wp2_with fail
  generalize w5.alloc (.cells #[.float .f32 a5, .float .f32 o5, .complex .f32 x5 y5] 33) = w6 at *
  refine (HI _).out.mono ?_
  rintro e w7 ⟨rfl, hb7⟩
  have HR7 := Lib.hid (HR6.out.next hb7)
  clear HR6 hb7 c0 c1 c2 d0 d1 d2
  go_wp2_with fail
  refine (HV _).out.mono ?_
  rintro e w8 ⟨a8, o8, x8, y8, h8, rfl, hb8⟩
  obtain ⟨rfl, rfl, rfl, rfl⟩ : a8 = a ∧ o8 = o ∧ x8 = x ∧ y8 = y := by simpa using h8
  have HR := Lib.hid (HR7.out.next hb8)
  have HF := Lib.hid ((HR7.out.next hb8).done a8 o8 x8 y8)
  unfold putC at HF
  obtain ⟨r0, r1, r2, s0, s1, s2⟩ := HR.out.res.all
  clear HR7 hb8 h8
  go_wp2
  generalize (((w8.setCell ⟨w.heap.size, 0, none⟩ (.float .f32 a8)).setCell ⟨w.heap.size, 1, none⟩ (.float .f32 o8)).setCell ⟨w.heap.size, 2, none⟩ (.complex .f32 x8 y8)) = w9 at *
  obtain ⟨d0, d1, d2, _, _, _⟩ := HF.out.1.all
  refine bodyPost_ret (v := .tuple #[.agg #[.float .f32 a8, .float .f32 o8, .complex .f32 x8 y8], .bool true]) ?_ rfl ⟨a8, o8, x8, y8, rfl, rfl, HF.out.2⟩
  simp [results, Try.results40, go_sem, d0, d1, d2]
set_option maxHeartbeats 1000000 in
theorem chain_any (A O X Y A' O' X' Y' a m o x y : Nat) (w : World) (h : ChOk ⟨A, O, X, Y⟩) (h' : ChOk ⟨A', O', X', Y'⟩)
    (h1 : floatBits .mul .f32 A A' = some a) (h2 : floatBits .mul .f32 A' O = some m) (h3 : floatBits .add .f32 m O' = some o) (hg : GainsTo X Y X' Y' x y) (h4 : ChOk ⟨a, o, x, y⟩) :
    Calls Try.prog 16 #[.agg #[.float .f32 A, .float .f32 O, .complex .f32 X Y], .agg #[.float .f32 A', .float .f32 O', .complex .f32 X' Y']] w fun e w' => ChanA (fun h => h = ⟨a, o, x, y⟩) w e w' := by
  have HFO := fun W => Lib.hid (foldedChain_any A O X Y A' O' X' Y' a m o x y W h h' h1 h2 h3 hg h4)
  have HT := Lib.hid (Tri.start w A O X Y A' O' X' Y')
  obtain ⟨c0, c1, c2, _, _, _⟩ := HT.out.ch.all
  obtain ⟨e0, e1, e2, _, _, _⟩ := HT.out.ch2.all
  clear h h' h1 h2 h3 hg h4
  go_enter Try.func16, Try.ntmps16
  go_wp2_with fail
  generalize ((w.alloc (.cells #[.float .f32 A, .float .f32 O, .complex .f32 X Y] 33)).alloc (.cells #[.float .f32 A', .float .f32 O', .complex .f32 X' Y'] 33)).alloc (.cells #[.float .f32 0, .float .f32 0, .complex .f32 0 0] 33) = wA at *
  refine (HFO _).out.mono ?_
  rintro e w8 ⟨a8, o8, x8, y8, h8, rfl, hb8⟩
  obtain ⟨rfl, rfl, rfl, rfl⟩ : a8 = a ∧ o8 = o ∧ x8 = x ∧ y8 = y := by simpa using h8
  have HR := Lib.hid (HT.out.next hb8)
  have HF := Lib.hid ((HT.out.next hb8).done a8 o8 x8 y8)
  unfold putC at HF
  obtain ⟨r0, r1, r2, s0, s1, s2⟩ := HR.out.res.all
  clear HT hb8 h8 c0 c1 c2 e0 e1 e2
  go_wp2
  generalize (((w8.setCell ⟨w.heap.size + 1 + 1, 0, none⟩ (.float .f32 a8)).setCell ⟨w.heap.size + 1 + 1, 1, none⟩ (.float .f32 o8)).setCell ⟨w.heap.size + 1 + 1, 2, none⟩ (.complex .f32 x8 y8)) = w9 at *
  obtain ⟨d0, d1, d2, _, _, _⟩ := HF.out.1.all
  refine bodyPost_ret (v := .tuple #[.agg #[.float .f32 a8, .float .f32 o8, .complex .f32 x8 y8], .bool true]) ?_ rfl ⟨a8, o8, x8, y8, rfl, rfl, HF.out.2⟩
  simp [results, Try.results16, go_sem, d0, d1, d2]
end Go.Proofs.Ytnedmhhodmmddaa
