/-
  What is proved: the walks of the functions that make a cell of four samples, the program's and the model's.
  Conditions: those that each fact names.
-/
import Derived.Test.YtgecclccmmcdoaaFRow
import Derived.Test.YtgecclccmmcdoaaPkConj
namespace Go.Proofs.Ytgecclccmmcdoaa
set_option linter.unusedVariables false
open Go.RowKit
attribute [local go_sem] run_store_float run_store_complex unary_negf neg256

theorem res_fun (op : BinOp) (ho : arith op) : ∃ f g : Nat → Nat → World → Nat, (∀ x y W, (binOp op 26 (.float .f32 x) (.float .f32 y)).run Try.prog W = .ok (.float .f32 (f x y W)) (W.drewN (g x y W))) ∧ ∀ x y W, Res op x y (f x y W) ∧ f x y W < 2 ^ 32 :=
  ⟨fun x y W => (run_res op ho x y W).choose, fun x y W => (run_res op ho x y W).choose_spec.choose, fun x y W => (run_res op ho x y W).choose_spec.choose_spec.1, fun x y W => (run_res op ho x y W).choose_spec.choose_spec.2⟩
theorem drewN_addD (w : World) (a b : Nat) : (w.drewN a).drewN b = w.drewN (a + b) := by simp [World.drewN, Nat.add_assoc]
/-- A cell that four samples may tell. -/
def DecR (s t u v : Nat) (c : C3) : Prop :=
  (∃ r1 r2 r3, Res .add s t r1 ∧ Res .add r1 u r2 ∧ Res .add r2 v r3 ∧ Res .quo r3 1082130432 c.1) ∧ (∃ d, Res .sub s u d ∧ Res .quo d 1073741824 c.2.1) ∧ (∃ d, Res .sub v t d ∧ Res .quo d 1073741824 c.2.2) ∧ (c.1 < 2 ^ 32 ∧ c.2.1 < 2 ^ 32 ∧ c.2.2 < 2 ^ 32)
def CSame (c d : C3) : Prop := Sm c.1 d.1 ∧ Sm c.2.1 d.2.1 ∧ Sm c.2.2 d.2.2
theorem DecR.same {s t u v : Nat} {c d : C3} (h : DecR s t u v c) (h' : DecR s t u v d) : CSame c d := by
  obtain ⟨⟨r1, r2, r3, a1, a2, a3, a4⟩, ⟨d1, b1, b2⟩, ⟨d2, e1, e2⟩, _⟩ := h
  obtain ⟨⟨r1', r2', r3', a1', a2', a3', a4'⟩, ⟨d1', b1', b2'⟩, ⟨d2', e1', e2'⟩, _⟩ := h'
  have k1 := Res.same (Sm.refl _) (Sm.refl _) a1 a1'
  have k2 := Res.same k1 (Sm.refl _) a2 a2'
  have k3 := Res.same k2 (Sm.refl _) a3 a3'
  exact ⟨Res.same k3 (Sm.refl _) a4 a4', Res.same (Res.same (Sm.refl _) (Sm.refl _) b1 b1') (Sm.refl _) b2 b2', Res.same (Res.same (Sm.refl _) (Sm.refl _) e1 e1') (Sm.refl _) e2 e2'⟩
def CellR (R : C3 → Prop) (w : World) (e : Ending) (w' : World) : Prop := ∃ c : C3, e = .returned (.agg #[.float .f32 c.1, .complex .f32 c.2.1 c.2.2]) ∧ R c ∧ Below w.heap.size w w'
theorem CellR.mk {R : C3 → Prop} {w w' : World} {y u v : Nat} (h : R (y, u, v)) (hb : Below w.heap.size w w') : CellR R w (.returned (.agg #[.float .f32 y, .complex .f32 u v])) w' := ⟨(y, u, v), rfl, h, hb⟩
set_option maxHeartbeats 2000000 in
theorem decodedCell_any (s t u v : Nat) (w : World) :
    Calls Try.prog 109 #[.agg #[.float .f32 s, .float .f32 t, .float .f32 u, .float .f32 v]] w fun e w' => CellR (DecR s t u v) w e w' := by
  go_enter Try.func109, Try.ntmps109
  go_wp2
  go_quiet (fail)
  have hbel : Below w.heap.size w (((w.alloc (.cells #[.float .f32 s, .float .f32 t, .float .f32 u, .float .f32 v] 133)).alloc (.cells #[.float .f32 0, .complex .f32 0 0] 40)).drewN nq) := belowDN (((Below.refl _ _).alloc (Nat.le_refl _) _).alloc (by simp) _) nq
  have hnew : (((w.alloc (.cells #[.float .f32 s, .float .f32 t, .float .f32 u, .float .f32 v] 133)).alloc (.cells #[.float .f32 0, .complex .f32 0 0] 40)).drewN nq).heap[w.heap.size + 1]? = some (.cells #[.float .f32 0, .complex .f32 0 0] 40 (0, 0)) := by
    have := heap_alloc_new (w.alloc (.cells #[.float .f32 s, .float .f32 t, .float .f32 u, .float .f32 v] 133)) (.cells #[.float .f32 0, .complex .f32 0 0] 40)
    rw [World.size_alloc] at this
    exact this
  generalize (((w.alloc (.cells #[.float .f32 s, .float .f32 t, .float .f32 u, .float .f32 v] 133)).alloc (.cells #[.float .f32 0, .complex .f32 0 0] 40)).drewN nq) = w1 at *
  have c0 : w1.cell? ⟨w.heap.size + 1, 0, none⟩ = some (.float .f32 0) := by simp [World.cell?, hnew]
  have c1 : w1.cell? ⟨w.heap.size + 1, 1, none⟩ = some (.complex .f32 0 0) := by simp [World.cell?, hnew]
  have f0 : w1.frozen? ⟨w.heap.size + 1, 0, none⟩ = false := by simp [World.frozen?, hnew]
  have f1 : w1.frozen? ⟨w.heap.size + 1, 1, none⟩ = false := by simp [World.frozen?, hnew]
  have HNW := Lib.hid hnew
  have HBL := Lib.hid hbel
  clear hnew hbel
  obtain ⟨r1, n1, e1, R1, B1⟩ := run_res .add (.inl rfl) s t w1
  have HR1 := Lib.hid (And.intro R1 B1)
  clear R1 B1
  obtain ⟨r2, n2, e2, R2, B2⟩ := run_res .add (.inl rfl) r1 u (w1.drewN (n1))
  rw [drewN_addD] at e2
  have HR2 := Lib.hid (And.intro R2 B2)
  clear R2 B2
  obtain ⟨r3, n3, e3, R3, B3⟩ := run_res .add (.inl rfl) r2 v (w1.drewN (n1 + n2))
  rw [drewN_addD] at e3
  have HR3 := Lib.hid (And.intro R3 B3)
  clear R3 B3
  obtain ⟨y, n4, e4, R4, B4⟩ := run_res .quo (.inr (.inr (.inr rfl))) r3 1082130432 (w1.drewN (n1 + n2 + n3))
  rw [drewN_addD] at e4
  have HR4 := Lib.hid (And.intro R4 B4)
  clear R4 B4
  obtain ⟨d1, n5, e5, R5, B5⟩ := run_res .sub (.inr (.inl rfl)) s u (w1.drewN (n1 + n2 + n3 + n4))
  rw [drewN_addD] at e5
  have HR5 := Lib.hid (And.intro R5 B5)
  clear R5 B5
  obtain ⟨p, n6, e6, R6, B6⟩ := run_res .quo (.inr (.inr (.inr rfl))) d1 1073741824 (w1.drewN (n1 + n2 + n3 + n4 + n5))
  rw [drewN_addD] at e6
  have HR6 := Lib.hid (And.intro R6 B6)
  clear R6 B6
  obtain ⟨d2, n7, e7, R7, B7⟩ := run_res .sub (.inr (.inl rfl)) v t (w1.drewN (n1 + n2 + n3 + n4 + n5 + n6))
  rw [drewN_addD] at e7
  have HR7 := Lib.hid (And.intro R7 B7)
  clear R7 B7
  obtain ⟨q, n8, e8, R8, B8⟩ := run_res .quo (.inr (.inr (.inr rfl))) d2 1073741824 (w1.drewN (n1 + n2 + n3 + n4 + n5 + n6 + n7))
  rw [drewN_addD] at e8
  have HR8 := Lib.hid (And.intro R8 B8)
  clear R8 B8
  have hB2 := heap_put (i := 1) (v := .complex .f32 p q) (heap_put (i := 0) (v := .float .f32 y) (w := w1.drewN (n1 + n2 + n3 + n4 + n5 + n6 + n7 + n8)) HNW.out)
  have hz := ((belowDN HBL.out (n1 + n2 + n3 + n4 + n5 + n6 + n7 + n8)).setCell (p := ⟨w.heap.size + 1, 0, none⟩) (by simp) (.float .f32 y)).setCell (p := ⟨w.heap.size + 1, 1, none⟩) (by simp) (.complex .f32 p q)
  have HB2 := Lib.hid hB2
  have HZ := Lib.hid hz
  clear hB2 hz
  go_wp2
  generalize ((((w1.drewN (n1 + n2 + n3 + n4 + n5 + n6 + n7 + n8)).setCell ⟨w.heap.size + 1, 0, none⟩ (.float .f32 y)).setCell ⟨w.heap.size + 1, 1, none⟩ (.complex .f32 p q))) = wz at *
  have d0 : wz.cell? ⟨w.heap.size + 1, 0, none⟩ = some (.float .f32 y) := by have := HB2.out; simp [World.cell?, this]
  have d1' : wz.cell? ⟨w.heap.size + 1, 1, none⟩ = some (.complex .f32 p q) := by have := HB2.out; simp [World.cell?, this]
  refine bodyPost_ret (v := .agg #[.float .f32 y, .complex .f32 p q]) ?_ rfl (CellR.mk ⟨⟨r1, r2, r3, HR1.out.1, HR2.out.1, HR3.out.1, HR4.out.1⟩, ⟨d1, HR5.out.1, HR6.out.1⟩, ⟨d2, HR7.out.1, HR8.out.1⟩, HR4.out.2, HR6.out.2, HR8.out.2⟩ HZ.out)
  simp [results, Try.results109, go_sem, d0, d1']
end Go.Proofs.Ytgecclccmmcdoaa
