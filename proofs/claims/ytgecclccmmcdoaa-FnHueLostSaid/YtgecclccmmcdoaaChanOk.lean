/-
  What is proved: the walks of the program's ChannelOk, Undo and Chain at channels that are valid.
  Conditions: the channels are valid.
-/
import Derived.Test.YtgecclccmmcdoaaDraw5
import Derived.Test.YtgecclccmmcdoaaPkCh
namespace Go.Proofs.Ytgecclccmmcdoaa
set_option linter.unusedVariables false
open Go.RowKit
open Flt (Q Num sg sumv subv mulv quov)
attribute [local go_sem] run_store_float run_store_complex unary_negf neg256

/-- Is a number at most another one? -/
def leb (x y : Nat) : Bool := Ieee.single.order x y == some .lt || Ieee.single.order x y == some .eq
theorem leb_fold (x y : Nat) : (FloatKind.f32.format.order x y == some .lt || FloatKind.f32.format.order x y == some .eq) = leb x y := rfl
theorem leb_num {x y : Nat} {s t : Bool} {u v : Nat} (hx : Num Ieee.single x s u) (hy : Num Ieee.single y t v) (h : sg s u ≤ sg t v) : leb x y = true := by
  unfold leb
  rw [Flt.le_iff hx hy]
  exact decide_eq_true h
theorem leb_q {e f x y : Nat} {a b : Int} (hx : Q e x a) (hy : Q f y b) (h : a * 2 ^ e ≤ b * 2 ^ f) : leb x y = true := by
  obtain ⟨_, s, u, hx, ha⟩ := hx
  obtain ⟨_, t, v, hy, hb⟩ := hy
  exact leb_num hx hy (by rw [ha, hb]; exact h)
attribute [local go_sem] leb_fold
theorem neg16 : Op.negFloat .f32 1098907648 = 3246391296 := by decide
theorem neg64 : Op.negFloat .f32 1115684864 = 3263168512 := by decide
attribute [local go_sem] neg16 neg64
theorem withinB_any (x l n : Nat) (w : World) (hl : Op.negFloat .f32 l = n) (h1 : leb n x = true) (h2 : leb x l = true) :
    Calls Try.prog 117 #[.float .f32 x, .float .f32 l] w fun e w' => e = .returned (.bool true) ∧ w = w' := by
  go_enter Try.func117, Try.ntmps117
  go_wp2
  go_ret
  exact ⟨rfl, rfl⟩
/-- What makes a channel valid. -/
structure ChOk (h : Chn) : Prop where
  pos : Ieee.single.order 0 h.A = some .lt
  a : leb h.A 1098907648 = true
  o1 : leb 3263168512 h.O = true
  o2 : leb h.O 1115684864 = true
  x1 : leb 3246391296 h.X = true
  x2 : leb h.X 1098907648 = true
  y1 : leb 3246391296 h.Y = true
  y2 : leb h.Y 1098907648 = true
set_option maxHeartbeats 1000000 in
theorem channelOk_any (A O X Y : Nat) (w : World) (h : ChOk ⟨A, O, X, Y⟩) :
    Calls Try.prog 177 #[.agg #[.float .f32 A, .float .f32 O, .complex .f32 X Y]] w fun e w' => e = .returned (.bool true) ∧ Below w.heap.size w w' := by
  have H1 := fun W => Lib.hid (withinB_any O _ _ W neg64 h.o1 h.o2)
  have H2 := fun W => Lib.hid (withinB_any X _ _ W neg16 h.x1 h.x2)
  have H3 := fun W => Lib.hid (withinB_any Y _ _ W neg16 h.y1 h.y2)
  have h1 : FloatKind.f32.format.order 0 A = some .lt := h.pos
  have h2 : leb A 1098907648 = true := h.a
  clear h
  go_enter Try.func177, Try.ntmps177
  go_wp2_with fail
  refine (H1 _).out.mono ?_
  rintro e w1 ⟨rfl, rfl⟩
  go_wp2_with fail
  refine (H2 _).out.mono ?_
  rintro e w1 ⟨rfl, rfl⟩
  go_wp2_with fail
  refine (H3 _).out.mono ?_
  rintro e w1 ⟨rfl, rfl⟩
  go_wp2
  go_ret
  exact ⟨rfl, (Below.refl _ _).alloc (Nat.le_refl _) _⟩
/-- A channel lies in a block. -/
def LieC (w : World) (x A O X Y : Nat) : Prop := w.heap[x]? = some (.cells #[.float .f32 A, .float .f32 O, .complex .f32 X Y] 29 (0, 0))
theorem LieC.all {w : World} {x A O X Y : Nat} (h : LieC w x A O X Y) : w.cell? ⟨x, 0, none⟩ = some (.float .f32 A) ∧ w.cell? ⟨x, 1, none⟩ = some (.float .f32 O) ∧ w.cell? ⟨x, 2, none⟩ = some (.complex .f32 X Y) ∧ w.frozen? ⟨x, 0, none⟩ = false ∧ w.frozen? ⟨x, 1, none⟩ = false ∧ w.frozen? ⟨x, 2, none⟩ = false := by
  unfold LieC at h
  refine ⟨?_, ?_, ?_, ?_, ?_, ?_⟩ <;> simp [World.cell?, World.frozen?, h]
theorem LieC.kept {w w' : World} {x A O X Y : Nat} {row : Option Nat} (h : LieC w x A O X Y) (hg : w.grownBy w' row) (hne : some x ≠ row) : LieC w' x A O X Y :=
  (hg.block x (Array.getElem?_eq_some_iff.1 h).1 hne).trans h
theorem LieC.below {w w' : World} {x A O X Y : Nat} (h : LieC w x A O X Y) (hb : Below w.heap.size w w') : LieC w' x A O X Y := h.kept (grown_of hb) (by simp)
theorem LieC.new (w : World) (A O X Y : Nat) : LieC (w.alloc (.cells #[.float .f32 A, .float .f32 O, .complex .f32 X Y] 29)) w.heap.size A O X Y := heap_alloc_new w _
theorem LieC.put {w : World} {x A O X Y : Nat} (h : LieC w x A O X Y) (A' O' X' Y' : Nat) : LieC (putC w x A' O' X' Y') x A' O' X' Y' := heap_put (i := 2) (heap_put (i := 1) (heap_put (i := 0) h))
theorem putC.bel {a w : World} {x A O X Y : Nat} (h : Below a.heap.size a w) (hx : a.heap.size ≤ x) : Below a.heap.size a (putC w x A O X Y) :=
  ((h.setCell (p := ⟨x, 0, none⟩) hx _).setCell (p := ⟨x, 1, none⟩) hx _).setCell (p := ⟨x, 2, none⟩) hx _
/-- A channel, and that it is valid. -/
def ChanA (R : Chn → Prop) (w : World) (e : Ending) (w' : World) : Prop := ∃ A O X Y, R ⟨A, O, X, Y⟩ ∧ e = .returned (.tuple #[.agg #[.float .f32 A, .float .f32 O, .complex .f32 X Y], .bool true]) ∧ Below w.heap.size w w'
end Go.Proofs.Ytgecclccmmcdoaa
