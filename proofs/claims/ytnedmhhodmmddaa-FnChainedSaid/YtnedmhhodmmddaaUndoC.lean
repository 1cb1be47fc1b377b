/-
  What is proved: the walks of the program's Undo, inTurn and Chain at channels that are valid.
  Conditions: the channels are valid; what the arithmetic answers is told.
-/
import Derived.Test.YtnedmhhodmmddaaChanOk
import Derived.Deep.RegionHeld3
namespace Go.Proofs.Ytnedmhhodmmddaa
set_option linter.unusedVariables false
open Go.RowKit
open Flt (Q Num sg sumv subv mulv quov)
attribute [local go_sem] run_store_float run_store_complex unary_negf neg256

theorem divided_any (u v p x y : Nat) (w : World) (h1 : floatBits .quo .f32 u p = some x) (h2 : floatBits .quo .f32 v p = some y) :
    Calls Try.prog 47 #[.complex .f32 u v, .float .f32 p] w fun e w' => e = .returned (.complex .f32 x y) ∧ w = w' := by
  have q1 := fun W => run_float_arith (P := Try.prog) W .quo 30 .f32 _ _ _ h1
  have q2 := fun W => run_float_arith (P := Try.prog) W .quo 30 .f32 _ _ _ h2
  clear h1 h2
  go_enter Try.func47, Try.ntmps47
  go_wp2
  go_ret
  exact ⟨rfl, rfl⟩
/-- A channel that was handed in, and the place of the answer. -/
structure Two (w wr : World) (A O X Y : Nat) : Prop where
  ch : LieC wr w.heap.size A O X Y
  res : LieC wr (w.heap.size + 1) 0 0 0 0
  bel : Below w.heap.size w wr
  size : w.heap.size + 2 ≤ wr.heap.size
theorem Two.start (w : World) (A O X Y : Nat) : Two w ((w.alloc (.cells #[.float .f32 A, .float .f32 O, .complex .f32 X Y] 33)).alloc (.cells #[.float .f32 0, .float .f32 0, .complex .f32 0 0] 33)) A O X Y := by
  have hr := LieC.new (w.alloc (.cells #[.float .f32 A, .float .f32 O, .complex .f32 X Y] 33)) 0 0 0 0
  rw [World.size_alloc] at hr
  exact ⟨(LieC.new w A O X Y).below ((Below.refl _ _).alloc (Nat.le_refl _) _), hr, ((Below.refl _ _).alloc (Nat.le_refl _) _).alloc (by simp) _, by simp⟩
theorem Two.next {w wr w' : World} {A O X Y : Nat} (h : Two w wr A O X Y) (hb : Below wr.heap.size wr w') : Two w w' A O X Y :=
  ⟨h.ch.below hb, h.res.below hb, below_trans h.bel hb h.bel.size, Nat.le_trans h.size hb.size⟩
theorem Two.drewN {w wr : World} {A O X Y : Nat} (h : Two w wr A O X Y) (n : Nat) : Two w (wr.drewN n) A O X Y := h.next (belowDN (Below.refl _ _) n)
theorem Two.done {w wr : World} {A O X Y : Nat} (h : Two w wr A O X Y) (a o x y : Nat) : LieC (putC wr (w.heap.size + 1) a o x y) (w.heap.size + 1) a o x y ∧ Below w.heap.size w (putC wr (w.heap.size + 1) a o x y) :=
  ⟨h.res.put a o x y, putC.bel h.bel (by omega)⟩
set_option maxHeartbeats 1000000 in
theorem undo_any (A O X Y p a o x y : Nat) (w : World) (h : ChOk ⟨A, O, X, Y⟩) (hp : ∀ q, PowR X Y q → q = p) (hp0 : FloatKind.f32.format.order p 0 = some .gt)
    (h1 : floatBits .quo .f32 1065353216 A = some a) (h2 : floatBits .quo .f32 (Op.negFloat .f32 O) A = some o) (h3 : floatBits .quo .f32 X p = some x) (h4 : floatBits .quo .f32 (Op.negFloat .f32 Y) p = some y) (h' : ChOk ⟨a, o, x, y⟩) :
    Calls Try.prog 20 #[.agg #[.float .f32 A, .float .f32 O, .complex .f32 X Y]] w fun e w' => ChanA (fun h => h = ⟨a, o, x, y⟩) w e w' := by
  have q1 := fun W => run_float_arith (P := Try.prog) W .quo 30 .f32 _ _ _ h1
  have q2 := fun W => run_float_arith (P := Try.prog) W .quo 30 .f32 _ _ _ h2
  have HO := fun W => Lib.hid (channelOk_any A O X Y W h)
  have HV := fun W => Lib.hid (validChannel_any a o x y W h')
  have HD := fun W => Lib.hid (divided_any X (Op.negFloat .f32 Y) p x y W h3 h4)
  have HT := Lib.hid (Two.start w A O X Y)
  have HP := Lib.hid hp
  obtain ⟨c0, c1, c2, _, _, _⟩ := HT.out.ch.all
  clear h h' h1 h2 h3 h4 hp
  go_enter Try.func20, Try.ntmps20
  go_wp2_with fail
  generalize (w.alloc (.cells #[.float .f32 A, .float .f32 O, .complex .f32 X Y] 33)).alloc (.cells #[.float .f32 0, .float .f32 0, .complex .f32 0 0] 33) = wA at *
  refine (power_any X Y _).mono ?_
  rintro e w1 ⟨q, rfl, hq, n1, rfl⟩
  obtain rfl := HP.out q hq.1
  have HT1 := Lib.hid (HT.out.drewN n1)
  clear hq HT HP c0 c1 c2
  obtain ⟨c0, c1, c2, _, _, _⟩ := HT1.out.ch.all
  generalize wA.drewN n1 = wB at *
  go_wp2_with fail
  refine (HO _).out.mono ?_
  rintro e w2 ⟨rfl, hb2⟩
  have HT2 := Lib.hid (HT1.out.next hb2)
  clear hb2 HT1 c0 c1 c2
  obtain ⟨c0, c1, c2, _, _, _⟩ := HT2.out.ch.all
  have HT3 := fun (w3 : World) (hb3 : Below w2.drew.heap.size w2.drew w3) => Lib.hid ((show Two w w2.drew A O X Y from HT2.out.drewN 1).next hb3)
  have HFIN := fun (w3 : World) (hb3 : Below w2.drew.heap.size w2.drew w3) => Lib.hid (((show Two w w2.drew A O X Y from HT2.out.drewN 1).next hb3).done a o x y)
  unfold putC at HFIN
  clear HT2
  go_wp2
  go_region_held3 (fun W => W.cell? ⟨w.heap.size, 0, none⟩ = some (.float .f32 A) ∧ W.cell? ⟨w.heap.size, 1, none⟩ = some (.float .f32 O) ∧ W.cell? ⟨w.heap.size, 2, none⟩ = some (.complex .f32 X Y)) (first | exact ⟨k0, k1, k2⟩ | go_keep)
    (first | (go_at_call 48; refine (conjugate_any _ _ _).mono ?_; rintro e w3 ⟨rfl, rfl⟩)
           | (go_at_call 47; refine (HD _).out.mono ?_; rintro e w3 ⟨rfl, rfl⟩)
           | (go_at_call 46; refine (HV _).out.mono ?_; rintro e w3 ⟨a2, o2, x2, y2, h2, rfl, hb3⟩; obtain ⟨rfl, rfl, rfl, rfl⟩ : a2 = a ∧ o2 = o ∧ x2 = x ∧ y2 = y := (by simpa using h2); obtain ⟨r0, r1, r2, s0, s1, s2⟩ := (HT3 w3 hb3).out.res.all; obtain ⟨k0, k1, k2, _, _, _⟩ := (HT3 w3 hb3).out.ch.all))
  have HF := (HFIN w3 hb3).out
  have HF := Lib.hid HF
  clear HFIN HT3
  go_wp2
  generalize (((w3.setCell ⟨w.heap.size + 1, 0, none⟩ (.float .f32 a2)).setCell ⟨w.heap.size + 1, 1, none⟩ (.float .f32 o2)).setCell ⟨w.heap.size + 1, 2, none⟩ (.complex .f32 x2 y2)) = w9 at *
  obtain ⟨d0, d1, d2, _, _, _⟩ := HF.out.1.all
  refine bodyPost_ret (v := .tuple #[.agg #[.float .f32 a2, .float .f32 o2, .complex .f32 x2 y2], .bool true]) ?_ rfl ⟨a2, o2, x2, y2, rfl, rfl, HF.out.2⟩
  simp [results, Try.results20, go_sem, d0, d1, d2]
/-- Two channels that were handed in, and the place of the answer. -/
structure Tri (w wr : World) (A O X Y A' O' X' Y' : Nat) : Prop where
  ch : LieC wr w.heap.size A O X Y
  ch2 : LieC wr (w.heap.size + 1) A' O' X' Y'
  res : LieC wr (w.heap.size + 1 + 1) 0 0 0 0
  bel : Below w.heap.size w wr
  size : w.heap.size + 3 ≤ wr.heap.size
theorem Tri.start (w : World) (A O X Y A' O' X' Y' : Nat) : Tri w (((w.alloc (.cells #[.float .f32 A, .float .f32 O, .complex .f32 X Y] 33)).alloc (.cells #[.float .f32 A', .float .f32 O', .complex .f32 X' Y'] 33)).alloc (.cells #[.float .f32 0, .float .f32 0, .complex .f32 0 0] 33)) A O X Y A' O' X' Y' := by
  have h2 := LieC.new (w.alloc (.cells #[.float .f32 A, .float .f32 O, .complex .f32 X Y] 33)) A' O' X' Y'
  have hr := LieC.new ((w.alloc (.cells #[.float .f32 A, .float .f32 O, .complex .f32 X Y] 33)).alloc (.cells #[.float .f32 A', .float .f32 O', .complex .f32 X' Y'] 33)) 0 0 0 0
  rw [World.size_alloc] at h2
  rw [World.size_alloc, World.size_alloc] at hr
  exact ⟨((LieC.new w A O X Y).below ((Below.refl _ _).alloc (Nat.le_refl _) _)).below ((Below.refl _ _).alloc (Nat.le_refl _) _), h2.below ((Below.refl _ _).alloc (Nat.le_refl _) _), hr, (((Below.refl _ _).alloc (Nat.le_refl _) _).alloc (by simp) _).alloc (by simp; omega) _, by simp⟩
theorem Tri.next {w wr w' : World} {A O X Y A' O' X' Y' : Nat} (h : Tri w wr A O X Y A' O' X' Y') (hb : Below wr.heap.size wr w') : Tri w w' A O X Y A' O' X' Y' :=
  ⟨h.ch.below hb, h.ch2.below hb, h.res.below hb, below_trans h.bel hb h.bel.size, Nat.le_trans h.size hb.size⟩
theorem Tri.drewN {w wr : World} {A O X Y A' O' X' Y' : Nat} (h : Tri w wr A O X Y A' O' X' Y') (n : Nat) : Tri w (wr.drewN n) A O X Y A' O' X' Y' := h.next (belowDN (Below.refl _ _) n)
theorem Tri.done {w wr : World} {A O X Y A' O' X' Y' : Nat} (h : Tri w wr A O X Y A' O' X' Y') (a o x y : Nat) : LieC (putC wr (w.heap.size + 1 + 1) a o x y) (w.heap.size + 1 + 1) a o x y ∧ Below w.heap.size w (putC wr (w.heap.size + 1 + 1) a o x y) :=
  ⟨h.res.put a o x y, putC.bel h.bel (by omega)⟩
/-- What two numbers are multiplied to. -/
def GainsTo (X Y X' Y' x y : Nat) : Prop := ∀ re im, TimesR X Y X' Y' re im → re = x ∧ im = y
def ChanR (h : Chn) (w : World) (e : Ending) (w' : World) : Prop := e = .returned (.agg #[.float .f32 h.A, .float .f32 h.O, .complex .f32 h.X h.Y]) ∧ Below w.heap.size w w'
set_option maxHeartbeats 1000000 in
theorem inTurn_any (A O X Y A' O' X' Y' a m o x y : Nat) (w : World)
    (h1 : floatBits .mul .f32 A A' = some a) (h2 : floatBits .mul .f32 A' O = some m) (h3 : floatBits .add .f32 m O' = some o) (hg : GainsTo X Y X' Y' x y) :
    Calls Try.prog 61 #[.agg #[.float .f32 A, .float .f32 O, .complex .f32 X Y], .agg #[.float .f32 A', .float .f32 O', .complex .f32 X' Y']] w fun e w' => ChanR ⟨a, o, x, y⟩ w e w' := by
  have q1 := fun W => run_float_arith (P := Try.prog) W .mul 30 .f32 _ _ _ h1
  have q2 := fun W => run_float_arith (P := Try.prog) W .mul 30 .f32 _ _ _ h2
  have q3 := fun W => run_float_arith (P := Try.prog) W .add 30 .f32 _ _ _ h3
  have HG := Lib.hid hg
  have HT := Lib.hid (Tri.start w A O X Y A' O' X' Y')
  obtain ⟨c0, c1, c2, _, _, _⟩ := HT.out.ch.all
  obtain ⟨e0, e1, e2, _, _, _⟩ := HT.out.ch2.all
  clear h1 h2 h3 hg
  go_enter Try.func61, Try.ntmps61
  go_wp2_with fail
  generalize ((w.alloc (.cells #[.float .f32 A, .float .f32 O, .complex .f32 X Y] 33)).alloc (.cells #[.float .f32 A', .float .f32 O', .complex .f32 X' Y'] 33)).alloc (.cells #[.float .f32 0, .float .f32 0, .complex .f32 0 0] 33) = wA at *
  obtain ⟨r0, r1, r2, s0, s1, s2⟩ := HT.out.res.all
  have HFIN := fun n => Lib.hid ((HT.out.drewN n).done a o x y)
  unfold putC at HFIN
  clear q2 q3
  have hn1 : ¬ (w.heap.size = w.heap.size + 1 + 1) := by omega
  have hn2 : ¬ (w.heap.size + 1 + 1 = w.heap.size) := by omega
  go_region_held3 (fun W => W.cell? ⟨w.heap.size, 0, none⟩ = some (.float .f32 A) ∧ W.cell? ⟨w.heap.size, 2, none⟩ = some (.complex .f32 X Y) ∧ W.cell? ⟨w.heap.size + 1, 0, none⟩ = some (.float .f32 A') ∧ W.cell? ⟨w.heap.size + 1, 2, none⟩ = some (.complex .f32 X' Y')) (go_keep)
    (first | (go_at_call 18; refine (times_any X Y X' Y' _).mono ?_; rintro e w3 ⟨re, im, rfl, ht, n, rfl⟩; obtain ⟨rfl, rfl⟩ := HG.out re im ht.1))
  have HF := Lib.hid (HFIN (1 + n)).out
  clear HFIN HT
  go_wp2
  generalize ((((wA.drewN (1 + n)).setCell ⟨w.heap.size + 1 + 1, 0, none⟩ (.float .f32 a)).setCell ⟨w.heap.size + 1 + 1, 1, none⟩ (.float .f32 o)).setCell ⟨w.heap.size + 1 + 1, 2, none⟩ (.complex .f32 re im)) = w9 at *
  obtain ⟨d0, d1, d2, _, _, _⟩ := HF.out.1.all
  refine bodyPost_ret (v := .agg #[.float .f32 a, .float .f32 o, .complex .f32 re im]) ?_ rfl ⟨rfl, HF.out.2⟩
  simp [results, Try.results61, go_sem, d0, d1, d2]
end Go.Proofs.Ytnedmhhodmmddaa
