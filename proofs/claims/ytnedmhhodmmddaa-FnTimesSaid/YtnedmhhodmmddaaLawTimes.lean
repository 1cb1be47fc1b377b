/-
  What is proved: the walk of the law FnTimes.
  Conditions: none beyond the argument's own.
-/
import Derived.Test.YtnedmhhodmmddaaChainC
import Derived.Test.YtnedmhhodmmddaaLawPowers
import Derived.Lib.Hide
namespace Go.Proofs.Ytnedmhhodmmddaa
set_option linter.unusedVariables false
open Go.RowKit
open Flt (Q Num sg sumv subv mulv quov)
attribute [local go_sem] run_store_float run_store_complex unary_negf neg256

theorem pow_is {X Y m n p : Nat} (e1 : floatBits .mul .f32 X X = some m) (e2 : floatBits .mul .f32 Y Y = some n) (e3 : floatBits .add .f32 m n = some p) : ∀ q, PowR X Y q → q = p := by
  rintro q ⟨m', n', h1, h2, h3⟩
  obtain rfl := res_some h1 e1
  obtain rfl := res_some h2 e2
  exact res_some h3 e3
theorem gains_is {X Y X' Y' m1 m2 m3 m4 x y : Nat} (e1 : floatBits .mul .f32 X X' = some m1) (e2 : floatBits .mul .f32 Y Y' = some m2) (e3 : floatBits .sub .f32 m1 m2 = some x)
    (e4 : floatBits .mul .f32 X Y' = some m3) (e5 : floatBits .mul .f32 Y X' = some m4) (e6 : floatBits .add .f32 m3 m4 = some y) : GainsTo X Y X' Y' x y := by
  rintro re im ⟨m1', m2', m3', m4', h1, h2, h3, h4, h5, h6⟩
  obtain rfl := res_some h1 e1
  obtain rfl := res_some h2 e2
  obtain rfl := res_some h4 e4
  obtain rfl := res_some h5 e5
  exact ⟨res_some h3 e3, res_some h6 e6⟩
/-- A gain that can be undone. -/
structure TurnOk (X Y p x y : Nat) : Prop where
  pow : ∀ q, PowR X Y q → q = p
  pos : FloatKind.f32.format.order p 0 = some .gt
  qx : floatBits .quo .f32 X p = some x
  qy : floatBits .quo .f32 (Op.negFloat .f32 Y) p = some y
  gains : GainsTo X Y x y 1065353216 0
  x1 : leb 3246391296 X = true
  x2 : leb X 1098907648 = true
  y1 : leb 3246391296 Y = true
  y2 : leb Y 1098907648 = true
  u1 : leb 3246391296 x = true
  u2 : leb x 1098907648 = true
  v1 : leb 3246391296 y = true
  v2 : leb y 1098907648 = true
theorem turn0 : TurnOk 1073741824 0 1082130432 1056964608 2147483648 :=
  ⟨pow_is (m := 1082130432) (n := 0) (by decide +kernel) (by decide +kernel) (by decide +kernel), by decide +kernel, by decide +kernel, by decide +kernel,
   gains_is (m1 := 1065353216) (m2 := 2147483648) (m3 := 2147483648) (m4 := 0) (by decide +kernel) (by decide +kernel) (by decide +kernel) (by decide +kernel) (by decide +kernel) (by decide +kernel),
   by decide +kernel, by decide +kernel, by decide +kernel, by decide +kernel, by decide +kernel, by decide +kernel, by decide +kernel, by decide +kernel⟩
theorem turn1 : TurnOk 3212836864 0 1065353216 3212836864 2147483648 :=
  ⟨pow_is (m := 1065353216) (n := 0) (by decide +kernel) (by decide +kernel) (by decide +kernel), by decide +kernel, by decide +kernel, by decide +kernel,
   gains_is (m1 := 1065353216) (m2 := 2147483648) (m3 := 0) (m4 := 2147483648) (by decide +kernel) (by decide +kernel) (by decide +kernel) (by decide +kernel) (by decide +kernel) (by decide +kernel),
   by decide +kernel, by decide +kernel, by decide +kernel, by decide +kernel, by decide +kernel, by decide +kernel, by decide +kernel, by decide +kernel⟩
theorem turn2 : TurnOk 0 1056964608 1048576000 0 3221225472 :=
  ⟨pow_is (m := 0) (n := 1048576000) (by decide +kernel) (by decide +kernel) (by decide +kernel), by decide +kernel, by decide +kernel, by decide +kernel,
   gains_is (m1 := 0) (m2 := 3212836864) (m3 := 2147483648) (m4 := 0) (by decide +kernel) (by decide +kernel) (by decide +kernel) (by decide +kernel) (by decide +kernel) (by decide +kernel),
   by decide +kernel, by decide +kernel, by decide +kernel, by decide +kernel, by decide +kernel, by decide +kernel, by decide +kernel, by decide +kernel⟩
theorem turn3 : TurnOk 0 3229614080 1098907648 0 1048576000 :=
  ⟨pow_is (m := 0) (n := 1098907648) (by decide +kernel) (by decide +kernel) (by decide +kernel), by decide +kernel, by decide +kernel, by decide +kernel,
   gains_is (m1 := 0) (m2 := 3212836864) (m3 := 0) (m4 := 2147483648) (by decide +kernel) (by decide +kernel) (by decide +kernel) (by decide +kernel) (by decide +kernel) (by decide +kernel),
   by decide +kernel, by decide +kernel, by decide +kernel, by decide +kernel, by decide +kernel, by decide +kernel, by decide +kernel, by decide +kernel⟩
theorem q_64 : Q 149 1115684864 64 := Flt.q_word (by decide) (show Ieee.single.read 1115684864 = .number false 8388608 (-17) by decide +kernel) (by decide +kernel)
theorem q_n64 : Q 149 3263168512 (-64) := Flt.q_word (by decide) (show Ieee.single.read 3263168512 = .number true 8388608 (-17) by decide +kernel) (by decide +kernel)
/-- Numbers of an amount of at most 16. -/
theorem q_in {e x : Nat} {a : Int} (h : Q e x a) (hl : a.natAbs * 2 ^ e ≤ 2 ^ 153) : leb 3263168512 x = true ∧ leb x 1115684864 = true := by
  have h1 := Flt.abs_pow a e
  have h2 : (a * 2 ^ e).natAbs ≤ 2 ^ 153 := by rw [h1]; exact hl
  have h3 : (64 : Int) * 2 ^ 149 = ((2 ^ 155 : Nat) : Int) := by decide +kernel
  have h4 : (-64 : Int) * 2 ^ 149 = -((2 ^ 155 : Nat) : Int) := by decide +kernel
  have h5 : (2 : Nat) ^ 153 ≤ 2 ^ 155 := Nat.pow_le_pow_right (by decide) (by decide)
  obtain ⟨z, hz⟩ : ∃ z, a * 2 ^ e = z := ⟨_, rfl⟩
  rw [hz] at h2
  constructor
  · exact leb_q q_n64 h (by rw [hz, h4]; omega)
  · exact leb_q h q_64 (by rw [hz, h3]; omega)
theorem gain_pairs {A : Nat} {α : Int} (h : GainOf A α) : ∃ a, (A = 1048576000 ∧ a = 1082130432 ∨ A = 1056964608 ∧ a = 1073741824 ∨ A = 1065353216 ∧ a = 1065353216 ∨ A = 1073741824 ∧ a = 1056964608) := by
  rcases h with ⟨h, _⟩ | ⟨h, _⟩ | ⟨h, _⟩ | ⟨h, _⟩
  · exact ⟨1082130432, .inl ⟨h, rfl⟩⟩
  · exact ⟨1073741824, .inr (.inl ⟨h, rfl⟩)⟩
  · exact ⟨1065353216, .inr (.inr (.inl ⟨h, rfl⟩))⟩
  · exact ⟨1056964608, .inr (.inr (.inr ⟨h, rfl⟩))⟩
theorem pos_pair {A a : Nat} (h : A = 1048576000 ∧ a = 1082130432 ∨ A = 1056964608 ∧ a = 1073741824 ∨ A = 1065353216 ∧ a = 1065353216 ∨ A = 1073741824 ∧ a = 1056964608) :
    (Ieee.single.order 0 A = some .lt ∧ leb A 1098907648 = true) ∧ (Ieee.single.order 0 a = some .lt ∧ leb a 1098907648 = true) := by
  rcases h with ⟨rfl, rfl⟩ | ⟨rfl, rfl⟩ | ⟨rfl, rfl⟩ | ⟨rfl, rfl⟩ <;> decide +kernel
/-- A channel that turns by quarters, undone, and the chain of both. -/
theorem turn_walk {A O X Y p x y : Nat} {α ω : Int} (hA : GainOf A α) (hO : Q 146 O ω) (hω : ω.natAbs ≤ 32) (ht : TurnOk X Y p x y) : ∃ a o s,
    (∀ W, Hid (Calls Try.prog 20 #[.agg #[.float .f32 A, .float .f32 O, .complex .f32 X Y]] W fun e w' => ChanA (fun h => h = ⟨a, o, x, y⟩) W e w')) ∧
    (∀ W, Hid (Calls Try.prog 16 #[.agg #[.float .f32 A, .float .f32 O, .complex .f32 X Y], .agg #[.float .f32 a, .float .f32 o, .complex .f32 x y]] W fun e w' => ChanA (fun h => h = ⟨1065353216, s, 1065353216, 0⟩) W e w')) ∧
    FloatKind.f32.format.order s 0 = some .eq := by
  obtain ⟨a, ha⟩ := gain_pairs hA
  obtain ⟨⟨pA1, pA2⟩, pa1, pa2⟩ := pos_pair ha
  obtain ⟨g1, g2, g3⟩ := undo_gain ha
  obtain ⟨⟨o, eo⟩, ⟨m, em⟩, e, k, k1, k2, k3, k4, he⟩ := undo_offset ha hO hω
  have ho : quov (Op.negFloat .f32 O) A = o := by unfold quov; rw [eo]; rfl
  have hm : mulv a O = m := by unfold mulv; rw [em]; rfl
  rw [ho] at k1
  rw [hm] at k2
  obtain ⟨s, es, hs⟩ := k2.add k1 (by omega) he
  rw [show k + -k = 0 by omega] at hs
  have hs0 : FloatKind.f32.format.order s 0 = some .eq := hs.eq (Q.zero e)
  have lO : ω.natAbs * 2 ^ 146 ≤ 2 ^ 153 := Nat.le_trans (Nat.mul_le_mul_right (2 ^ 146) hω) (by decide +kernel)
  obtain ⟨o1, o2⟩ := q_in hO lO
  obtain ⟨o3, o4⟩ := q_in k1 (by rw [Int.natAbs_neg]; exact k4)
  obtain ⟨s1, s2⟩ := q_in hs (by rw [show (0 : Int).natAbs = 0 from rfl, Nat.zero_mul]; exact Nat.zero_le _)
  have c1 : ChOk ⟨A, O, X, Y⟩ := ⟨pA1, pA2, o1, o2, ht.x1, ht.x2, ht.y1, ht.y2⟩
  have c2 : ChOk ⟨a, o, x, y⟩ := ⟨pa1, pa2, o3, o4, ht.u1, ht.u2, ht.v1, ht.v2⟩
  have c3 : ChOk ⟨1065353216, s, 1065353216, 0⟩ := ⟨show Ieee.single.order 0 1065353216 = some .lt by decide +kernel, show leb 1065353216 1098907648 = true by decide +kernel, s1, s2, show leb 3246391296 1065353216 = true by decide +kernel, show leb 1065353216 1098907648 = true by decide +kernel, show leb 3246391296 0 = true by decide +kernel, show leb 0 1098907648 = true by decide +kernel⟩
  exact ⟨a, o, s, fun W => Lib.hid (undo_any A O X Y p a o x y W c1 ht.pow ht.pos g1 eo ht.qx ht.qy c2), fun W => Lib.hid (chain_any A O X Y a o x y 1065353216 m s 1065353216 0 W c1 c2 g2 em es ht.gains c3), hs0⟩
def Lit4 (w : World) (q : Nat) : Prop := w.heap[q]? = some (.cells #[.complex .f32 1073741824 0, .complex .f32 3212836864 0, .complex .f32 0 1056964608, .complex .f32 0 3229614080] 31 (0, 0))
theorem lit_turn {w : World} {q : Nat} (h : Lit4 w q) (k : Nat) (hk : k < 4) : ∃ X Y p x y, TurnOk X Y p x y ∧ w.cell? ⟨q, k, none⟩ = some (.complex .f32 X Y) := by
  unfold Lit4 at h
  rcases (by omega : k = 0 ∨ k = 1 ∨ k = 2 ∨ k = 3) with rfl | rfl | rfl | rfl
  · exact ⟨_, _, _, _, _, turn0, by simp [World.cell?, h]⟩
  · exact ⟨_, _, _, _, _, turn1, by simp [World.cell?, h]⟩
  · exact ⟨_, _, _, _, _, turn2, by simp [World.cell?, h]⟩
  · exact ⟨_, _, _, _, _, turn3, by simp [World.cell?, h]⟩
theorem Lit4.kept {w w' : World} {q : Nat} {row : Option Nat} (h : Lit4 w q) (hg : w.grownBy w' row) (hne : some q ≠ row) : Lit4 w' q := (hg.block q (Array.getElem?_eq_some_iff.1 h).1 hne).trans h
theorem LieC.set2 {w : World} {x A O X Y : Nat} (h : LieC w x A O X Y) (X' Y' : Nat) : LieC (w.setCell ⟨x, 2, none⟩ (.complex .f32 X' Y')) x A O X' Y' := heap_put (i := 2) h
/-- What stands at the head of a round. -/
structure RoundT (w wr : World) (b A O : Nat) : Prop where
  ch : ∃ X Y, LieC wr b A O X Y
  lit : Lit4 wr (b + 1)
  bel : Below w.heap.size w wr
  le : w.heap.size ≤ b
theorem RoundT.next {w wr w' : World} {b A O : Nat} (h : RoundT w wr b A O) (hb : Below wr.heap.size wr w') : RoundT w w' b A O := by
  obtain ⟨⟨X, Y, h1⟩, h2, h3, h4⟩ := h
  exact ⟨⟨X, Y, h1.below hb⟩, h2.kept (grown_of hb) (by simp), below_trans h3 hb h3.size, h4⟩
theorem RoundT.set {w wr : World} {b A O : Nat} (h : RoundT w wr b A O) (X' Y' : Nat) : RoundT w (wr.setCell ⟨b, 2, none⟩ (.complex .f32 X' Y')) b A O := by
  obtain ⟨⟨X, Y, h1⟩, h2, h3, h4⟩ := h
  exact ⟨⟨X', Y', h1.set2 X' Y'⟩, h2.kept (Lib.grownBy_setCell wr b 2 _) (by intro e; have := Option.some.inj e; omega), h3.setCell (p := ⟨b, 2, none⟩) h4 _, h4⟩
set_option maxHeartbeats 4000000 in
set_option maxRecDepth 100000 in
theorem walk_FnTimes (a0 : Option Addr) (len0 cap0 : Nat) (z0 : List Int) (w : World) (w0 : IsRow .u8 w a0 len0 cap0 z0) :
    Calls Try.prog 5 #[.slice a0 len0 cap0] w fun e w' => e = .returned (.bool true) ∧ Below w.heap.size w w' := by
  by_cases hbig : 1048576 < len0
  · have hbb : decide ((1048576 : Int) < len0) = true := by simp; omega
    have HB := Lib.hid (big_any a0 len0 cap0 w)
    rw [hbb] at HB
    clear hbb
    go_enter Try.func5, Try.ntmps5
    go_wp2_with fail
    refine HB.out.mono ?_
    rintro e w1 ⟨rfl, rfl⟩
    go_wp2
    go_ret
    exact ⟨rfl, Below.refl _ _⟩
  · have hbb : decide ((1048576 : Int) < len0) = false := by simp; omega
    have HB := Lib.hid (big_any a0 len0 cap0 w)
    rw [hbb] at HB
    have hs := w0.src (by omega)
    have HD := Lib.hid (drawTimes_any a0 len0 cap0 w hs)
    have HCH := fun W hb hl => Lib.hid (drawCh_any a0 len0 cap0 W (hs.below hb hl))
    clear hbb w0 hs
    go_enter Try.func5, Try.ntmps5
    go_wp2_with fail
    refine HB.out.mono ?_
    rintro e w1 ⟨rfl, rfl⟩
    go_wp2_with fail
    refine HD.out.mono ?_
    rintro e w1 ⟨u, v, X, Y, hf, rfl, hb1⟩
    have HF := Lib.hid hf
    clear hf HD HB
    by_cases hN : (isN u = true ∨ isN v = true) ∨ isN X = true ∨ isN Y = true
    · clear HF HCH
      have ou : FloatKind.f32.format.order u u = some .eq ∨ isN u = true := by cases h : isN u with | false => exact .inl (order_nn h) | true => exact .inr rfl
      have ov : FloatKind.f32.format.order v v = some .eq ∨ isN v = true := by cases h : isN v with | false => exact .inl (order_nn h) | true => exact .inr rfl
      have oX : FloatKind.f32.format.order X X = some .eq ∨ isN X = true := by cases h : isN X with | false => exact .inl (order_nn h) | true => exact .inr rfl
      rcases ou with ou | nu
      · rcases ov with ov | nv
        · rcases oX with oX | nX
          · have nY : isN Y = true := by
              rcases hN with (h | h) | h | h
              · rw [order_n h] at ou; cases ou
              · rw [order_n h] at ov; cases ov
              · rw [order_n h] at oX; cases oX
              · exact h
            have oY := order_n (y := Y) nY
            clear hN nY
            go_wp2
            go_ret
            exact ⟨rfl, hb1⟩
          · have oX := order_n (y := X) nX
            clear hN nX
            go_wp2
            go_ret
            exact ⟨rfl, hb1⟩
        · have ov := order_n (y := v) nv
          clear hN nv oX
          go_wp2
          go_ret
          exact ⟨rfl, hb1⟩
      · have ou := order_n (y := u) nu
        clear hN nu ov oX
        go_wp2
        go_ret
        exact ⟨rfl, hb1⟩
    · have nf : ∀ z, ¬ isN z = true → isN z = false := by intro z hz; cases h : isN z with | false => rfl | true => exact absurd h hz
      have ou := order_nn (nf u fun h => hN (.inl (.inl h)))
      have ov := order_nn (nf v fun h => hN (.inl (.inr h)))
      have oX := order_nn (nf X fun h => hN (.inr (.inl h)))
      have oY := order_nn (nf Y fun h => hN (.inr (.inr h)))
      clear nf hN
      go_wp2_with fail
      refine (times_any u v X Y _).mono ?_
      rintro e w2 ⟨re, im, rfl, ht, n2, rfl⟩
      have HT := Lib.hid ht
      clear ht ou ov oX oY
      go_wp2_with fail
      refine (times_any X Y u v _).mono ?_
      rintro e w3 ⟨re', im', rfl, ht', n3, rfl⟩
      obtain ⟨sre, sim⟩ := HT.out.1.comm ht'.1
      clear ht' HT
      have hb3 : Below w.heap.size w ((w1.drewN n2).drewN n3) := belowDN (belowDN hb1 _) _
      clear hb1
      have H3 : (FloatKind.f32.format.order re re = some .eq ∧ FloatKind.f32.format.order im im = some .eq ∧ FloatKind.f32.format.order re re' = some .eq ∧ FloatKind.f32.format.order im im' = some .eq) ∨ (FloatKind.f32.format.order re re = some .eq ∧ FloatKind.f32.format.order im im = none) ∨ FloatKind.f32.format.order re re = none := by
        cases h1 : isN re with
        | true => exact .inr (.inr (order_n h1))
        | false =>
          cases h2 : isN im with
          | true => exact .inr (.inl ⟨order_nn h1, order_n h2⟩)
          | false => exact .inl ⟨order_nn h1, order_nn h2, sre.eq h1, sim.eq h2⟩
      clear sre sim
      generalize (w1.drewN n2).drewN n3 = w3 at *
      have HOK := fun W => Lib.hid (specCellOk_any 0 u v W)
      cases hok : okc 0 u v with
      | false =>
        rw [hok] at HOK
        clear HF HCH
        rcases H3 with ⟨k1, k2, k3, k4⟩ | ⟨k1, k2⟩ | k1
        all_goals
          go_wp2_with fail
          refine (HOK _).out.mono ?_
          rintro e w4 ⟨rfl, hb4⟩
          go_wp2
          go_ret
          exact ⟨rfl, below_trans hb3 hb4 hb3.size⟩
      | true =>
        rw [hok] at HOK
        have HFI := Lib.hid (show Flt.fin u = true ∧ Flt.fin v = true by unfold okc at hok; simpa using (by simpa using hok : _ ∧ _ ∧ _).2)
        clear hok
        rcases H3 with ⟨k1, k2, k3, k4⟩ | ⟨k1, k2⟩ | k1
        all_goals
          go_wp2_with fail
          refine (HOK _).out.mono ?_
          rintro e w4 ⟨rfl, hb4⟩
          have hb4 := below_trans hb3 hb4 hb3.size
          clear hb3
          go_wp2_with fail
          refine (HCH _ hb4 hb4.size).out.mono ?_
          rintro e w5 ⟨A, O, X5, Y5, hp, rfl, hb5⟩
          have hb5 := below_trans hb4 hb5 hb4.size
          have HPC := Lib.hid hp
          have hr5 : RoundT w ((w5.alloc (.cells #[.float .f32 A, .float .f32 O, .complex .f32 X5 Y5] 33)).alloc (.cells #[.complex .f32 1073741824 0, .complex .f32 3212836864 0, .complex .f32 0 1056964608, .complex .f32 0 3229614080] 31)) w5.heap.size A O := by
            have hl := heap_alloc_new (w5.alloc (.cells #[.float .f32 A, .float .f32 O, .complex .f32 X5 Y5] 33)) (.cells #[.complex .f32 1073741824 0, .complex .f32 3212836864 0, .complex .f32 0 1056964608, .complex .f32 0 3229614080] 31)
            rw [World.size_alloc] at hl
            exact ⟨⟨X5, Y5, (LieC.new w5 A O X5 Y5).below ((Below.refl _ _).alloc (Nat.le_refl _) _)⟩, hl, (hb5.alloc hb5.size _).alloc (by simp; have := hb5.size; omega) _, hb5.size⟩
          have HR5 := Lib.hid hr5
          clear hp hb4 HOK HCH hb5 hr5
          go_wp2
          obtain ⟨b, hb⟩ : ∃ b, w5.heap.size = b := ⟨_, rfl⟩
          rw [hb] at HR5
          try rw [hb]
          generalize (w5.alloc (.cells #[.float .f32 A, .float .f32 O, .complex .f32 X5 Y5] 33)).alloc (.cells #[.complex .f32 1073741824 0, .complex .f32 3212836864 0, .complex .f32 0 1056964608, .complex .f32 0 3229614080] 31) = w6 at *
          go_loopw [51] (fun i wr => ∃ k : Nat, k ≤ 4 ∧ i = .int .i64 (k : Int) ∧ RoundT w wr b A O) (fun i _ => 4 - (intOf i).toNat)
          case atStart => exact ⟨0, by omega, by go_num, HR5.out⟩
          case round =>
            obtain ⟨k, hk, rfl, hr⟩ := hrel
            by_cases hlt : k < 4
            · obtain ⟨Xk, Yk, pk, xk, yk, ht, hl⟩ := lit_turn hr.lit k hlt
              obtain ⟨α, ω, ξ, η, ⟨⟨_, qO, _, _⟩, _, hω, _⟩, hA⟩ := HPC.out
              obtain ⟨a, o, s, HU, HCN, hs0⟩ := turn_walk hA qO hω ht
              obtain ⟨X0, Y0, hch⟩ := hr.ch
              obtain ⟨c0, c1, c2, f0, f1, f2⟩ := hch.all
              obtain ⟨e0, e1, e2, _, _, _⟩ := (hch.set2 Xk Yk).all
              have HRS := Lib.hid (hr.set Xk Yk)
              have HCS := Lib.hid (hch.set2 Xk Yk)
              clear hr ht qO hω hA hch
              go_wp2_with fail
              generalize wr.setCell ⟨b, 2, none⟩ (.complex .f32 Xk Yk) = wS at *
              refine (HU _).out.mono ?_
              rintro e w7 ⟨a7, o7, x7, y7, h7, rfl, hb7⟩
              obtain ⟨rfl, rfl, rfl, rfl⟩ : a7 = a ∧ o7 = o ∧ x7 = xk ∧ y7 = yk := by simpa using h7
              have hbA := (Below.refl _ w7).alloc (Nat.le_refl _) (.cells #[.float .f32 a7, .float .f32 o7, .complex .f32 x7 y7] 33)
              have HR8 := Lib.hid ((HRS.out.next hb7).next hbA)
              have hc8 := (HCS.out.below hb7).below hbA
              obtain ⟨c0, c1, c2, _, _, _⟩ := hc8.all
              obtain ⟨d0, d1, d2, _, _, _⟩ := (LieC.new w7 a7 o7 x7 y7).all
              clear HRS HCS hb7 hbA h7 hc8 e0 e1 e2
              go_wp2_with fail
              generalize w7.alloc (.cells #[.float .f32 a7, .float .f32 o7, .complex .f32 x7 y7] 33) = w8 at *
              refine (HCN _).out.mono ?_
              rintro e w9 ⟨a9, o9, x9, y9, h9, rfl, hb9⟩
              obtain ⟨rfl, rfl, rfl, rfl⟩ : a9 = 1065353216 ∧ o9 = s ∧ x9 = 1065353216 ∧ y9 = 0 := by simpa using h9
              have hbB := (Below.refl _ w9).alloc (Nat.le_refl _) (.cells #[.float .f32 1065353216, .float .f32 o9, .complex .f32 1065353216 0] 33)
              have HR10 := Lib.hid ((HR8.out.next hb9).next hbB)
              obtain ⟨e0, e1, e2, _, _, _⟩ := (LieC.new w9 1065353216 o9 1065353216 0).all
              clear HR8 hb9 hbB h9 c0 c1 c2 d0 d1 d2 HU HCN
              have one1 : FloatKind.f32.format.order 1065353216 1065353216 = some .eq := by decide +kernel
              have zer0 : FloatKind.f32.format.order 0 0 = some .eq := by decide +kernel
              go_wp2
              go_roundw
              case rel => exact ⟨k + 1, by omega, by go_num, HR10.out⟩
              case measure => simp [intOf]; omega
            · have hk4 : k = 4 := by omega
              subst hk4
              have HBR := Lib.hid hr.bel
              clear hr
              go_wp2_with fail
              refine (times_any u v 1065353216 0 _).mono ?_
              rintro e w7 ⟨re7, im7, rfl, ht7, n7, rfl⟩
              obtain ⟨o1, o2⟩ := times_one HF.out.1.1 HF.out.1.2 HFI.out.1 HFI.out.2 ht7.1
              have o1' : FloatKind.f32.format.order re7 u = some .eq := o1
              have o2' : FloatKind.f32.format.order im7 v = some .eq := o2
              clear ht7 o1 o2
              go_wp2_with fail
              refine (times_any u v 0 1065353216 _).mono ?_
              rintro e w8 ⟨re8, im8, rfl, ht8, n8, rfl⟩
              obtain ⟨o3, o4⟩ := times_i HF.out.1.1 HF.out.1.2 HFI.out.1 HFI.out.2 ht8.1
              have o3' : FloatKind.f32.format.order re8 (Op.negFloat .f32 v) = some .eq := o3
              have o4' : FloatKind.f32.format.order im8 u = some .eq := o4
              clear ht8 o3 o4
              go_wp2
              go_ret
              exact ⟨rfl, belowDN HBR.out _⟩
end Go.Proofs.Ytnedmhhodmmddaa
