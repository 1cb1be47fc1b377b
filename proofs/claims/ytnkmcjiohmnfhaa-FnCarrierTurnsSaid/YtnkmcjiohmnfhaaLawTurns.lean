/-
  What is proved: the walk of the law FnCarrierTurns.
  Conditions: none beyond the argument's own.
-/
import Derived.Test.YtnkmcjiohmnfhaaDrawRow
import Derived.Test.YtnkmcjiohmnfhaaCar
namespace Go.Proofs.Ytnkmcjiohmnfhaa
set_option linter.unusedVariables false
open Go.RowKit
attribute [local go_sem] run_store_float run_store_complex unary_negf neg256

theorem Flt.nan_neg {x : Nat} (hx : x < 2 ^ 32) : (Ieee.single.read (Op.negFloat .f32 x)).isNaN = (Ieee.single.read x).isNaN := by
  obtain ⟨s, r, rfl, hr⟩ := Flt.word_parts32 x hx
  rw [Flt.neg_word32 s r hr, Flt.read_word _ _ _ hr, Flt.read_word _ _ _ hr]
  repeat' split
  all_goals rfl
theorem wrapk_I64 (x : Int) : I64 (IntKind.i64.wrap x) := by rw [IntWalk.i64_left]; exact wrap_rng x

theorem phase_four (n : Int) : phase (n + 4) = phase n := by unfold phase; rw [show (n + 4) % 4 = n % 4 by omega]
theorem phase_eq (n : Int) : FloatKind.f32.format.order (phase n).1 (phase n).1 = some .eq ∧ FloatKind.f32.format.order (phase n).2 (phase n).2 = some .eq ∧ (FloatKind.f32.format.order (phase n).1 0 == some .eq && FloatKind.f32.format.order (phase n).2 0 == some .eq) = false := by
  have hr : n % 4 = 0 ∨ n % 4 = 1 ∨ n % 4 = 2 ∨ n % 4 = 3 := by omega
  unfold phase
  rcases hr with h | h | h | h <;> rw [h] <;> decide +kernel
def CarPost (w : World) (e : Ending) (w' : World) : Prop := ∃ u v n, (u < 2 ^ 32 ∧ v < 2 ^ 32) ∧ I64 n ∧ e = .returned (.tuple #[.complex .f32 u v, .int .i64 n]) ∧ Below w.heap.size w w'
theorem CarPost.mk {w w' : World} {u v : Nat} {n : Int} (h : u < 2 ^ 32 ∧ v < 2 ^ 32) (hn : I64 n) (hb : Below w.heap.size w w') : CarPost w (.returned (.tuple #[.complex .f32 u v, .int .i64 n])) w' := ⟨u, v, n, h, hn, rfl, hb⟩
set_option maxHeartbeats 1000000 in
theorem drawCarried_any (a : Option Addr) (len cap : Nat) (w : World) (hs : Src w w.heap.size a len cap) :
    Calls Try.prog 27 #[.slice a len cap] w fun e w' => CarPost w e w' := by
  have HN := Lib.hid (l01New_any a len cap w hs)
  clear hs
  go_enter Try.func27, Try.ntmps27
  go_wp2_with fail
  refine HN.out.mono ?_
  rintro e w1 ⟨rfl, hc1, hg1⟩
  go_wp2_with fail
  refine (l02Cell_any _ _ hc1).mono ?_
  rintro e w2 ⟨y, u, v, hf, rfl, hc2, hg2⟩
  have HF := Lib.hid hf
  clear hf
  have hlt := hc1.lt
  have hcA := (hc2.alloc (.cells #[.float .f32 y, .complex .f32 u v] 42))
  have hnew := heap_alloc_new w2 (.cells #[.float .f32 y, .complex .f32 u v] 42)
  have m1 : (w2.alloc (.cells #[.float .f32 y, .complex .f32 u v] 42)).cell? ⟨w2.heap.size, 1, none⟩ = some (.complex .f32 u v) := (cell_of_row _ _ 1 _ _ _ hnew).trans rfl
  have hs2 : w.heap.size < w2.heap.size := by have := hg1.size; have := hg2.size; omega
  have hgA := grown_alloc hg2 (.cells #[.float .f32 y, .complex .f32 u v] 42)
  have hcd : Cur (w2.alloc (.cells #[.float .f32 y, .complex .f32 u v] 42)).drew w.heap.size := hcA.drewN 1
  have HCD := Lib.hid hcd
  have hne : w2.heap.size ≠ w.heap.size := by omega
  clear hcd
  clear hnew hc2 hcA hc1
  go_wp2
  generalize w2.alloc (.cells #[.float .f32 y, .complex .f32 u v] 42) = wA at *
  have HGA := Lib.hid hgA
  clear hg2 hgA
  go_region_with (go_at_call 65; refine (l01Number_any _ _ HCD.out).mono ?_; rintro e w3 ⟨n, hn, rfl, hc3, hg3⟩; have hgx : wA.grownBy w3 (some w.heap.size) := (grownN (World.grownBy.refl wA (some w.heap.size)) 1).trans hg3; have m3 := hgx.cell m1 (by intro e; first | exact hne e | exact hne (Option.some.inj e) | exact hne e.symm | exact hne (Option.some.inj e).symm))
  all_goals
    have hgg := HGA.out.trans hgx
    clear hn hg3 hgx
    go_wp2
    go_ret2
    exact CarPost.mk ⟨HF.out.2.1, HF.out.2.2⟩ (wrapk_I64 _) (drawn hg1 hgg)

set_option maxHeartbeats 4000000 in
theorem walk_FnCarrierTurns (a0 : Option Addr) (len0 cap0 : Nat) (z0 : List Int) (w : World) (w0 : IsRow .u8 w a0 len0 cap0 z0) :
    Calls Try.prog 6 #[.slice a0 len0 cap0] w fun e w' => e = .returned (.bool true) ∧ Below w.heap.size w w' := by
  by_cases hbig : 1048576 < len0
  · have hbb : decide ((1048576 : Int) < len0) = true := by simp; omega
    have HB := Lib.hid (big_any a0 len0 cap0 w)
    rw [hbb] at HB
    clear hbb
    go_enter Try.func6, Try.ntmps6
    go_wp2_with fail
    refine HB.out.mono ?_
    rintro e w1 ⟨rfl, rfl⟩
    go_wp2
    go_ret
    exact ⟨rfl, Below.refl _ _⟩
  · have hbb : decide ((1048576 : Int) < len0) = false := by simp; omega
    have HB := Lib.hid (big_any a0 len0 cap0 w)
    rw [hbb] at HB
    have HD := Lib.hid (drawCarried_any a0 len0 cap0 w (w0.src (by omega)))
    clear hbb w0
    go_enter Try.func6, Try.ntmps6
    go_wp2_with fail
    refine HB.out.mono ?_
    rintro e w1 ⟨rfl, rfl⟩
    go_wp2_with fail
    refine HD.out.mono ?_
    rintro e w1 ⟨u, v, n, ⟨hu, hv⟩, hn, rfl, hb1⟩
    clear HD HB
    by_cases hnan : (Ieee.single.read u).isNaN = true ∨ (Ieee.single.read v).isNaN = true
    · have ho : (FloatKind.f32.format.order u u == some .eq && FloatKind.f32.format.order v v == some .eq) = false := by
        rcases hnan with h | h
        · rw [show FloatKind.f32.format.order u u = none from Flt.order_nan (.inl h)]; rfl
        · rw [show FloatKind.f32.format.order v v = none from Flt.order_nan (.inl h)]; simp
      clear hnan
      go_wp2
      go_ret
      exact ⟨rfl, hb1⟩
    · have hu0 : (Ieee.single.read u).isNaN = false := by cases h : (Ieee.single.read u).isNaN; rfl; exact absurd (.inl h) hnan
      have hv0 : (Ieee.single.read v).isNaN = false := by cases h : (Ieee.single.read v).isNaN; rfl; exact absurd (.inr h) hnan
      have o1 : FloatKind.f32.format.order u u = some .eq := Flt.order_self hu0
      have o2 : FloatKind.f32.format.order v v = some .eq := Flt.order_self hv0
      have o3 : FloatKind.f32.format.order (Op.negFloat .f32 u) (Op.negFloat .f32 u) = some .eq := Flt.order_self ((Flt.nan_neg hu).trans hu0)
      have o4 : FloatKind.f32.format.order (Op.negFloat .f32 v) (Op.negFloat .f32 v) = some .eq := Flt.order_self ((Flt.nan_neg hv).trans hv0)
      have ho : (FloatKind.f32.format.order u u == some .eq && FloatKind.f32.format.order v v == some .eq) = true := by rw [o1, o2]; rfl
      by_cases hbd : n > 1152921504606846976 ∨ n < -1152921504606846976
      · rcases hbd with h | h
        all_goals
          clear hnan hn hu hv o1 o2 o3 o4 hu0 hv0
          go_wp2
          go_ret
          exact ⟨rfl, hb1⟩
      · have hn1 : n ≤ 1152921504606846976 := by omega
        have hn2 : -1152921504606846976 ≤ n := by omega
        have HCR := fun u v m W => Lib.hid (carried_any u v m W)
        have HPH := fun m W => Lib.hid (carrier_any m W)
        have HFA : Hid (((FloatKind.f32.format.order (carriedOf u v (n + 4)) (carriedOf u v n) == some .eq) = true ∧ (FloatKind.f32.format.order (carriedOf u v (n + 2)) (Op.negFloat .f32 (carriedOf u v n)) == some .eq) = true ∧ (FloatKind.f32.format.order (carriedOf u v (n + 1)) (carriedOf (Op.negFloat .f32 v) u n) == some .eq) = true)) := Lib.hid (by
          have hr : n % 4 = 0 ∨ n % 4 = 1 ∨ n % 4 = 2 ∨ n % 4 = 3 := by omega
          unfold carriedOf
          rcases hr with h | h | h | h
          · rw [show (n + 4) % 4 = 0 by omega, show (n + 2) % 4 = 2 by omega, show (n + 1) % 4 = 1 by omega, h]; simp [o1, o2, o3, o4, Flt.neg_neg32]
          · rw [show (n + 4) % 4 = 1 by omega, show (n + 2) % 4 = 3 by omega, show (n + 1) % 4 = 2 by omega, h]; simp [o1, o2, o3, o4, Flt.neg_neg32]
          · rw [show (n + 4) % 4 = 2 by omega, show (n + 2) % 4 = 0 by omega, show (n + 1) % 4 = 3 by omega, h]; simp [o1, o2, o3, o4, Flt.neg_neg32]
          · rw [show (n + 4) % 4 = 3 by omega, show (n + 2) % 4 = 1 by omega, show (n + 1) % 4 = 0 by omega, h]; simp [o1, o2, o3, o4, Flt.neg_neg32])
        clear hnan hn hu hv o1 o2 o3 o4 hu0 hv0 hbd
        go_wp2_with fail
        refine (HCR _ _ _ _).out.mono ?_
        rintro e w2 ⟨rfl, hb2⟩
        go_wp2_with fail
        refine (HCR _ _ _ _).out.mono ?_
        rintro e w3 ⟨rfl, hb3⟩
        have q1 := HFA.out.1
        have q2 := HFA.out.2.1
        have q3 := HFA.out.2.2
        go_wp2_with fail
        refine (HCR _ _ _ _).out.mono ?_
        rintro e w4 ⟨rfl, hb4⟩
        go_wp2_with fail
        refine (HCR _ _ _ _).out.mono ?_
        rintro e w5 ⟨rfl, hb5⟩
        go_wp2_with fail
        refine (HCR _ _ _ _).out.mono ?_
        rintro e w6 ⟨rfl, hb6⟩
        go_wp2_with fail
        refine (HPH _ _).out.mono ?_
        rintro e w7 ⟨rfl, hb7⟩
        rw [phase_four n]
        go_wp2_with fail
        refine (HPH _ _).out.mono ?_
        rintro e w8 ⟨rfl, hb8⟩
        obtain ⟨p1, p2, p3⟩ := phase_eq n
        go_wp2_with fail
        refine (HPH _ _).out.mono ?_
        rintro e w9 ⟨rfl, hb9⟩
        obtain ⟨p1, p2, p3⟩ := phase_eq n
        have hbz := below_trans hb1 (below_trans (below_trans (below_trans (below_trans hb2 hb3 hb2.size) (below_trans hb4 hb5 hb4.size) (below_trans hb2 hb3 hb2.size).size) (below_trans (below_trans hb6 hb7 hb6.size) (below_trans hb8 hb9 hb8.size) (below_trans hb6 hb7 hb6.size).size) (below_trans (below_trans hb2 hb3 hb2.size) (below_trans hb4 hb5 hb4.size) (below_trans hb2 hb3 hb2.size).size).size) (Below.refl _ _) (Below.size (below_trans (below_trans (below_trans hb2 hb3 hb2.size) (below_trans hb4 hb5 hb4.size) (below_trans hb2 hb3 hb2.size).size) (below_trans (below_trans hb6 hb7 hb6.size) (below_trans hb8 hb9 hb8.size) (below_trans hb6 hb7 hb6.size).size) (below_trans (below_trans hb2 hb3 hb2.size) (below_trans hb4 hb5 hb4.size) (below_trans hb2 hb3 hb2.size).size).size))) hb1.size
        go_wp2
        go_ret
        exact ⟨rfl, hbz⟩
end Go.Proofs.Ytnkmcjiohmnfhaa
