/-
  What is proved: the walk of the law FnSwingTurned.
  Conditions: none beyond the argument's own.
-/
import Derived.Test.YtjccnmnhgahlfaaDrawLine
import Derived.Test.YtjccnmnhgahlfaaSwing
namespace Go.Proofs.Ytjccnmnhgahlfaa
set_option linter.unusedVariables false
open Go.RowKit
attribute [local go_sem] run_store_float run_store_complex unary_negf neg256

theorem SwingR.three {xs ys : List Nat} {n : Int} (h : SwingR xs ys n) : n = 1 ∨ n = -1 ∨ n = 0 := by
  obtain ⟨p, q, r, s, o1, o2, h1, h2, rfl⟩ := h
  split
  · unfold swing
    split
    · exact .inl rfl
    · split
      · exact .inr (.inl rfl)
      · exact .inr (.inr rfl)
  · exact .inr (.inr rfl)
theorem FNew.cur {w w' : World} {base b : Nat} {v : Value} {xs : List Nat} (h : FNew w base v xs) (hg : w.grownBy w' (some b)) (hb : b < base) : FNew w' base v xs :=
  h.far hg (fun k hk e => by have h1 : b = k := Option.some.inj e; have := (h.lt k hk).1; omega)
def DrawTwo (w : World) (e : Ending) (w' : World) : Prop := ∃ v v' xs ys, xs.length ≤ 5000 ∧ ys.length ≤ 5000 ∧ e = .returned (.tuple #[v, v']) ∧ FRow w' v xs ∧ FRow w' v' ys ∧ Below w.heap.size w w'
theorem DrawTwo.mk {w w' : World} {v v' : Value} {xs ys : List Nat} (hl : xs.length ≤ 5000) (hl' : ys.length ≤ 5000) (hr : FRow w' v xs) (hr' : FRow w' v' ys) (hb : Below w.heap.size w w') : DrawTwo w (.returned (.tuple #[v, v'])) w' := ⟨v, v', xs, ys, hl, hl', rfl, hr, hr', hb⟩
set_option maxHeartbeats 1000000 in
theorem drawSwing_any (a : Option Addr) (len cap : Nat) (w : World) (hs : Src w w.heap.size a len cap) :
    Calls Try.prog 24 #[.slice a len cap] w fun e w' => DrawTwo w e w' := by
  have HN := Lib.hid (l01New_any a len cap w hs)
  clear hs
  go_enter Try.func24, Try.ntmps24
  go_wp2_with fail
  refine HN.out.mono ?_
  rintro e w1 ⟨rfl, hc1, hg1⟩
  have hlt := hc1.lt
  go_wp2_with fail
  refine (l04Line_any _ _ hc1).mono ?_
  rintro e w2 ⟨v, ys, rfl, hyl, ho2, hc2, hg2⟩
  have HO2 := Lib.hid ho2
  clear ho2
  go_wp2_with fail
  refine (l04Line_any _ _ hc2).mono ?_
  rintro e w3 ⟨v', zs, rfl, hzl, ho3, hc3, hg3⟩
  have HO3 := Lib.hid (HO2.out.cur hg3 hlt)
  have HP3 := Lib.hid ho3
  clear ho3 HO2
  go_wp2
  go_ret2
  exact DrawTwo.mk hyl hzl HO3.out.row HP3.out.row (drawn hg1 (hg2.trans hg3))
set_option maxHeartbeats 4000000 in
theorem walk_FnSwingTurned (a0 : Option Addr) (len0 cap0 : Nat) (z0 : List Int) (w : World) (w0 : IsRow .u8 w a0 len0 cap0 z0) :
    Calls Try.prog 5 #[.slice a0 len0 cap0] w fun e w' => e = .returned (.bool true) ∧ Below w.heap.size w w' := by
  by_cases hbig : 1048576 < len0
  · have hbb : decide ((1048576 : Int) < len0) = true := by simp; omega
    have HB := Lib.hid (big_any a0 len0 cap0 w)
    rw [hbb] at HB
    clear hbb
    go_enter Try.func5, Try.ntmps5
    go_wp2_with fail
    refine HB.out.mono ?_
    rintro e w1 ⟨rfl, rfl⟩
    go_wp2
    go_ret
    exact ⟨rfl, Below.refl _ _⟩
  · have hbb : decide ((1048576 : Int) < len0) = false := by simp; omega
    have HB := Lib.hid (big_any a0 len0 cap0 w)
    rw [hbb] at HB
    have HD := Lib.hid (drawSwing_any a0 len0 cap0 w (w0.src (by omega)))
    clear hbb w0
    go_enter Try.func5, Try.ntmps5
    go_wp2_with fail
    refine HB.out.mono ?_
    rintro e w1 ⟨rfl, rfl⟩
    go_wp2_with fail
    refine HD.out.mono ?_
    rintro e w1 ⟨v, v', xs, ys, hxl, hyl, rfl, hr, hr', hb1⟩
    have HR := fun W (hb : Below w1.heap.size w1 W) => Lib.hid (And.intro (hr.below hb) (hr'.below hb))
    clear hr hr' HD HB
    have r1 := HR _ (Below.refl _ _)
    go_wp2_with fail
    refine (hueGain_any v v' xs ys _ r1.out.1 r1.out.2 (by omega) (by omega)).mono ?_
    rintro e w2 ⟨u, z, ok, rfl, h1, hb2⟩
    have r2 := HR _ hb2
    go_wp2_with fail
    refine (hueGain_any v' v ys xs _ r2.out.2 r2.out.1 (by omega) (by omega)).mono ?_
    rintro e w3 ⟨u', z', ok', rfl, h2, hb3⟩
    obtain ⟨rfl, rfl, rfl⟩ := h1.turned h2
    have tb3 := below_trans hb2 hb3 hb2.size
    have r3 := HR _ tb3
    go_wp2_with fail
    refine (specHue_any v v' xs ys _ r3.out.1 r3.out.2 (by omega) (by omega)).mono ?_
    rintro e w4 ⟨u'', z'', ok'', rfl, h3, hb4⟩
    obtain ⟨rfl, rfl, rfl⟩ := h1.same h3
    have tb4 := below_trans tb3 hb4 tb3.size
    have r4 := HR _ tb4
    have hm := h1.mag
    have o1 : FloatKind.f32.format.order u u = some .eq := Flt.order_self (f := Ieee.single) hm.1.ok
    have o2 : FloatKind.f32.format.order z z = some .eq := Flt.order_self (f := Ieee.single) hm.2.ok
    have HZ := Lib.hid (fun h : ok = false => (show u = 0 ∧ z = 0 by obtain ⟨p, q, p', q', k1, k2, _, _, _, _, k5⟩ := h1; exact k5 h))
    clear h1 h2 h3 hm hb2 hb3 hb4 r1 r2 r3
    go_wp2_with fail
    refine (swing_any v v' xs ys _ r4.out.1 r4.out.2 (by omega) (by omega)).mono ?_
    rintro e w5 ⟨n, rfl, h5, hb5⟩
    have tb5 := below_trans tb4 hb5 tb4.size
    have r5 := HR _ tb5
    go_wp2_with fail
    refine (swing_any v' v ys xs _ r5.out.2 r5.out.1 (by omega) (by omega)).mono ?_
    rintro e w6 ⟨m, rfl, h6, hb6⟩
    have tb6 := below_trans tb5 hb6 tb5.size
    have tb := below_trans hb1 tb6 hb1.size
    have hnm := h5.turned h6
    have h3 := h6.three
    clear h5 h6 hb5 hb6 r4 r5 HR tb3 tb4 tb5 tb6
    cases ok with
    | true =>
      clear HZ
      rcases h3 with rfl | rfl | rfl
      all_goals
        subst hnm
        go_wp2
        go_ret
        exact ⟨rfl, tb⟩
    | false =>
      obtain ⟨rfl, rfl⟩ := HZ.out rfl
      clear HZ
      rcases h3 with rfl | rfl | rfl
      all_goals
        subst hnm
        go_wp2
        go_ret
        exact ⟨rfl, tb⟩
end Go.Proofs.Ytjccnmnhgahlfaa
