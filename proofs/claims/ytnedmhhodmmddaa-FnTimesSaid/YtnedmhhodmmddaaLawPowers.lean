/-
  What is proved: the walk of the law FnPowers.
  Conditions: none beyond the argument's own.
-/
import Derived.Test.YtnedmhhodmmddaaDraw5
import Derived.Test.YtnedmhhodmmddaaChan
import Derived.Test.YtnedmhhodmmddaaFSame
namespace Go.Proofs.Ytnedmhhodmmddaa
set_option linter.unusedVariables false
open Go.RowKit
attribute [local go_sem] run_store_float run_store_complex unary_negf neg256

open Ieee in
theorem NN.sp {x : Nat} (h : NN x) : (FloatKind.f32.format.order x 0 = some .eq ∧ Nul x) ∨ (FloatKind.f32.format.order x 0 = some .gt ∧ ¬ Nul x) := by
  have hg := h.ge
  by_cases hn : Nul x
  · exact .inl ⟨nul_eq.2 hn, hn⟩
  · refine .inr ⟨?_, hn⟩
    have h0 : single.order x 0 ≠ some .eq := fun e => hn (nul_eq.1 e)
    show single.order x 0 = some .gt
    revert hg h0
    cases single.order x 0 with
    | none => intro hg; simp at hg
    | some o => cases o <;> simp
theorem order_nn {x : Nat} (h : isN x = false) : FloatKind.f32.format.order x x = some .eq := by
  rcases Sm.refl x with _ | h2
  · exact Flt.order_self h
  · rw [h] at h2; exact absurd h2.1 (by simp)
theorem order_n {x y : Nat} (h : isN x = true) : FloatKind.f32.format.order x y = none := Flt.order_nan (.inl h)
theorem NN.three {p m n : Nat} (hp : NN p) (hm : NN m) (hn : NN n) (hz : Nul p ↔ Nul m ∧ Nul n) :
    (FloatKind.f32.format.order p 0 = some .eq ∧ FloatKind.f32.format.order m 0 = some .eq ∧ FloatKind.f32.format.order n 0 = some .eq) ∨ (FloatKind.f32.format.order p 0 = some .gt ∧ FloatKind.f32.format.order m 0 = some .eq ∧ FloatKind.f32.format.order n 0 = some .gt) ∨
    (FloatKind.f32.format.order p 0 = some .gt ∧ FloatKind.f32.format.order m 0 = some .gt ∧ FloatKind.f32.format.order n 0 = some .eq) ∨ (FloatKind.f32.format.order p 0 = some .gt ∧ FloatKind.f32.format.order m 0 = some .gt ∧ FloatKind.f32.format.order n 0 = some .gt) := by
  rcases hm.sp with ⟨m1, m2⟩ | ⟨m1, m2⟩ <;> rcases hn.sp with ⟨n1, n2⟩ | ⟨n1, n2⟩ <;> rcases hp.sp with ⟨p1, p2⟩ | ⟨p1, p2⟩
  · exact .inl ⟨p1, m1, n1⟩
  · exact absurd (hz.2 ⟨m2, n2⟩) p2
  · exact absurd (hz.1 p2).2 n2
  · exact .inr (.inl ⟨p1, m1, n1⟩)
  · exact absurd (hz.1 p2).1 m2
  · exact .inr (.inr (.inl ⟨p1, m1, n1⟩))
  · exact absurd (hz.1 p2).2 n2
  · exact .inr (.inr (.inr ⟨p1, m1, n1⟩))
theorem PowR.swap4 {x y p p' : Nat} (hy : y < 2 ^ 32) (h : PowR x y p) (h' : PowR (Go.Op.negFloat .f32 y) x p') : Sm p p' := by
  obtain ⟨m, n, h1, h2, h3⟩ := h'
  have h4 : PowR y x p' := ⟨m, n, by unfold Res at h1 ⊢; rwa [sq_neg hy] at h1, h2, h3⟩
  exact h.swap h4
theorem Sm.eq {x y : Nat} (h : Sm x y) (hx : isN x = false) : FloatKind.f32.format.order x y = some .eq := by
  rcases h with rfl | h2
  · exact order_nn hx
  · rw [hx] at h2; exact absurd h2.1 (by simp)
set_option maxHeartbeats 2000000 in
theorem walk_FnPowers (a0 : Option Addr) (len0 cap0 : Nat) (z0 : List Int) (w : World) (w0 : IsRow .u8 w a0 len0 cap0 z0) :
    Calls Try.prog 6 #[.slice a0 len0 cap0] w fun e w' => e = .returned (.bool true) ∧ Below w.heap.size w w' := by
  by_cases hbig : 1048576 < len0
  · have hbb : decide ((1048576 : Int) < len0) = true := by simp; omega
    have HB := Lib.hid (big_any a0 len0 cap0 w)
    rw [hbb] at HB
    clear hbb
    go_enter Try.func6, Try.ntmps6
    go_wp2_with fail
    refine HB.out.mono ?_
    rintro e w1 ⟨rfl, rfl⟩
    go_wp2
    go_ret
    exact ⟨rfl, Below.refl _ _⟩
  · have hbb : decide ((1048576 : Int) < len0) = false := by simp; omega
    have HB := Lib.hid (big_any a0 len0 cap0 w)
    rw [hbb] at HB
    have HD := Lib.hid (drawPower_any a0 len0 cap0 w (w0.src (by omega)))
    clear hbb w0
    go_enter Try.func6, Try.ntmps6
    go_wp2_with fail
    refine HB.out.mono ?_
    rintro e w1 ⟨rfl, rfl⟩
    go_wp2_with fail
    refine HD.out.mono ?_
    rintro e w1 ⟨X, Y, hf, rfl, hb1⟩
    have HF := Lib.hid hf
    clear hf HD HB
    go_wp2_with fail
    refine (power_any X Y w1).mono ?_
    rintro e w2 ⟨p, rfl, hp, n2, rfl⟩
    by_cases hN : isN X = true ∨ isN Y = true
    · have hn : isN p = true := hp.1.nan hN
      have hpp := order_n (y := p) hn
      clear hp hn
      by_cases hX : isN X = true
      · have h1 := order_n (y := X) hX
        clear hN hX
        go_wp2
        go_ret
        exact ⟨rfl, belowDN hb1 _⟩
      · have hX' : isN X = false := by simpa using hX
        have h1 := order_nn hX'
        have h2 := order_n (y := Y) (hN.resolve_left hX)
        clear hN hX hX'
        go_wp2
        go_ret
        exact ⟨rfl, belowDN hb1 _⟩
    · have hX : isN X = false := by cases h : isN X with | false => rfl | true => exact absurd (.inl h) hN
      have hY : isN Y = false := by cases h : isN Y with | false => rfl | true => exact absurd (.inr h) hN
      have h1 := order_nn hX
      have h2 := order_nn hY
      obtain ⟨hpn, m, n, em, en, hz⟩ := hp.1.nn hX hY
      have hm : NN m := by obtain ⟨r, er, hr⟩ := sq_nn hX; rw [em] at er; cases er; exact hr
      have hn : NN n := by obtain ⟨r, er, hr⟩ := sq_nn hY; rw [en] at er; cases er; exact hr
      have qm := fun W => run_float_arith (P := Try.prog) W .mul 30 .f32 _ _ _ em
      have qn := fun W => run_float_arith (P := Try.prog) W .mul 30 .f32 _ _ _ en
      have hpk := hpn.ok
      have h34 := hpn.three hm hn hz
      have HP := Lib.hid hp
      have HK := Lib.hid hpk
      clear hN hp hm hn em en hpn hX hY hpk
      clear hz
      rcases h34 with ⟨sp, sm, sn⟩ | ⟨sp, sm, sn⟩ | ⟨sp, sm, sn⟩ | ⟨sp, sm, sn⟩
      all_goals
        go_wp2_with fail
        refine (power_any X _ _).mono ?_
        rintro e w3 ⟨p3, rfl, hp3, n3, rfl⟩
        have h3 := (HP.out.1.neg HF.out.2 hp3.1).eq HK.out
        clear hp3
        go_wp2_with fail
        refine (power_any _ X _).mono ?_
        rintro e w4 ⟨p4, rfl, hp4, n4, rfl⟩
        have h4 := (HP.out.1.swap4 HF.out.2 hp4.1).eq HK.out
        clear hp4 HP
        go_wp2
        go_ret
        exact ⟨rfl, belowDN hb1 _⟩
end Go.Proofs.Ytnedmhhodmmddaa
