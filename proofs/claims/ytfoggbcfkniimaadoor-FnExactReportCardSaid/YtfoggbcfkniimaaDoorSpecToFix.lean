/-
  What is proved: the walk of the model's ToFixed, and that of the law FnExactToFixed.
  Conditions: none.
-/
import Derived.Test.YtfoggbcfkniimaaDoorToFix
namespace Go.Proofs.YtfoggbcfkniimaaDoor
set_option linter.unusedVariables false
open Go.RowKit

set_option maxRecDepth 100000 in
set_option maxHeartbeats 400000 in
theorem specTo_out (x p : Nat) (w w1 : World) (hm : (binOp .mul 76 (.float .f64 x) (.float .f64 4652007308841189376)).run Tryd.prog w = .ok (.float .f64 p) w1) (hb : Below w.heap.size w w1)
    (b1 b2 : Bool) (h1 : (FloatKind.f64.format.order p 13965043853225361408 == some Ordering.gt) = b1) (h2 : (FloatKind.f64.format.order p 4741671816370585600 == some Ordering.lt) = b2) (hbb : b1 = false ∨ b2 = false) (ht : tfx x = none) :
    Calls Tryd.prog 96 #[.float .f64 x] w fun e w' => ToPost x w e w' := by
  have HT := Lib.hid ht
  clear ht
  cases b1
  · go_enter Tryd.func96, Tryd.ntmps96
    go_wp2
    go_ret2
    exact ToPost.no HT.out hb
  · obtain rfl : b2 = false := by simpa using hbb
    clear hbb
    go_enter Tryd.func96, Tryd.ntmps96
    go_wp2
    go_ret2
    exact ToPost.no HT.out hb

set_option maxRecDepth 100000 in
set_option maxHeartbeats 1000000 in
theorem specTo_in (x p f : Nat) (n : Int) (w w1 : World) (hm : (binOp .mul 76 (.float .f64 x) (.float .f64 4652007308841189376)).run Tryd.prog w = .ok (.float .f64 p) w1) (hb : Below w.heap.size w w1)
    (h1 : FloatKind.f64.format.order p 13965043853225361408 = some Ordering.gt) (h2 : FloatKind.f64.format.order p 4741671816370585600 = some Ordering.lt)
    (hi : floatToIntVal .f64 p .i64 = some n) (hn0 : -1000000000 ≤ n) (hn1 : n ≤ 1000000000) (hs : floatBits .sub .f64 p (floatOfInt .f64 n) = some f)
    (o1 o2 : Ordering) (h3 : FloatKind.f64.format.order f 4602678819172646912 = some o1) (h4 : FloatKind.f64.format.order f 13826050856027422720 = some o2)
    (hoo : (o1 = .lt ∧ o2 = .gt) ∨ (o1 ≠ .lt ∧ o2 = .gt) ∨ (o1 = .lt ∧ o2 ≠ .gt))
    (ht : tfx x = some (if o1 ≠ .lt then n + 1 else if o2 ≠ .gt then n - 1 else n)) :
    Calls Tryd.prog 96 #[.float .f64 x] w fun e w' => ToPost x w e w' := by
  have hcv := fun wx => run_convert_float_int (P := Tryd.prog) wx 76 3 .f64 .i64 _ _ (by rw [Tryd.underlying76]; rfl) Tryd.underlying3 hi
  have hsb := fun wx => run_float_arith (P := Tryd.prog) wx .sub 76 .f64 _ _ _ hs
  clear hi hs
  rcases hoo with ⟨rfl, rfl⟩ | ⟨ho, rfl⟩ | ⟨rfl, ho⟩
  · have HT := Lib.hid ht
    clear ht
    go_enter Tryd.func96, Tryd.ntmps96
    go_wp2
    go_ret2
    exact ToPost.yes HT.out hb
  · rw [if_pos ho] at ht
    have HT := Lib.hid ht
    clear ht
    cases o1
    · exact absurd rfl ho
    · clear ho
      go_enter Tryd.func96, Tryd.ntmps96
      go_wp2
      go_ret2
      exact ToPost.yes HT.out hb
    · clear ho
      go_enter Tryd.func96, Tryd.ntmps96
      go_wp2
      go_ret2
      exact ToPost.yes HT.out hb
  · rw [if_neg (by simp), if_pos ho] at ht
    have HT := Lib.hid ht
    clear ht
    cases o2
    · clear ho
      go_enter Tryd.func96, Tryd.ntmps96
      go_wp2
      go_ret2
      exact ToPost.yes HT.out hb
    · clear ho
      go_enter Tryd.func96, Tryd.ntmps96
      go_wp2
      go_ret2
      exact ToPost.yes HT.out hb
    · exact absurd rfl ho

theorem natAbs_sg' (s : Bool) (q : Nat) : (Flt.sg s q).natAbs = q := Flt.natAbs_sg s q
theorem ordering_cases (o : Ordering) : o = .lt ∨ o ≠ .lt := by cases o <;> simp

/-- The model's ToFixed, at every float. -/
theorem specToFixed_any (x : Nat) (w : World) : Calls Tryd.prog 96 #[.float .f64 x] w fun e w' => ToPost x w e w' := by
  obtain ⟨s, r, w1, hm, hr, hb, _, ht⟩ := mul1000 x w
  have ho := Flt.one_two
  have hh := Flt.half_pos
  by_cases hnum : r < 2047 * 2 ^ 52
  · have hN : ∃ u, Flt.Num Ieee.double (Ieee.double.word s r) s u := by
      by_cases hE : r / 2 ^ 52 < 1075
      · obtain ⟨u, hu⟩ := Flt.rnd_num r hE; exact ⟨u, (hu s).1⟩
      · obtain ⟨u, hu, _⟩ := Flt.big_num s r (by omega) hnum; exact ⟨u, hu⟩
    obtain ⟨u, hu⟩ := hN
    have ht2 := Flt.toFix_num hu
    rw [ht] at ht2
    have hlo := Flt.order_num hu Flt.c_lo
    have hhi := Flt.order_num hu Flt.c_hi
    by_cases hin : u < 2000000001 * Flt.HALF
    · rw [if_pos hin] at ht2
      have h1 : FloatKind.f64.format.order (Ieee.double.word s r) 13965043853225361408 = some Ordering.gt := by
        refine hlo.trans (congrArg some (Flt.cmp_gt ?_))
        unfold Flt.sg
        cases s
        · simp only [Bool.false_eq_true, if_false, if_true]; omega
        · simp only [if_true]; omega
      have h2 : FloatKind.f64.format.order (Ieee.double.word s r) 4741671816370585600 = some Ordering.lt := by
        refine hhi.trans (congrArg some (Flt.cmp_lt ?_))
        unfold Flt.sg
        cases s
        · simp only [Bool.false_eq_true, if_false]; omega
        · simp only [Bool.false_eq_true, if_false, if_true]; omega
      have hi := toInt_val hu (.inl hin)
      obtain ⟨f, hf, h3, h4⟩ := Flt.left_over _ s u hu hin
      have hs : floatBits .sub .f64 (Ieee.double.word s r) (floatOfInt .f64 (Flt.sg s (u / Flt.ONE))) = some f := by
        show Ieee.double.sub _ (Ieee.double.nearest _ (Flt.sg s (u / Flt.ONE)).natAbs 0) = _
        rw [natAbs_sg']
        exact hf
      have hq : u / Flt.ONE ≤ 1000000000 := by
        apply Nat.le_of_lt_succ
        apply (Nat.div_lt_iff_lt_mul (by omega)).2
        rw [ho]; omega
      have hrp := Flt.rnd_parts u
      have hmod : u % Flt.ONE < Flt.ONE := Nat.mod_lt _ (by omega)
      generalize u / Flt.ONE = q at *
      generalize u % Flt.ONE = m at *
      have hb0 : -1000000000 ≤ Flt.sg s q ∧ Flt.sg s q ≤ 1000000000 := by
        unfold Flt.sg
        cases s
        · simp only [Bool.false_eq_true, if_false]; omega
        · simp only [if_true]; omega
      refine specTo_in x _ f _ w w1 hm hb h1 h2 hi hb0.1 hb0.2 hs _ _ h3 h4 ?_ ?_
      · cases s
        · show (compare (m : Int) Flt.HALF = .lt ∧ compare (m : Int) (-(Flt.HALF : Int)) = .gt) ∨ (compare (m : Int) Flt.HALF ≠ .lt ∧ compare (m : Int) (-(Flt.HALF : Int)) = .gt) ∨ _
          have hg : compare (m : Int) (-(Flt.HALF : Int)) = .gt := Flt.cmp_gt (by omega)
          rcases ordering_cases (compare (m : Int) Flt.HALF) with h | h
          · exact .inl ⟨h, hg⟩
          · exact .inr (.inl ⟨h, hg⟩)
        · show (compare (-(m : Int)) Flt.HALF = .lt ∧ compare (-(m : Int)) (-(Flt.HALF : Int)) = .gt) ∨ _ ∨ (compare (-(m : Int)) Flt.HALF = .lt ∧ compare (-(m : Int)) (-(Flt.HALF : Int)) ≠ .gt)
          have hl : compare (-(m : Int)) (Flt.HALF : Int) = .lt := Flt.cmp_lt (by omega)
          by_cases h : compare (-(m : Int)) (-(Flt.HALF : Int)) = .gt
          · exact .inl ⟨hl, h⟩
          · exact .inr (.inr ⟨hl, h⟩)
      · rw [ht2, hrp]
        refine congrArg some ?_
        cases s
        · show ((q + (if m < Flt.HALF then 0 else 1) : Nat) : Int) = if compare (m : Int) Flt.HALF ≠ .lt then (q : Int) + 1 else if compare (m : Int) (-(Flt.HALF : Int)) ≠ .gt then (q : Int) - 1 else (q : Int)
          have hg : compare (m : Int) (-(Flt.HALF : Int)) = .gt := Flt.cmp_gt (by omega)
          rw [hg]
          by_cases hl : m < Flt.HALF
          · rw [if_pos hl, Flt.cmp_lt (by omega)]; simp
          · have : compare (m : Int) Flt.HALF ≠ .lt := fun h => by have := Int.compare_eq_lt.1 h; omega
            rw [if_neg hl, if_pos this]; simp
        · show -((q + (if m < Flt.HALF then 0 else 1) : Nat) : Int) = if compare (-(m : Int)) Flt.HALF ≠ .lt then -(q : Int) + 1 else if compare (-(m : Int)) (-(Flt.HALF : Int)) ≠ .gt then -(q : Int) - 1 else -(q : Int)
          have hl : compare (-(m : Int)) (Flt.HALF : Int) = .lt := Flt.cmp_lt (by omega)
          rw [hl, if_neg (show ¬ (Ordering.lt ≠ Ordering.lt) by simp)]
          by_cases hl : m < Flt.HALF
          · rw [if_pos hl, Flt.cmp_gt (by omega), if_neg (show ¬ (Ordering.gt ≠ Ordering.gt) by simp)]; simp
          · have : compare (-(m : Int)) (-(Flt.HALF : Int)) ≠ .gt := fun h => by have := Int.compare_eq_gt.1 h; omega
            rw [if_neg hl, if_pos this]; omega
    · rw [if_neg hin] at ht2
      refine specTo_out x _ w w1 hm hb _ _ rfl rfl ?_ ht2
      cases s
      · right
        have : FloatKind.f64.format.order (Ieee.double.word false r) 4741671816370585600 ≠ some Ordering.lt := fun h => by
          have h5 := Option.some.inj (hhi.symm.trans h)
          have := Int.compare_eq_lt.1 h5
          unfold Flt.sg at this
          simp only [Bool.false_eq_true, if_false] at this
          omega
        simpa using this
      · left
        have : FloatKind.f64.format.order (Ieee.double.word true r) 13965043853225361408 ≠ some Ordering.gt := fun h => by
          have h5 := Option.some.inj (hlo.symm.trans h)
          have := Int.compare_eq_gt.1 h5
          unfold Flt.sg at this
          simp only [if_true] at this
          omega
        simpa using this
  · have e2 := Flt.read_word Ieee.double s r (by rw [Flt.sw64]; omega)
    rw [Flt.bin64, Flt.inf64, if_neg (by omega), if_neg hnum] at e2
    obtain ⟨m1, i1, hc1, _⟩ := Flt.c_lo
    obtain ⟨m2, i2, hc2, _⟩ := Flt.c_hi
    by_cases h : r = 2047 * 2 ^ 52
    · rw [if_pos h] at e2
      have ht2 : tfx x = none := by rw [← ht]; unfold Flt.toFix; rw [e2]
      refine specTo_out x _ w w1 hm hb _ _ rfl rfl ?_ ht2
      show (Ieee.double.order _ _ == _) = _ ∨ (Ieee.double.order _ _ == _) = _
      unfold Ieee.Format.order
      rw [e2, hc1, hc2]
      cases s
      · right; rfl
      · left; rfl
    · rw [if_neg h] at e2
      have ht2 : tfx x = none := by rw [← ht]; unfold Flt.toFix; rw [e2]
      refine specTo_out x _ w w1 hm hb _ _ rfl rfl (.inl ?_) ht2
      have := Flt.order_nan (f := Ieee.double) (x := Ieee.double.word s r) (y := 13965043853225361408) (.inl (by rw [e2]; rfl))
      show (Ieee.double.order _ _ == _) = _
      rw [this]; rfl

end Go.Proofs.YtfoggbcfkniimaaDoor
