/-
  What is proved: the walks of math.Round and of ToFixed.
  Conditions: none.
-/
import Derived.Test.YtobpnoiienpipaaDoorPkBack
import Derived.Test.YtobpnoiienpipaaDoorPkNum
namespace Go.Proofs.YtobpnoiienpipaaDoor
set_option linter.unusedVariables false
open Go.RowKit

@[go_sem] theorem f64bits (b : Nat) (w : World) : (callFunc 105 #[.float .f64 b]).run Tryd.prog w = .ok (.value (.int .u64 (b : Int))) w := by kernel_rfl
@[go_sem] theorem f64from (b : Int) (w : World) : (callFunc 106 #[.int .u64 b]).run Tryd.prog w = .ok (.value (.float .f64 b.toNat)) w := by kernel_rfl
set_option maxRecDepth 100000 in
set_option maxHeartbeats 400000 in
theorem round_lo (b E z : Nat) (w : World) (he : bits BinOp.and IntKind.u64 ((b : Int) / 4503599627370496) 2047 = (E : Int)) (h1 : E < 1022) (h3 : ((E : Int) == 1022) = false) (hz : bits BinOp.and IntKind.u64 (b : Int) 9223372036854775808 = (z : Int)) :
    Calls Tryd.prog 84 #[.float .f64 b] w fun e w' => e = .returned (.float .f64 z) ∧ w = w' := by
  go_enter Tryd.func84, Tryd.ntmps84
  go_wp2
  go_ret
  exact ⟨by simp, rfl⟩
set_option maxRecDepth 100000 in
set_option maxHeartbeats 400000 in
theorem round_half (b z o : Nat) (w : World) (he : bits BinOp.and IntKind.u64 ((b : Int) / 4503599627370496) 2047 = 1022) (hz : bits BinOp.and IntKind.u64 (b : Int) 9223372036854775808 = (z : Int)) (ho : bits BinOp.or IntKind.u64 (z : Int) 4607182418800017408 = (o : Int)) :
    Calls Tryd.prog 84 #[.float .f64 b] w fun e w' => e = .returned (.float .f64 o) ∧ w = w' := by
  go_enter Tryd.func84, Tryd.ntmps84
  go_wp2
  go_ret
  exact ⟨by simp, rfl⟩
set_option maxRecDepth 100000 in
set_option maxHeartbeats 400000 in
theorem round_mid (b E o : Nat) (w : World) (he : bits BinOp.and IntKind.u64 ((b : Int) / 4503599627370496) 2047 = (E : Int)) (h1 : 1023 ≤ E) (h2 : E < 1075)
    (ho : bits BinOp.andNot IntKind.u64 (IntKind.u64.wrap ((b : Int) + 2251799813685248 / 2 ^ (E - 1023))) (4503599627370495 / 2 ^ (E - 1023)) = (o : Int)) :
    Calls Tryd.prog 84 #[.float .f64 b] w fun e w' => e = .returned (.float .f64 o) ∧ w = w' := by
  go_enter Tryd.func84, Tryd.ntmps84
  go_wp2
  go_ret
  exact ⟨by simp, rfl⟩
set_option maxRecDepth 100000 in
set_option maxHeartbeats 400000 in
theorem round_hi (b E : Nat) (w : World) (he : bits BinOp.and IntKind.u64 ((b : Int) / 4503599627370496) 2047 = (E : Int)) (h2 : 1075 ≤ E) :
    Calls Tryd.prog 84 #[.float .f64 b] w fun e w' => e = .returned (.float .f64 b) ∧ w = w' := by
  go_enter Tryd.func84, Tryd.ntmps84
  go_wp2
  go_ret
  exact ⟨rfl, rfl⟩
theorem ret_flt {k : FloatKind} {a b : Nat} (h : a = b) : Ending.returned (.float k a) = .returned (.float k b) := by rw [h]
/-- math.Round, at every word. -/
theorem round_word (s : Bool) (r : Nat) (w : World) (hr : r < 2 ^ 63) :
    Calls Tryd.prog 84 #[.float .f64 (Ieee.double.word s r)] w fun e w' => e = .returned (.float .f64 (Ieee.double.word s (Flt.rndRung r))) ∧ w = w' := by
  have he := Flt.bit_exp s r hr
  by_cases h1 : r / 2 ^ 52 < 1022
  · have e1 : Flt.rndRung r = 0 := by unfold Flt.rndRung; rw [if_pos h1]
    rw [e1]
    exact round_lo _ _ _ w he h1 (by simp; omega) (Flt.bit_sign s r hr)
  · by_cases h2 : r / 2 ^ 52 = 1022
    · have e1 : Flt.rndRung r = 1023 * 2 ^ 52 := by unfold Flt.rndRung; rw [if_neg h1, if_pos h2]
      rw [e1]
      rw [h2] at he
      exact round_half _ _ _ w he (Flt.bit_sign s r hr) (Flt.bit_one s)
    · by_cases h3 : r / 2 ^ 52 < 1075
      · exact round_mid _ _ _ w he (by omega) h3 (Flt.bit_mid s r hr (by omega) h3)
      · have e1 : Flt.rndRung r = r := by unfold Flt.rndRung; rw [if_neg h1, if_neg h2, if_neg h3]
        rw [e1]
        exact round_hi _ _ w he (by omega)
/-- math.Abs, at every word. -/
theorem abs_word (s : Bool) (r : Nat) (w : World) (hr : r < 2 ^ 63) :
    Calls Tryd.prog 86 #[.float .f64 (Ieee.double.word s r)] w fun e w' => e = .returned (.float .f64 r) ∧ w = w' := by
  have hb := Flt.bit_abs s r hr
  generalize Ieee.double.word s r = b at hb ⊢
  clear hr
  go_enter Tryd.func86, Tryd.ntmps86
  go_wp2
  go_ret
  exact ⟨by simp, rfl⟩
end Go.Proofs.YtobpnoiienpipaaDoor

/-
  What is proved: the walks of ToFixed (the program's and the model's).
  Conditions: none.
-/
namespace Go.Proofs.YtobpnoiienpipaaDoor
set_option linter.unusedVariables false
open Go.RowKit

/-- What ToFixed answers. -/
def tfx (x : Nat) : Option Int := (Ieee.double.mul x 4652007308841189376).bind Flt.toFix
def ToPost (x : Nat) (w : World) (e : Ending) (w' : World) : Prop := e = .returned (.tuple #[.int .i64 ((tfx x).getD 0), .bool (tfx x).isSome]) ∧ Below w.heap.size w w'
theorem ToPost.no {x : Nat} {w w' : World} (h : tfx x = none) (hb : Below w.heap.size w w') : ToPost x w (.returned (.tuple #[.int .i64 0, .bool false])) w' := ⟨by rw [h]; rfl, hb⟩
theorem ToPost.yes {x : Nat} {z : Int} {w w' : World} (h : tfx x = some z) (hb : Below w.heap.size w w') : ToPost x w (.returned (.tuple #[.int .i64 z, .bool true])) w' := ⟨by rw [h]; rfl, hb⟩

/-- The product with 1000: some word, in the same memory; it says what ToFixed answers. -/
theorem mul1000 (x : Nat) (w : World) : ∃ s r w1, (binOp .mul 76 (.float .f64 x) (.float .f64 4652007308841189376)).run Tryd.prog w = .ok (.float .f64 (Ieee.double.word s r)) w1 ∧ r < 2 ^ 63 ∧ Below w.heap.size w w1 ∧ w1.heap.size = w.heap.size ∧ Flt.toFix (Ieee.double.word s r) = tfx x := by
  cases h : Ieee.double.mul x 4652007308841189376 with
  | some p =>
    have hlt : p < 2 ^ 64 := Ieee.Format.mul_lt Ieee.double h
    obtain ⟨s, r, rfl, hr⟩ := Flt.word_parts p hlt
    exact ⟨s, r, w, run_float_arith w .mul _ .f64 _ _ _ h, hr, Below.refl _ _, rfl, by unfold tfx; rw [h]; rfl⟩
  | none =>
    obtain ⟨t, ht⟩ : ∃ t, t = w.tape w.drawn (.nanBits .f64 x 4652007308841189376) := ⟨_, rfl⟩
    have hb : (t % 2) * 2 ^ 63 + 0x7ff0000000000000 + 1 + (t / 2) % (2 ^ 52 - 1) = Ieee.double.word (decide (t % 2 = 1)) (0x7ff0000000000000 + 1 + (t / 2) % (2 ^ 52 - 1)) := by
      rw [Flt.word_val]
      rcases (by omega : t % 2 = 0 ∨ t % 2 = 1) with h2 | h2 <;> rw [h2] <;> simp <;> omega
    refine ⟨decide (t % 2 = 1), 0x7ff0000000000000 + 1 + (t / 2) % (2 ^ 52 - 1), w.drew, ?_, by omega, (Below.refl _ _).drew, rfl, ?_⟩
    · rw [← hb]
      have h' : FloatKind.f64.format.mul x 4652007308841189376 = none := h
      simp [binOp, Op.floatArith, h', Question.forced, Question.cut, ← ht]
    · have e1 : tfx x = none := by unfold tfx; rw [h]; rfl
      rw [e1]
      unfold Flt.toFix
      have e2 := Flt.read_word Ieee.double (decide (t % 2 = 1)) (0x7ff0000000000000 + 1 + (t / 2) % (2 ^ 52 - 1)) (by rw [Flt.sw64]; omega)
      rw [Flt.bin64, Flt.inf64, if_neg (by omega), if_neg (by omega), if_neg (by omega)] at e2
      rw [e2]

set_option maxRecDepth 100000 in
set_option maxHeartbeats 400000 in
theorem toFixed_A (x r : Nat) (s : Bool) (w w1 : World) (hm : (binOp .mul 76 (.float .f64 x) (.float .f64 4652007308841189376)).run Tryd.prog w = .ok (.float .f64 (Ieee.double.word s r)) w1) (hr : r < 2 ^ 63) (hb : Below w.heap.size w w1)
    (hn : FloatKind.f64.format.order (Ieee.double.word s (Flt.rndRung r)) (Ieee.double.word s (Flt.rndRung r)) = none) (ht : tfx x = none) :
    Calls Tryd.prog 57 #[.float .f64 x] w fun e w' => ToPost x w e w' := by
  have hc := round_word s r w1 hr
  generalize Ieee.double.word s (Flt.rndRung r) = p' at hn hc
  generalize Ieee.double.word s r = p at hm hc
  have HC := Lib.hid hc
  have HT := Lib.hid ht
  clear hr hc ht
  go_enter Tryd.func57, Tryd.ntmps57
  go_wp2_with fail
  refine HC.out.mono ?_
  rintro e w2 ⟨rfl, rfl⟩
  go_wp2
  go_ret2
  exact ToPost.no HT.out hb
set_option maxRecDepth 100000 in
set_option maxHeartbeats 400000 in
theorem toFixed_B (x r r' : Nat) (s : Bool) (w w1 : World) (hm : (binOp .mul 76 (.float .f64 x) (.float .f64 4652007308841189376)).run Tryd.prog w = .ok (.float .f64 (Ieee.double.word s r)) w1) (hr : r < 2 ^ 63) (hb : Below w.heap.size w w1)
    (he : Flt.rndRung r = r') (hr' : r' < 2 ^ 63) (hn : FloatKind.f64.format.order (Ieee.double.word s r') (Ieee.double.word s r') = some .eq)
    (hg : FloatKind.f64.format.order r' 4741671816366391296 = some .gt) (ht : tfx x = none) :
    Calls Tryd.prog 57 #[.float .f64 x] w fun e w' => ToPost x w e w' := by
  have hc := round_word s r w1 hr
  have ha := abs_word s r' w1 hr'
  rw [he] at hc
  generalize Ieee.double.word s r' = p' at hn hc ha
  generalize Ieee.double.word s r = p at hm hc
  have HC := Lib.hid hc
  have HA := Lib.hid ha
  have HT := Lib.hid ht
  clear hr hc ht ha he hr'
  go_enter Tryd.func57, Tryd.ntmps57
  go_wp2_with fail
  refine HC.out.mono ?_
  rintro e w2 ⟨rfl, rfl⟩
  go_wp2_with (first | (go_at_call 86; refine HA.out.mono ?_; rintro e w3 ⟨rfl, rfl⟩) | go_in)
  go_ret2
  exact ToPost.no HT.out hb
set_option maxRecDepth 100000 in
set_option maxHeartbeats 400000 in
theorem toFixed_C (x r r' : Nat) (z : Int) (s : Bool) (w w1 : World) (hm : (binOp .mul 76 (.float .f64 x) (.float .f64 4652007308841189376)).run Tryd.prog w = .ok (.float .f64 (Ieee.double.word s r)) w1) (hr : r < 2 ^ 63) (hb : Below w.heap.size w w1)
    (he : Flt.rndRung r = r') (hr' : r' < 2 ^ 63) (hn : FloatKind.f64.format.order (Ieee.double.word s r') (Ieee.double.word s r') = some .eq)
    (o : Ordering) (ho : o ≠ .gt) (hg : FloatKind.f64.format.order r' 4741671816366391296 = some o) (hi : floatToIntVal .f64 (Ieee.double.word s r') .i64 = some z) (ht : tfx x = some z) :
    Calls Tryd.prog 57 #[.float .f64 x] w fun e w' => ToPost x w e w' := by
  have hc := round_word s r w1 hr
  have ha := abs_word s r' w1 hr'
  rw [he] at hc
  have hcv := fun wx => run_convert_float_int (P := Tryd.prog) wx 76 3 .f64 .i64 _ _ (by rw [Tryd.underlying76]; rfl) Tryd.underlying3 hi
  clear hi
  generalize Ieee.double.word s r' = p' at hn hc ha hcv
  generalize Ieee.double.word s r = p at hm hc
  have HC := Lib.hid hc
  have HA := Lib.hid ha
  have HT := Lib.hid ht
  clear hr hc ht ha he hr'
  have hgb : (some o == some Ordering.gt) = false := by cases o <;> first | rfl | exact absurd rfl ho
  clear ho
  go_enter Tryd.func57, Tryd.ntmps57
  go_wp2_with fail
  refine HC.out.mono ?_
  rintro e w2 ⟨rfl, rfl⟩
  go_wp2_with (first | (go_at_call 86; refine HA.out.mono ?_; rintro e w3 ⟨rfl, rfl⟩) | go_in)
  go_ret2
  exact ToPost.yes HT.out hb

theorem toInt_val {p : Nat} {s : Bool} {u : Nat} (h : Flt.Num Ieee.double p s u) (hu : u < 2000000001 * Flt.HALF ∨ u ≤ 1000000000 * Flt.ONE) : floatToIntVal .f64 p .i64 = some (Flt.sg s (u / Flt.ONE)) := by
  have h1 := Flt.toInt_num Flt.fine64 h
  rw [Flt.one_unit] at h1
  have ho := Flt.one_two
  have hh := Flt.half_pos
  have hq : u / Flt.ONE ≤ 1000000000 := by
    apply Nat.le_of_lt_succ
    apply (Nat.div_lt_iff_lt_mul (by omega)).2
    rw [ho]; omega
  generalize u / Flt.ONE = q at h1 hq ⊢
  unfold floatToIntVal
  have h2 : (FloatKind.f64.decode p).toInt .zero = some (Flt.sg s q) := h1
  rw [h2]
  simp only
  rw [if_pos]
  have e1 : IntKind.i64.min = -9223372036854775808 := by decide
  have e2 : IntKind.i64.max = 9223372036854775807 := by decide
  rw [e1, e2]
  cases s
  · show _ ≤ (q : Int) ∧ (q : Int) ≤ _
    omega
  · show _ ≤ -(q : Int) ∧ -(q : Int) ≤ _
    omega

theorem word_false (r : Nat) : Ieee.double.word false r = r := by unfold Ieee.Format.word; simp
theorem rndRung_lt {r : Nat} (h : r < 2 ^ 63) : Flt.rndRung r < 2 ^ 63 := by
  unfold Flt.rndRung
  split
  · omega
  · split
    · omega
    · split
      · rename_i h1 h2 h3
        have hj : 2 ^ (1074 - r / 2 ^ 52) ≤ 2 ^ 51 := Flt.pow_le (by omega)
        have hd := Nat.div_mul_le_self (r + 2 ^ (1074 - r / 2 ^ 52)) (2 ^ (1075 - r / 2 ^ 52))
        have hr : r < 1075 * 2 ^ 52 := by omega
        omega
      · exact h

/-- ToFixed, at every float. -/
theorem toFixed_any (x : Nat) (w : World) : Calls Tryd.prog 57 #[.float .f64 x] w fun e w' => ToPost x w e w' := by
  obtain ⟨s, r, w1, hm, hr, hb, _, ht⟩ := mul1000 x w
  by_cases hE : r / 2 ^ 52 < 1075
  · obtain ⟨u, hu⟩ := Flt.rnd_num r hE
    have h1 := hu s
    have h2 := (hu false).2
    rw [word_false] at h2
    have ht2 := Flt.toFix_num h1.1
    rw [ht] at ht2
    have hn : FloatKind.f64.format.order (Ieee.double.word s (Flt.rndRung r)) (Ieee.double.word s (Flt.rndRung r)) = some .eq := Flt.order_self (Flt.num_read h1.2)
    have hg := Flt.order_num h2 Flt.c_max
    have ho := Flt.one_two
    have hh := Flt.half_pos
    by_cases hin : u < 2000000001 * Flt.HALF
    · rw [if_pos hin] at ht2
      have hle := Flt.rnd_le hin
      have hle2 : Flt.rnd u * Flt.ONE ≤ 1000000000 * Flt.ONE := Nat.mul_le_mul_right _ hle
      have hi := toInt_val h1.2 (.inr hle2)
      rw [Nat.mul_div_cancel _ (by omega)] at hi
      refine toFixed_C x r _ _ s w w1 hm hr hb rfl (rndRung_lt hr) hn (compare (Flt.sg false (Flt.rnd u * Flt.ONE)) (Flt.sg false (2000000000 * Flt.HALF))) ?_ hg hi ht2
      intro hc
      have := Int.compare_eq_gt.1 hc
      unfold Flt.sg at this
      simp only [Bool.false_eq_true, if_false] at this
      omega
    · rw [if_neg hin] at ht2
      have hle := Flt.rnd_gt hin
      have hle2 : 1000000001 * Flt.ONE ≤ Flt.rnd u * Flt.ONE := Nat.mul_le_mul_right _ hle
      rw [Flt.cmp_gt (by unfold Flt.sg; simp only [Bool.false_eq_true, if_false]; omega)] at hg
      exact toFixed_B x r _ s w w1 hm hr hb rfl (rndRung_lt hr) hn hg ht2
  · have e1 : Flt.rndRung r = r := by unfold Flt.rndRung; rw [if_neg (by omega), if_neg (by omega), if_neg hE]
    rcases Nat.lt_trichotomy r (2047 * 2 ^ 52) with h | h | h
    · obtain ⟨u, hu, hbig⟩ := Flt.big_num s r (by omega) h
      obtain ⟨u2, hu2, hbig2⟩ := Flt.big_num false r (by omega) h
      rw [word_false] at hu2
      have ht2 := Flt.toFix_num hu
      rw [ht, if_neg (by omega)] at ht2
      have hg := Flt.order_num hu2 Flt.c_max
      have hh := Flt.half_pos
      rw [Flt.cmp_gt (by unfold Flt.sg; simp only [Bool.false_eq_true, if_false]; omega)] at hg
      exact toFixed_B x r r s w w1 hm hr hb e1 hr (Flt.order_self (Flt.num_read hu)) hg ht2
    · have e2 := Flt.read_word Ieee.double s r (by rw [Flt.sw64]; omega)
      rw [Flt.bin64, Flt.inf64, if_neg (by omega), if_neg (by omega), if_pos h] at e2
      have e3 := Flt.read_word Ieee.double false r (by rw [Flt.sw64]; omega)
      rw [Flt.bin64, Flt.inf64, if_neg (by omega), if_neg (by omega), if_pos h, word_false] at e3
      have ht2 : tfx x = none := by rw [← ht]; unfold Flt.toFix; rw [e2]
      have hg : FloatKind.f64.format.order r 4741671816366391296 = some .gt := by
        obtain ⟨m, e, h5, _⟩ := Flt.c_max
        show Ieee.double.order _ _ = _
        unfold Ieee.Format.order
        rw [e3, h5]; rfl
      exact toFixed_B x r r s w w1 hm hr hb e1 hr (Flt.order_self (f := Ieee.double) (by rw [e2]; rfl)) hg ht2
    · have e2 := Flt.read_word Ieee.double s r (by rw [Flt.sw64]; omega)
      rw [Flt.bin64, Flt.inf64, if_neg (by omega), if_neg (by omega), if_neg (by omega)] at e2
      have ht2 : tfx x = none := by rw [← ht]; unfold Flt.toFix; rw [e2]
      refine toFixed_A x r s w w1 hm hr hb ?_ ht2
      rw [e1]
      exact Flt.order_nan (f := Ieee.double) (.inl (by rw [e2]; rfl))
end Go.Proofs.YtobpnoiienpipaaDoor

/-
  What is proved: the walk of the model's ToFixed, and that of the law FnExactToFixed.
  Conditions: none.
-/
namespace Go.Proofs.YtobpnoiienpipaaDoor
set_option linter.unusedVariables false
open Go.RowKit

set_option maxRecDepth 100000 in
set_option maxHeartbeats 400000 in
theorem specTo_out (x p : Nat) (w w1 : World) (hm : (binOp .mul 76 (.float .f64 x) (.float .f64 4652007308841189376)).run Tryd.prog w = .ok (.float .f64 p) w1) (hb : Below w.heap.size w w1)
    (b1 b2 : Bool) (h1 : (FloatKind.f64.format.order p 13965043853225361408 == some Ordering.gt) = b1) (h2 : (FloatKind.f64.format.order p 4741671816370585600 == some Ordering.lt) = b2) (hbb : b1 = false ∨ b2 = false) (ht : tfx x = none) :
    Calls Tryd.prog 96 #[.float .f64 x] w fun e w' => ToPost x w e w' := by
  have HT := Lib.hid ht
  clear ht
  cases b1
  · go_enter Tryd.func96, Tryd.ntmps96
    go_wp2
    go_ret2
    exact ToPost.no HT.out hb
  · obtain rfl : b2 = false := by simpa using hbb
    clear hbb
    go_enter Tryd.func96, Tryd.ntmps96
    go_wp2
    go_ret2
    exact ToPost.no HT.out hb

set_option maxRecDepth 100000 in
set_option maxHeartbeats 1000000 in
theorem specTo_in (x p f : Nat) (n : Int) (w w1 : World) (hm : (binOp .mul 76 (.float .f64 x) (.float .f64 4652007308841189376)).run Tryd.prog w = .ok (.float .f64 p) w1) (hb : Below w.heap.size w w1)
    (h1 : FloatKind.f64.format.order p 13965043853225361408 = some Ordering.gt) (h2 : FloatKind.f64.format.order p 4741671816370585600 = some Ordering.lt)
    (hi : floatToIntVal .f64 p .i64 = some n) (hn0 : -1000000000 ≤ n) (hn1 : n ≤ 1000000000) (hs : floatBits .sub .f64 p (floatOfInt .f64 n) = some f)
    (o1 o2 : Ordering) (h3 : FloatKind.f64.format.order f 4602678819172646912 = some o1) (h4 : FloatKind.f64.format.order f 13826050856027422720 = some o2)
    (hoo : (o1 = .lt ∧ o2 = .gt) ∨ (o1 ≠ .lt ∧ o2 = .gt) ∨ (o1 = .lt ∧ o2 ≠ .gt))
    (ht : tfx x = some (if o1 ≠ .lt then n + 1 else if o2 ≠ .gt then n - 1 else n)) :
    Calls Tryd.prog 96 #[.float .f64 x] w fun e w' => ToPost x w e w' := by
  have hcv := fun wx => run_convert_float_int (P := Tryd.prog) wx 76 3 .f64 .i64 _ _ (by rw [Tryd.underlying76]; rfl) Tryd.underlying3 hi
  have hsb := fun wx => run_float_arith (P := Tryd.prog) wx .sub 76 .f64 _ _ _ hs
  clear hi hs
  rcases hoo with ⟨rfl, rfl⟩ | ⟨ho, rfl⟩ | ⟨rfl, ho⟩
  · have HT := Lib.hid ht
    clear ht
    go_enter Tryd.func96, Tryd.ntmps96
    go_wp2
    go_ret2
    exact ToPost.yes HT.out hb
  · rw [if_pos ho] at ht
    have HT := Lib.hid ht
    clear ht
    cases o1
    · exact absurd rfl ho
    · clear ho
      go_enter Tryd.func96, Tryd.ntmps96
      go_wp2
      go_ret2
      exact ToPost.yes HT.out hb
    · clear ho
      go_enter Tryd.func96, Tryd.ntmps96
      go_wp2
      go_ret2
      exact ToPost.yes HT.out hb
  · rw [if_neg (by simp), if_pos ho] at ht
    have HT := Lib.hid ht
    clear ht
    cases o2
    · clear ho
      go_enter Tryd.func96, Tryd.ntmps96
      go_wp2
      go_ret2
      exact ToPost.yes HT.out hb
    · clear ho
      go_enter Tryd.func96, Tryd.ntmps96
      go_wp2
      go_ret2
      exact ToPost.yes HT.out hb
    · exact absurd rfl ho

theorem natAbs_sg' (s : Bool) (q : Nat) : (Flt.sg s q).natAbs = q := Flt.natAbs_sg s q
theorem ordering_cases (o : Ordering) : o = .lt ∨ o ≠ .lt := by cases o <;> simp

/-- The model's ToFixed, at every float. -/
theorem specToFixed_any (x : Nat) (w : World) : Calls Tryd.prog 96 #[.float .f64 x] w fun e w' => ToPost x w e w' := by
  obtain ⟨s, r, w1, hm, hr, hb, _, ht⟩ := mul1000 x w
  have ho := Flt.one_two
  have hh := Flt.half_pos
  by_cases hnum : r < 2047 * 2 ^ 52
  · have hN : ∃ u, Flt.Num Ieee.double (Ieee.double.word s r) s u := by
      by_cases hE : r / 2 ^ 52 < 1075
      · obtain ⟨u, hu⟩ := Flt.rnd_num r hE; exact ⟨u, (hu s).1⟩
      · obtain ⟨u, hu, _⟩ := Flt.big_num s r (by omega) hnum; exact ⟨u, hu⟩
    obtain ⟨u, hu⟩ := hN
    have ht2 := Flt.toFix_num hu
    rw [ht] at ht2
    have hlo := Flt.order_num hu Flt.c_lo
    have hhi := Flt.order_num hu Flt.c_hi
    by_cases hin : u < 2000000001 * Flt.HALF
    · rw [if_pos hin] at ht2
      have h1 : FloatKind.f64.format.order (Ieee.double.word s r) 13965043853225361408 = some Ordering.gt := by
        refine hlo.trans (congrArg some (Flt.cmp_gt ?_))
        unfold Flt.sg
        cases s
        · simp only [Bool.false_eq_true, if_false, if_true]; omega
        · simp only [if_true]; omega
      have h2 : FloatKind.f64.format.order (Ieee.double.word s r) 4741671816370585600 = some Ordering.lt := by
        refine hhi.trans (congrArg some (Flt.cmp_lt ?_))
        unfold Flt.sg
        cases s
        · simp only [Bool.false_eq_true, if_false]; omega
        · simp only [Bool.false_eq_true, if_false, if_true]; omega
      have hi := toInt_val hu (.inl hin)
      obtain ⟨f, hf, h3, h4⟩ := Flt.left_over _ s u hu hin
      have hs : floatBits .sub .f64 (Ieee.double.word s r) (floatOfInt .f64 (Flt.sg s (u / Flt.ONE))) = some f := by
        show Ieee.double.sub _ (Ieee.double.nearest _ (Flt.sg s (u / Flt.ONE)).natAbs 0) = _
        rw [natAbs_sg']
        exact hf
      have hq : u / Flt.ONE ≤ 1000000000 := by
        apply Nat.le_of_lt_succ
        apply (Nat.div_lt_iff_lt_mul (by omega)).2
        rw [ho]; omega
      have hrp := Flt.rnd_parts u
      have hmod : u % Flt.ONE < Flt.ONE := Nat.mod_lt _ (by omega)
      generalize u / Flt.ONE = q at *
      generalize u % Flt.ONE = m at *
      have hb0 : -1000000000 ≤ Flt.sg s q ∧ Flt.sg s q ≤ 1000000000 := by
        unfold Flt.sg
        cases s
        · simp only [Bool.false_eq_true, if_false]; omega
        · simp only [if_true]; omega
      refine specTo_in x _ f _ w w1 hm hb h1 h2 hi hb0.1 hb0.2 hs _ _ h3 h4 ?_ ?_
      · cases s
        · show (compare (m : Int) Flt.HALF = .lt ∧ compare (m : Int) (-(Flt.HALF : Int)) = .gt) ∨ (compare (m : Int) Flt.HALF ≠ .lt ∧ compare (m : Int) (-(Flt.HALF : Int)) = .gt) ∨ _
          have hg : compare (m : Int) (-(Flt.HALF : Int)) = .gt := Flt.cmp_gt (by omega)
          rcases ordering_cases (compare (m : Int) Flt.HALF) with h | h
          · exact .inl ⟨h, hg⟩
          · exact .inr (.inl ⟨h, hg⟩)
        · show (compare (-(m : Int)) Flt.HALF = .lt ∧ compare (-(m : Int)) (-(Flt.HALF : Int)) = .gt) ∨ _ ∨ (compare (-(m : Int)) Flt.HALF = .lt ∧ compare (-(m : Int)) (-(Flt.HALF : Int)) ≠ .gt)
          have hl : compare (-(m : Int)) (Flt.HALF : Int) = .lt := Flt.cmp_lt (by omega)
          by_cases h : compare (-(m : Int)) (-(Flt.HALF : Int)) = .gt
          · exact .inl ⟨hl, h⟩
          · exact .inr (.inr ⟨hl, h⟩)
      · rw [ht2, hrp]
        refine congrArg some ?_
        cases s
        · show ((q + (if m < Flt.HALF then 0 else 1) : Nat) : Int) = if compare (m : Int) Flt.HALF ≠ .lt then (q : Int) + 1 else if compare (m : Int) (-(Flt.HALF : Int)) ≠ .gt then (q : Int) - 1 else (q : Int)
          have hg : compare (m : Int) (-(Flt.HALF : Int)) = .gt := Flt.cmp_gt (by omega)
          rw [hg]
          by_cases hl : m < Flt.HALF
          · rw [if_pos hl, Flt.cmp_lt (by omega)]; simp
          · have : compare (m : Int) Flt.HALF ≠ .lt := fun h => by have := Int.compare_eq_lt.1 h; omega
            rw [if_neg hl, if_pos this]; simp
        · show -((q + (if m < Flt.HALF then 0 else 1) : Nat) : Int) = if compare (-(m : Int)) Flt.HALF ≠ .lt then -(q : Int) + 1 else if compare (-(m : Int)) (-(Flt.HALF : Int)) ≠ .gt then -(q : Int) - 1 else -(q : Int)
          have hl : compare (-(m : Int)) (Flt.HALF : Int) = .lt := Flt.cmp_lt (by omega)
          rw [hl, if_neg (show ¬ (Ordering.lt ≠ Ordering.lt) by simp)]
          by_cases hl : m < Flt.HALF
          · rw [if_pos hl, Flt.cmp_gt (by omega), if_neg (show ¬ (Ordering.gt ≠ Ordering.gt) by simp)]; simp
          · have : compare (-(m : Int)) (-(Flt.HALF : Int)) ≠ .gt := fun h => by have := Int.compare_eq_gt.1 h; omega
            rw [if_neg hl, if_pos this]; omega
    · rw [if_neg hin] at ht2
      refine specTo_out x _ w w1 hm hb _ _ rfl rfl ?_ ht2
      cases s
      · right
        have : FloatKind.f64.format.order (Ieee.double.word false r) 4741671816370585600 ≠ some Ordering.lt := fun h => by
          have h5 := Option.some.inj (hhi.symm.trans h)
          have := Int.compare_eq_lt.1 h5
          unfold Flt.sg at this
          simp only [Bool.false_eq_true, if_false] at this
          omega
        simpa using this
      · left
        have : FloatKind.f64.format.order (Ieee.double.word true r) 13965043853225361408 ≠ some Ordering.gt := fun h => by
          have h5 := Option.some.inj (hlo.symm.trans h)
          have := Int.compare_eq_gt.1 h5
          unfold Flt.sg at this
          simp only [if_true] at this
          omega
        simpa using this
  · have e2 := Flt.read_word Ieee.double s r (by rw [Flt.sw64]; omega)
    rw [Flt.bin64, Flt.inf64, if_neg (by omega), if_neg hnum] at e2
    obtain ⟨m1, i1, hc1, _⟩ := Flt.c_lo
    obtain ⟨m2, i2, hc2, _⟩ := Flt.c_hi
    by_cases h : r = 2047 * 2 ^ 52
    · rw [if_pos h] at e2
      have ht2 : tfx x = none := by rw [← ht]; unfold Flt.toFix; rw [e2]
      refine specTo_out x _ w w1 hm hb _ _ rfl rfl ?_ ht2
      show (Ieee.double.order _ _ == _) = _ ∨ (Ieee.double.order _ _ == _) = _
      unfold Ieee.Format.order
      rw [e2, hc1, hc2]
      cases s
      · right; rfl
      · left; rfl
    · rw [if_neg h] at e2
      have ht2 : tfx x = none := by rw [← ht]; unfold Flt.toFix; rw [e2]
      refine specTo_out x _ w w1 hm hb _ _ rfl rfl (.inl ?_) ht2
      have := Flt.order_nan (f := Ieee.double) (x := Ieee.double.word s r) (y := 13965043853225361408) (.inl (by rw [e2]; rfl))
      show (Ieee.double.order _ _ == _) = _
      rw [this]; rfl

end Go.Proofs.YtobpnoiienpipaaDoor
