/-
  What is proved: whether the model takes two lines' colours for killed is determined.
  Conditions: the lines can be read.
-/
import Derived.Test.YtgecclccmmcdoaaPkBS
import Derived.Test.YtgecclccmmcdoaaPkCell
namespace Go.Proofs.Ytgecclccmmcdoaa
set_option linter.unusedVariables false
open Go.RowKit
attribute [local go_sem] run_store_float run_store_complex unary_negf neg256

def ltb (x y : Nat) : Bool := Ieee.single.order x y == some .lt
/-- The amount of a number. -/
def amt (u : Nat) : Nat := if ltb u 0 = true then Op.negFloat .f32 u else u
theorem amt_yes {u : Nat} (h : ltb u 0 = true) : amt u = Op.negFloat .f32 u := if_pos h
theorem amt_no {u : Nat} (h : ltb u 0 = false) : amt u = u := if_neg (by rw [h]; decide)
def KillR (xs ys : List Nat) (k : Nat) (b : Bool) : Prop := ∃ u z ok n, HueR xs ys u z ok ∧ SwingR xs ys n ∧ b = (decide (n = 0) || ltb (amt u) k)
theorem KillR.same {xs ys : List Nat} {k : Nat} {b b' : Bool} (h : KillR xs ys k b) (h' : KillR xs ys k b') : b = b' := by
  obtain ⟨u, z, ok, n, h1, h2, rfl⟩ := h
  obtain ⟨u', z', ok', n', k1, k2, rfl⟩ := h'
  rw [(h1.same k1).2.1, h2.same k2]
def KillA (xs ys : List Nat) (k : Nat) (w : World) (e : Ending) (w' : World) : Prop := ∃ b, e = .returned (.bool b) ∧ KillR xs ys k b ∧ Below w.heap.size w w'
set_option maxHeartbeats 2000000 in
theorem specKilled_any (v v' : Value) (xs ys : List Nat) (k : Nat) (w : World) (h : FRow w v xs) (h' : FRow w v' ys) (hl : xs.length ≤ 4000000) (hl' : ys.length ≤ 4000000) :
    Calls Try.prog 48 #[v, v', .float .f32 k] w fun e w' => KillA xs ys k w e w' := by
  have HH := Lib.hid (specHue_any v v' xs ys w h h' hl hl')
  have HS := fun W hr hr' => Lib.hid (specSwing_any v v' xs ys W hr hr' hl hl')
  have HR := Lib.hid h
  have HR' := Lib.hid h'
  clear h h'
  go_enter Try.func48, Try.ntmps48
  go_wp2_with fail
  refine HH.out.mono ?_
  rintro e w1 ⟨u, z, ok, rfl, hu, hb1⟩
  have HU := Lib.hid hu
  have HS1 := HS w1 (HR.out.below hb1) (HR'.out.below hb1)
  clear hu HS HH HR HR'
  cases hlt : ltb u 0 with
  | true =>
    have hlt' : (FloatKind.f32.format.order u 0 == some .lt) = true := hlt
    have HAM := Lib.hid (amt_yes hlt)
    clear hlt
    go_wp2_with fail
    refine HS1.out.mono ?_
    rintro e w2 ⟨n, rfl, hn, hb2⟩
    have HN := Lib.hid hn
    have hb := below_trans hb1 hb2 hb1.size
    clear hn HS1
    by_cases h0 : n = 0
    · subst h0
      go_wp2
      go_ret
      exact ⟨true, rfl, ⟨_, _, _, _, HU.out, HN.out, by simp⟩, hb⟩
    · have hd : decide (n = 0) = false := decide_eq_false h0
      cases hk : ltb (Op.negFloat .f32 u) k
      all_goals
        have hk' : (FloatKind.f32.format.order (Op.negFloat .f32 u) k == some .lt) = _ := hk
        go_wp2
        go_ret
        exact ⟨_, rfl, ⟨_, _, _, _, HU.out, HN.out, by rw [HAM.out, hk]; simp [h0]⟩, hb⟩
  | false =>
    have hlt' : (FloatKind.f32.format.order u 0 == some .lt) = false := hlt
    have HAM := Lib.hid (amt_no hlt)
    clear hlt
    go_wp2_with fail
    refine HS1.out.mono ?_
    rintro e w2 ⟨n, rfl, hn, hb2⟩
    have HN := Lib.hid hn
    have hb := below_trans hb1 hb2 hb1.size
    clear hn HS1
    by_cases h0 : n = 0
    · subst h0
      go_wp2
      go_ret
      exact ⟨true, rfl, ⟨_, _, _, _, HU.out, HN.out, by simp⟩, hb⟩
    · have hd : decide (n = 0) = false := decide_eq_false h0
      cases hk : ltb u k
      all_goals
        have hk' : (FloatKind.f32.format.order u k == some .lt) = _ := hk
        go_wp2
        go_ret
        exact ⟨_, rfl, ⟨_, _, _, _, HU.out, HN.out, by rw [HAM.out, hk]; simp [h0]⟩, hb⟩
end Go.Proofs.Ytgecclccmmcdoaa

/-
  What is proved: whether the program takes two lines' colours for killed.
  Conditions: the lines can be read.
-/
namespace Go.Proofs.Ytgecclccmmcdoaa
set_option linter.unusedVariables false
open Go.RowKit
attribute [local go_sem] run_store_float run_store_complex unary_negf neg256

theorem hueOf_lt (x y : Nat) : hueOf x y < 2 ^ 32 := by
  unfold hueOf Flt.quov
  cases h : floatBits .quo .f32 (Flt.sumv x y) 3254779904 with
  | none => decide
  | some r => simpa [Lit.wf] using floatBits_wf h
theorem HueR.lt {xs ys : List Nat} {u z : Nat} {ok : Bool} (h : HueR xs ys u z ok) : u < 2 ^ 32 ∧ z < 2 ^ 32 := by
  obtain ⟨p, q, p', q', o1, o2, _, _, _, h1, h2⟩ := h
  cases ok with
  | true => obtain ⟨rfl, rfl⟩ := h1 rfl; exact ⟨hueOf_lt _ _, hueOf_lt _ _⟩
  | false => obtain ⟨rfl, rfl⟩ := h2 rfl; decide
theorem zero_order {x y k : Nat} {s t : Bool} {e : Int} (hx : Ieee.single.read x = .number s 0 e) (hy : Ieee.single.read y = .number t 0 e) : Ieee.single.order x k = Ieee.single.order y k := by
  unfold Ieee.Format.order
  rw [hx, hy]
  cases Ieee.single.read k with
  | nan _ _ => rfl
  | infinity _ => rfl
  | number u n j => simp [Ieee.Datum.order, Flt.signed_sg, Flt.sg]
theorem read_opp {x : Nat} (hx : x < 2 ^ 32) {s : Bool} {m : Nat} {e : Int} (h : Ieee.single.read x = .number s m e) : Ieee.single.read (Op.negFloat .f32 x) = .number (!s) m e := by
  have e : Ieee.single.read (Op.negFloat .f32 x) = (Ieee.single.read x).opposite := by
    obtain ⟨s0, r, rfl, hr⟩ := Flt.word_parts32 x hx
    rw [Flt.neg_word32 s0 r hr, Flt.read_word Ieee.single _ r (by rw [Flt.sw32]; exact hr), Flt.read_word Ieee.single s0 r (by rw [Flt.sw32]; exact hr)]
    split
    · rfl
    · split
      · rfl
      · split
        · rfl
        · rfl
  rw [e, h]; rfl
/-- max of a number and its opposite has the number's amount. -/
theorem max_opp {x : Nat} (hx : x < 2 ^ 32) (hm : ∃ k, Flt.Mag k x) : ∃ r, (∀ W ts t, (Builtin.max_ ts t #[.float .f32 x, .float .f32 (Op.negFloat .f32 x)]).run Try.prog W = .ok (.float .f32 r) W) ∧ ∀ k, ltb r k = ltb (amt x) k := by
  obtain ⟨_, s, m, e, hr, _⟩ := hm
  have hn := read_opp hx hr
  have ho : Ieee.single.order x (Op.negFloat .f32 x) = some (compare (Flt.sg s m) (Flt.sg (!s) m)) := by
    unfold Ieee.Format.order
    rw [hr, hn]
    simp [Ieee.Datum.order, Flt.signed_sg]
  have hz : Ieee.single.order x 0 = some (compare (Flt.sg s (m * 2 ^ (e - min e (-149)).toNat)) 0) := by
    unfold Ieee.Format.order
    rw [hr, Flt.read_zero]
    simp [Ieee.Datum.order, Flt.signed_sg, Flt.sg]
  by_cases h0 : m = 0
  · subst h0
    have ho' : FloatKind.f32.format.order x (Op.negFloat .f32 x) = some .eq := by
      show Ieee.single.order x _ = _
      rw [ho]; simp [Flt.sg]
    have hl : ltb x 0 = false := by unfold ltb; rw [hz]; simp [Flt.sg]
    refine ⟨if (FloatKind.f32.decode x).neg then Op.negFloat .f32 x else x, fun W ts t => by simp [Builtin.max_, Builtin.max2, ho'], fun k => ?_⟩
    rw [amt_no hl]
    unfold ltb
    split
    · rw [zero_order hn hr]
    · rfl
  · have hp : 0 < m * 2 ^ (e - min e (-149)).toNat := Nat.mul_pos (Nat.pos_of_ne_zero h0) (Flt.two_pos _)
    cases s with
    | true =>
      have ho' : FloatKind.f32.format.order x (Op.negFloat .f32 x) = some .lt := by
        show Ieee.single.order x _ = _
        rw [ho, Flt.cmp_lt (by simp [Flt.sg]; omega)]
      have hl : ltb x 0 = true := by unfold ltb; rw [hz, Flt.cmp_lt (by simp only [Flt.sg, if_true]; omega)]; rfl
      exact ⟨Op.negFloat .f32 x, fun W ts t => by simp [Builtin.max_, Builtin.max2, ho'], fun k => by rw [amt_yes hl]⟩
    | false =>
      have ho' : FloatKind.f32.format.order x (Op.negFloat .f32 x) = some .gt := by
        show Ieee.single.order x _ = _
        rw [ho, Flt.cmp_gt (by simp [Flt.sg]; omega)]
      have hl : ltb x 0 = false := by unfold ltb; rw [hz, Flt.cmp_gt (by simp only [Flt.sg, Bool.false_eq_true, if_false]; omega)]; rfl
      exact ⟨x, fun W ts t => by simp [Builtin.max_, Builtin.max2, ho'], fun k => by rw [amt_no hl]⟩
theorem amount_any (x : Nat) (w : World) (hx : x < 2 ^ 32) (hm : ∃ k, Flt.Mag k x) :
    Calls Try.prog 68 #[.float .f32 x] w fun e w' => ∃ r, e = .returned (.float .f32 r) ∧ (∀ k, ltb r k = ltb (amt x) k) ∧ w = w' := by
  obtain ⟨r, h1, h2⟩ := max_opp hx hm
  have HL := Lib.hid h2
  clear h2
  go_enter Try.func68, Try.ntmps68
  go_wp2
  go_ret
  exact ⟨r, rfl, HL.out, rfl⟩
set_option maxHeartbeats 2000000 in
theorem killed_any (v v' : Value) (xs ys : List Nat) (k : Nat) (w : World) (h : FRow w v xs) (h' : FRow w v' ys) (hl : xs.length ≤ 4000000) (hl' : ys.length ≤ 4000000) :
    Calls Try.prog 25 #[v, v', .float .f32 k] w fun e w' => KillA xs ys k w e w' := by
  have HH := Lib.hid (hueGain_any v v' xs ys w h h' hl hl')
  have HS := fun W hr hr' => Lib.hid (swing_any v v' xs ys W hr hr' hl hl')
  have HR := Lib.hid h
  have HR' := Lib.hid h'
  clear h h'
  go_enter Try.func25, Try.ntmps25
  go_wp2_with fail
  refine HH.out.mono ?_
  rintro e w1 ⟨u, z, ok, rfl, hu, hb1⟩
  have HU := Lib.hid hu
  have HS1 := HS w1 (HR.out.below hb1) (HR'.out.below hb1)
  have HAM := fun W => Lib.hid (amount_any u W hu.lt.1 ⟨_, hu.mag.1⟩)
  clear hu HS HH HR HR'
  go_wp2_with fail
  refine HS1.out.mono ?_
  rintro e w2 ⟨n, rfl, hn, hb2⟩
  have HN := Lib.hid hn
  have hb := below_trans hb1 hb2 hb1.size
  clear hn HS1
  by_cases h0 : n = 0
  · subst h0
    go_wp2
    go_ret
    exact ⟨true, rfl, ⟨_, _, _, _, HU.out, HN.out, by simp⟩, hb⟩
  · have hd : decide (n = 0) = false := decide_eq_false h0
    go_wp2_with fail
    refine (HAM _).out.mono ?_
    rintro e w3 ⟨r, rfl, hr, rfl⟩
    have HRR := Lib.hid (hr k)
    clear hr HAM
    cases hk : ltb r k
    all_goals
      have hk' : (FloatKind.f32.format.order r k == some .lt) = _ := hk
      go_wp2
      go_ret
      exact ⟨_, rfl, ⟨_, _, _, _, HU.out, HN.out, by rw [← HRR.out, hk]; simp [h0]⟩, hb⟩
end Go.Proofs.Ytgecclccmmcdoaa
