/-
  What is proved: what four samples become on a channel, as numbers: no NaN is among them, and dyadic numbers come exactly.
  Conditions: the samples and the channel are valid; for the exact facts, of few binary digits.
-/
import Derived.Test.YtnedmhhodmmddaaMag
import Derived.Test.YtnedmhhodmmddaaDyad
import Derived.Test.YtnedmhhodmmddaaLine
import Derived.Test.YtnedmhhodmmddaaDecCell
namespace Go.Proofs.Ytnedmhhodmmddaa
set_option linter.unusedVariables false
open Go.RowKit
open Flt (Mag sumv subv mulv quov Q)

theorem res_some {op : BinOp} {x y r v : Nat} (h : Res op x y r) (e : floatBits op .f32 x y = some v) : r = v := by
  rcases h with h | ⟨h, _⟩
  · rw [e] at h; cases h; rfl
  · rw [e] at h; cases h
theorem res_num {op : BinOp} {x y r : Nat} (h : Res op x y r) (hn : isN r = false) : floatBits op .f32 x y = some r := by
  rcases h with h | ⟨_, h⟩
  · exact h
  · rw [h] at hn; cases hn
theorem lim_of {x c c1 : Nat} {k : Nat} {s : Bool} {u : Nat} (hc : Flt.Num Ieee.single c false (2 ^ k)) (hn : Flt.Num Ieee.single c1 true (2 ^ k)) (h : (Ieee.single.order c1 x == some .lt || Ieee.single.order c1 x == some .eq) = true) (h2 : (Ieee.single.order x c == some .lt || Ieee.single.order x c == some .eq) = true) :
    ∃ s u, Flt.Num Ieee.single x s u ∧ u ≤ 2 ^ k := by
  cases hr : Ieee.single.read x with
  | nan s p =>
    have : Ieee.single.order x c = none := Flt.order_nan (.inl (by rw [hr]; rfl))
    rw [this] at h2; cases h2
  | infinity s =>
    obtain ⟨m, i, hc1, _, _⟩ := hc
    obtain ⟨m', i', hn1, _, _⟩ := hn
    cases s with
    | false =>
      have : Ieee.single.order x c = some .gt := by unfold Ieee.Format.order; rw [hr, hc1]; rfl
      rw [this] at h2; cases h2
    | true =>
      have : Ieee.single.order c1 x = some .gt := by unfold Ieee.Format.order; rw [hr, hn1]; rfl
      rw [this] at h; cases h
  | number s m i =>
    have hx := Flt.read_num hr
    refine ⟨s, _, hx, ?_⟩
    rw [Flt.le_iff hx hc] at h2
    rw [Flt.le_iff hn hx] at h
    have h2 := of_decide_eq_true h2
    have h := of_decide_eq_true h
    generalize m * 2 ^ (i - Ieee.single.leastPlace).toNat = u at *
    unfold Flt.sg at h h2
    generalize (2 : Nat) ^ k = K at *
    cases s <;> simp at h h2 <;> omega
theorem num_k2 : Flt.Num Ieee.single 1149239296 false (2 ^ 159) := ⟨8388608, -13, by decide +kernel, by decide, by rw [Flt.place32]; decide +kernel⟩
theorem num_nk2 : Flt.Num Ieee.single 3296722944 true (2 ^ 159) := ⟨8388608, -13, by decide +kernel, by decide, by rw [Flt.place32]; decide +kernel⟩
theorem fin1_mag {x : Nat} (h : fin1 x = true) : Mag 160 x := by
  unfold fin1 lo1 hi1 at h
  simp only [Bool.and_eq_true] at h
  obtain ⟨s, u, h1, h2⟩ := lim_of (s := false) (u := 0) num_k2 num_nk2 h.1 h.2
  exact Flt.mag_num h1 h2
/-- The cell that four samples tell. -/
def decOf (s t u v : Nat) : C3 := (quov (sumv (sumv (sumv s t) u) v) 1082130432, quov (subv s u) 1073741824, quov (subv v t) 1073741824)
theorem read_two2 : Ieee.single.read 1073741824 = .number false 8388608 (-22) := by decide +kernel
theorem dec_mag {s t u v : Nat} (hs : Mag 160 s) (ht : Mag 160 t) (hu : Mag 160 u) (hv : Mag 160 v) {c : C3} (h : DecR s t u v c) : c = decOf s t u v := by
  obtain ⟨⟨r1, r2, r3, a1, a2, a3, a4⟩, ⟨d1, b1, b2⟩, ⟨d2, e1, e2⟩, _⟩ := h
  have m1 := hs.add ht (by decide)
  have m2 := m1.2.add (hu.mono (by decide)) (by decide)
  have m3 := m2.2.add (hv.mono (by decide)) (by decide)
  have m4 := m3.2.quarter (by decide)
  have n1 := hs.sub hu (by decide)
  have n2 := Mag.quo read_two2 (by decide) n1.2 (by decide)
  have o1 := hv.sub ht (by decide)
  have o2 := Mag.quo read_two2 (by decide) o1.2 (by decide)
  obtain rfl := res_some a1 m1.1
  obtain rfl := res_some a2 m2.1
  obtain rfl := res_some a3 m3.1
  have k := res_some a4 m4.1
  obtain rfl := res_some b1 n1.1
  have l := res_some b2 n2.1
  obtain rfl := res_some e1 o1.1
  have n := res_some e2 o2.1
  exact Prod.ext k (Prod.ext l n)
theorem decOf_mag {s t u v : Nat} (hs : Mag 160 s) (ht : Mag 160 t) (hu : Mag 160 u) (hv : Mag 160 v) : Mag 167 (decOf s t u v).1 ∧ Mag 163 (decOf s t u v).2.1 ∧ Mag 163 (decOf s t u v).2.2 := by
  have m1 := hs.add ht (by decide)
  have m2 := m1.2.add (hu.mono (by decide)) (by decide)
  have m3 := m2.2.add (hv.mono (by decide)) (by decide)
  have m4 := m3.2.quarter (by decide)
  have n1 := hs.sub hu (by decide)
  have n2 := Mag.quo read_two2 (by decide) n1.2 (by decide)
  have o1 := hv.sub ht (by decide)
  have o2 := Mag.quo read_two2 (by decide) o1.2 (by decide)
  exact ⟨m4.2, n2.2, o2.2⟩
/-! ### Dyadic numbers -/
theorem q_sumv {e x y : Nat} {a b : Int} (hx : Q e x a) (hy : Q e y b) (h : (a + b).natAbs < 2 ^ 24) (he : e ≤ 240) : Q e (sumv x y) (a + b) := by
  obtain ⟨r, h1, h2⟩ := hx.add hy h he
  unfold sumv
  rw [h1]
  exact h2
theorem q_subv {e x y : Nat} {a b : Int} (hx : Q e x a) (hy : Q e y b) (h : (a - b).natAbs < 2 ^ 24) (he : e ≤ 240) : Q e (subv x y) (a - b) := by
  obtain ⟨r, h1, h2⟩ := hx.sub hy h he
  unfold subv
  rw [h1]
  exact h2
theorem q_mulv {e f x y : Nat} {a b : Int} (hx : Q e x a) (hy : Q f y b) (h : (a * b).natAbs < 2 ^ 24) (h1 : 149 ≤ e + f) (h2 : e + f ≤ 389) : Q (e + f - 149) (mulv x y) (a * b) := by
  obtain ⟨r, h3, h4⟩ := hx.mul hy h h1 h2
  unfold mulv
  rw [h3]
  exact h4
theorem q_quov {e f x c : Nat} {a : Int} {j : Int} (hc : Ieee.single.read c = .number false 8388608 j) (hx : Q e x a) (h : a.natAbs < 2 ^ 24) (hf : (f : Int) = e - (23 + j)) (hf2 : f ≤ 240) : Q f (quov x c) a := by
  obtain ⟨r, h3, h4⟩ := hx.quo hc h hf hf2
  unfold quov
  rw [h3]
  exact h4
theorem q_drop {e x : Nat} {a : Int} {j : Nat} (h : Q e x (a * 2 ^ j)) : Q (e + j) x a := by
  obtain ⟨h0, s, u, hx, ha⟩ := h
  refine ⟨h0, s, u, hx, ?_⟩
  rw [ha, Int.mul_assoc, Flt.pow_cast, Flt.pow_cast, Flt.pow_cast, ← Int.natCast_mul, ← Nat.pow_add, Nat.add_comm j e]
/-- The cell of four samples that were encoded of dyadic numbers is exact. -/
theorem q_dec {e s t u v : Nat} {y a b : Int} (he : 2 ≤ e) (he2 : e ≤ 240) (hy : y.natAbs ≤ 2 ^ 20) (ha : a.natAbs ≤ 2 ^ 20) (hb : b.natAbs ≤ 2 ^ 20) (hs : Q e s (y + a)) (ht : Q e t (y - b)) (hu : Q e u (y - a)) (hv : Q e v (y + b)) :
    Q e (decOf s t u v).1 y ∧ Q e (decOf s t u v).2.1 a ∧ Q e (decOf s t u v).2.2 b := by
  obtain ⟨f, rfl⟩ : ∃ f, e = f + 2 := ⟨e - 2, by omega⟩
  have k1 := q_sumv hs ht (by omega) he2
  have k2 := q_sumv k1 hu (by omega) he2
  have k3 := q_sumv k2 hv (by omega) he2
  have k4 := q_quov (f := f) Flt.read_four' k3 (by omega) (by omega) (by omega)
  have l1 := q_subv hs hu (by omega) he2
  have l2 := q_quov (f := f + 1) read_two2 l1 (by omega) (by omega) (by omega)
  have n1 := q_subv hv ht (by omega) he2
  have n2 := q_quov (f := f + 1) read_two2 n1 (by omega) (by omega) (by omega)
  refine ⟨q_drop (j := 2) ?_, q_drop (e := f + 1) (j := 1) ?_, q_drop (e := f + 1) (j := 1) ?_⟩
  · have : y + a + (y - b) + (y - a) + (y + b) = y * 2 ^ 2 := by omega
    rw [← this]; exact k4
  · have : y + a - (y - a) = a * 2 ^ 1 := by omega
    rw [← this]; exact l2
  · have : y + b - (y - b) = b * 2 ^ 1 := by omega
    rw [← this]; exact n2
end Go.Proofs.Ytnedmhhodmmddaa
