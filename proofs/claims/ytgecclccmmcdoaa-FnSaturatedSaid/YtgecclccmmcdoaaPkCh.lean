/-
  What is proved: what four samples become on a channel, as numbers: no NaN is among them, and dyadic numbers come exactly.
  Conditions: the samples and the channel are valid; for the exact facts, of few binary digits.
-/
import Derived.Test.YtgecclccmmcdoaaPkCell
import Derived.Test.YtgecclccmmcdoaaPkNum
import Derived.Test.YtgecclccmmcdoaaPkLine
import Derived.Test.YtgecclccmmcdoaaDecCell
import Derived.Test.YtgecclccmmcdoaaEnc
import Derived.Test.YtgecclccmmcdoaaPlain
import Derived.Test.YtgecclccmmcdoaaDrawRow
namespace Go.Proofs.Ytgecclccmmcdoaa
set_option linter.unusedVariables false
open Go.RowKit
open Flt (Mag sumv subv mulv quov Q)

theorem res_some {op : BinOp} {x y r v : Nat} (h : Res op x y r) (e : floatBits op .f32 x y = some v) : r = v := by
  rcases h with h | ⟨h, _⟩
  · rw [e] at h; cases h; rfl
  · rw [e] at h; cases h
theorem res_num {op : BinOp} {x y r : Nat} (h : Res op x y r) (hn : isN r = false) : floatBits op .f32 x y = some r := by
  rcases h with h | ⟨_, h⟩
  · exact h
  · rw [h] at hn; cases hn
theorem lim_of {x c c1 : Nat} {k : Nat} {s : Bool} {u : Nat} (hc : Flt.Num Ieee.single c false (2 ^ k)) (hn : Flt.Num Ieee.single c1 true (2 ^ k)) (h : (Ieee.single.order c1 x == some .lt || Ieee.single.order c1 x == some .eq) = true) (h2 : (Ieee.single.order x c == some .lt || Ieee.single.order x c == some .eq) = true) :
    ∃ s u, Flt.Num Ieee.single x s u ∧ u ≤ 2 ^ k := by
  cases hr : Ieee.single.read x with
  | nan s p =>
    have : Ieee.single.order x c = none := Flt.order_nan (.inl (by rw [hr]; rfl))
    rw [this] at h2; cases h2
  | infinity s =>
    obtain ⟨m, i, hc1, _, _⟩ := hc
    obtain ⟨m', i', hn1, _, _⟩ := hn
    cases s with
    | false =>
      have : Ieee.single.order x c = some .gt := by unfold Ieee.Format.order; rw [hr, hc1]; rfl
      rw [this] at h2; cases h2
    | true =>
      have : Ieee.single.order c1 x = some .gt := by unfold Ieee.Format.order; rw [hr, hn1]; rfl
      rw [this] at h; cases h
  | number s m i =>
    have hx := Flt.read_num hr
    refine ⟨s, _, hx, ?_⟩
    rw [Flt.le_iff hx hc] at h2
    rw [Flt.le_iff hn hx] at h
    have h2 := of_decide_eq_true h2
    have h := of_decide_eq_true h
    generalize m * 2 ^ (i - Ieee.single.leastPlace).toNat = u at *
    unfold Flt.sg at h h2
    generalize (2 : Nat) ^ k = K at *
    cases s <;> simp at h h2 <;> omega
theorem num_k2 : Flt.Num Ieee.single 1149239296 false (2 ^ 159) := ⟨8388608, -13, by decide +kernel, by decide, by rw [Flt.place32]; decide +kernel⟩
theorem num_nk2 : Flt.Num Ieee.single 3296722944 true (2 ^ 159) := ⟨8388608, -13, by decide +kernel, by decide, by rw [Flt.place32]; decide +kernel⟩
theorem fin1_mag {x : Nat} (h : fin1 x = true) : Mag 160 x := by
  unfold fin1 lo1 hi1 at h
  simp only [Bool.and_eq_true] at h
  obtain ⟨s, u, h1, h2⟩ := lim_of (s := false) (u := 0) num_k2 num_nk2 h.1 h.2
  exact Flt.mag_num h1 h2
/-- The cell that four samples tell. -/
def decOf (s t u v : Nat) : C3 := (quov (sumv (sumv (sumv s t) u) v) 1082130432, quov (subv s u) 1073741824, quov (subv v t) 1073741824)
theorem read_two2 : Ieee.single.read 1073741824 = .number false 8388608 (-22) := by decide +kernel
theorem dec_mag {s t u v : Nat} (hs : Mag 160 s) (ht : Mag 160 t) (hu : Mag 160 u) (hv : Mag 160 v) {c : C3} (h : DecR s t u v c) : c = decOf s t u v := by
  obtain ⟨⟨r1, r2, r3, a1, a2, a3, a4⟩, ⟨d1, b1, b2⟩, ⟨d2, e1, e2⟩, _⟩ := h
  have m1 := hs.add ht (by decide)
  have m2 := m1.2.add (hu.mono (by decide)) (by decide)
  have m3 := m2.2.add (hv.mono (by decide)) (by decide)
  have m4 := m3.2.quarter (by decide)
  have n1 := hs.sub hu (by decide)
  have n2 := Mag.quo read_two2 (by decide) n1.2 (by decide)
  have o1 := hv.sub ht (by decide)
  have o2 := Mag.quo read_two2 (by decide) o1.2 (by decide)
  obtain rfl := res_some a1 m1.1
  obtain rfl := res_some a2 m2.1
  obtain rfl := res_some a3 m3.1
  have k := res_some a4 m4.1
  obtain rfl := res_some b1 n1.1
  have l := res_some b2 n2.1
  obtain rfl := res_some e1 o1.1
  have n := res_some e2 o2.1
  exact Prod.ext k (Prod.ext l n)
theorem decOf_mag {s t u v : Nat} (hs : Mag 160 s) (ht : Mag 160 t) (hu : Mag 160 u) (hv : Mag 160 v) : Mag 167 (decOf s t u v).1 ∧ Mag 163 (decOf s t u v).2.1 ∧ Mag 163 (decOf s t u v).2.2 := by
  have m1 := hs.add ht (by decide)
  have m2 := m1.2.add (hu.mono (by decide)) (by decide)
  have m3 := m2.2.add (hv.mono (by decide)) (by decide)
  have m4 := m3.2.quarter (by decide)
  have n1 := hs.sub hu (by decide)
  have n2 := Mag.quo read_two2 (by decide) n1.2 (by decide)
  have o1 := hv.sub ht (by decide)
  have o2 := Mag.quo read_two2 (by decide) o1.2 (by decide)
  exact ⟨m4.2, n2.2, o2.2⟩
/-! ### Dyadic numbers -/
theorem q_sumv {e x y : Nat} {a b : Int} (hx : Q e x a) (hy : Q e y b) (h : (a + b).natAbs < 2 ^ 24) (he : e ≤ 240) : Q e (sumv x y) (a + b) := by
  obtain ⟨r, h1, h2⟩ := hx.add hy h he
  unfold sumv
  rw [h1]
  exact h2
theorem q_subv {e x y : Nat} {a b : Int} (hx : Q e x a) (hy : Q e y b) (h : (a - b).natAbs < 2 ^ 24) (he : e ≤ 240) : Q e (subv x y) (a - b) := by
  obtain ⟨r, h1, h2⟩ := hx.sub hy h he
  unfold subv
  rw [h1]
  exact h2
theorem q_mulv {e f x y : Nat} {a b : Int} (hx : Q e x a) (hy : Q f y b) (h : (a * b).natAbs < 2 ^ 24) (h1 : 149 ≤ e + f) (h2 : e + f ≤ 389) : Q (e + f - 149) (mulv x y) (a * b) := by
  obtain ⟨r, h3, h4⟩ := hx.mul hy h h1 h2
  unfold mulv
  rw [h3]
  exact h4
theorem q_quov {e f x c : Nat} {a : Int} {j : Int} (hc : Ieee.single.read c = .number false 8388608 j) (hx : Q e x a) (h : a.natAbs < 2 ^ 24) (hf : (f : Int) = e - (23 + j)) (hf2 : f ≤ 240) : Q f (quov x c) a := by
  obtain ⟨r, h3, h4⟩ := hx.quo hc h hf hf2
  unfold quov
  rw [h3]
  exact h4
theorem q_drop {e x : Nat} {a : Int} {j : Nat} (h : Q e x (a * 2 ^ j)) : Q (e + j) x a := by
  obtain ⟨h0, s, u, hx, ha⟩ := h
  refine ⟨h0, s, u, hx, ?_⟩
  rw [ha, Int.mul_assoc, Flt.pow_cast, Flt.pow_cast, Flt.pow_cast, ← Int.natCast_mul, ← Nat.pow_add, Nat.add_comm j e]
/-- The cell of four samples that were encoded of dyadic numbers is exact. -/
theorem q_dec {e s t u v : Nat} {y a b : Int} (he : 2 ≤ e) (he2 : e ≤ 240) (hy : y.natAbs ≤ 2 ^ 20) (ha : a.natAbs ≤ 2 ^ 20) (hb : b.natAbs ≤ 2 ^ 20) (hs : Q e s (y + a)) (ht : Q e t (y - b)) (hu : Q e u (y - a)) (hv : Q e v (y + b)) :
    Q e (decOf s t u v).1 y ∧ Q e (decOf s t u v).2.1 a ∧ Q e (decOf s t u v).2.2 b := by
  obtain ⟨f, rfl⟩ : ∃ f, e = f + 2 := ⟨e - 2, by omega⟩
  have k1 := q_sumv hs ht (by omega) he2
  have k2 := q_sumv k1 hu (by omega) he2
  have k3 := q_sumv k2 hv (by omega) he2
  have k4 := q_quov (f := f) Flt.read_four' k3 (by omega) (by omega) (by omega)
  have l1 := q_subv hs hu (by omega) he2
  have l2 := q_quov (f := f + 1) read_two2 l1 (by omega) (by omega) (by omega)
  have n1 := q_subv hv ht (by omega) he2
  have n2 := q_quov (f := f + 1) read_two2 n1 (by omega) (by omega) (by omega)
  refine ⟨q_drop (j := 2) ?_, q_drop (e := f + 1) (j := 1) ?_, q_drop (e := f + 1) (j := 1) ?_⟩
  · have : y + a + (y - b) + (y - a) + (y + b) = y * 2 ^ 2 := by omega
    rw [← this]; exact k4
  · have : y + a - (y - a) = a * 2 ^ 1 := by omega
    rw [← this]; exact l2
  · have : y + b - (y - b) = b * 2 ^ 1 := by omega
    rw [← this]; exact n2
end Go.Proofs.Ytgecclccmmcdoaa

/-
  What is proved: dyadic cells come through dyadic channels exactly.
  Conditions: the numbers have few binary digits.
-/
namespace Go.Proofs.Ytgecclccmmcdoaa
set_option linter.unusedVariables false
open Go.RowKit
open Flt (Mag sumv subv mulv quov Q)

/-- The bits of a channel: A, Offset, and the parts of G. -/
structure Chn where
  A : Nat
  O : Nat
  X : Nat
  Y : Nat
def timesRe (a b x y : Nat) : Nat := subv (mulv a x) (mulv b y)
def timesIm (a b x y : Nat) : Nat := sumv (mulv a y) (mulv b x)
/-- What a cell becomes on a channel. -/
def txC (h : Chn) (c : C3) : C3 := (sumv (mulv h.A c.1) h.O, timesRe c.2.1 c.2.2 h.X h.Y, timesIm c.2.1 c.2.2 h.X h.Y)
def tx4 (h : Chn) (s t u v : Nat) : List Nat := enc4 (txC h (decOf s t u v))
/-- What samples become on a channel. -/
def txs (h : Chn) : List Nat → List Nat
  | s :: t :: u :: v :: rest => tx4 h s t u v ++ txs h rest
  | _ => []
theorem addv_sumv (x y : Nat) : addv x y = sumv x y := rfl
theorem enc4_of (c : C3) : enc4 c = [sumv c.1 c.2.1, sumv c.1 (Op.negFloat .f32 c.2.2), sumv c.1 (Op.negFloat .f32 c.2.1), sumv c.1 c.2.2] := rfl
/-- The cell that is told of a cell's own samples. -/
def back (c : C3) : C3 := decOf (sumv c.1 c.2.1) (sumv c.1 (Op.negFloat .f32 c.2.2)) (sumv c.1 (Op.negFloat .f32 c.2.1)) (sumv c.1 c.2.2)
theorem txs_enc (h : Chn) : ∀ cs : List C3, txs h (enc cs) = enc (cs.map fun c => txC h (back c))
  | [] => rfl
  | c :: cs => by
    show txs h (enc4 c ++ enc cs) = enc4 (txC h (back c)) ++ enc (cs.map fun c => txC h (back c))
    rw [enc4_of]
    show tx4 h _ _ _ _ ++ txs h (enc cs) = _
    rw [txs_enc h cs]
    rfl
/-- A cell of dyadic numbers. -/
def QC (e : Nat) (c : C3) (y a b : Int) : Prop := Q e c.1 y ∧ Q e c.2.1 a ∧ Q e c.2.2 b
theorem QC.enc {e : Nat} {c : C3} {y a b : Int} (h : QC e c y a b) (he : e ≤ 240) (hy : y.natAbs ≤ 2 ^ 20) (ha : a.natAbs ≤ 2 ^ 20) (hb : b.natAbs ≤ 2 ^ 20) :
    Q e (sumv c.1 c.2.1) (y + a) ∧ Q e (sumv c.1 (Op.negFloat .f32 c.2.2)) (y - b) ∧ Q e (sumv c.1 (Op.negFloat .f32 c.2.1)) (y - a) ∧ Q e (sumv c.1 c.2.2) (y + b) :=
  ⟨q_sumv h.1 h.2.1 (by omega) he, q_sumv h.1 h.2.2.neg (by omega) he, q_sumv h.1 h.2.1.neg (by omega) he, q_sumv h.1 h.2.2 (by omega) he⟩
theorem QC.back {e : Nat} {c : C3} {y a b : Int} (h : QC e c y a b) (he0 : 2 ≤ e) (he : e ≤ 240) (hy : y.natAbs ≤ 2 ^ 20) (ha : a.natAbs ≤ 2 ^ 20) (hb : b.natAbs ≤ 2 ^ 20) : QC e (back c) y a b := by
  obtain ⟨h1, h2, h3, h4⟩ := h.enc he hy ha hb
  exact q_dec he0 he hy ha hb h1 h2 h3 h4
theorem mul_le {a b : Int} {m n : Nat} (ha : a.natAbs ≤ m) (hb : b.natAbs ≤ n) : (a * b).natAbs ≤ m * n := by
  rw [Int.natAbs_mul]; exact Nat.mul_le_mul ha hb
/-- A channel of dyadic numbers: A and G are multiples of 2 to the g, Offset of 2 to the o. -/
def QH (g o : Nat) (h : Chn) (α ω ξ η : Int) : Prop := Q g h.A α ∧ Q o h.O ω ∧ Q g h.X ξ ∧ Q g h.Y η
theorem q_tx {e g o j : Nat} {h : Chn} {c : C3} {α ω ξ η y a b : Int} (hh : QH g o h α ω ξ η) (hc : QC e c y a b) (h1 : 149 ≤ g + e) (h2 : g + e ≤ 389) (ho : o = g + e - 149 + j)
    (b1 : (α * y).natAbs ≤ 2 ^ 20) (b2 : (ω * 2 ^ j).natAbs ≤ 2 ^ 20) (b3 : (a * ξ).natAbs ≤ 2 ^ 20) (b4 : (b * η).natAbs ≤ 2 ^ 20) (b5 : (a * η).natAbs ≤ 2 ^ 20) (b6 : (b * ξ).natAbs ≤ 2 ^ 20) :
    QC (g + e - 149) (txC h c) (α * y + ω * 2 ^ j) (a * ξ - b * η) (a * η + b * ξ) := by
  obtain ⟨hA, hO, hX, hY⟩ := hh
  obtain ⟨cy, ca, cb⟩ := hc
  have k1 := q_mulv hA cy (by omega) h1 h2
  have k2 := hO.lift j (by omega)
  rw [show o - j = g + e - 149 by omega] at k2
  have f1 := q_mulv ca hX (by omega) (by omega) (by omega)
  have f2 := q_mulv cb hY (by omega) (by omega) (by omega)
  have f3 := q_mulv ca hY (by omega) (by omega) (by omega)
  have f4 := q_mulv cb hX (by omega) (by omega) (by omega)
  rw [show e + g - 149 = g + e - 149 by omega] at f1 f2 f3 f4
  exact ⟨q_sumv k1 k2 (by omega) (by omega), q_subv f1 f2 (by omega) (by omega), q_sumv f3 f4 (by omega) (by omega)⟩
theorem q_fin1 {e x : Nat} {a : Int} (h : Q e x a) (hb : a.natAbs * 2 ^ e ≤ 2 ^ 159) : fin1 x = true := by
  obtain ⟨_, s, u, hx, ha⟩ := h
  have hu : u ≤ 2 ^ 159 := by rw [Flt.q_abs ha]; exact hb
  unfold fin1 lo1 hi1
  rw [Flt.le_iff num_nk2 hx, Flt.le_iff hx num_k2]
  have h1 : Flt.sg true (2 ^ 159) ≤ Flt.sg s u := by
    unfold Flt.sg; cases s <;> simp only [Bool.false_eq_true, if_true, if_false] <;> omega
  have h2 : Flt.sg s u ≤ Flt.sg false (2 ^ 159) := by
    unfold Flt.sg; cases s <;> simp only [Bool.false_eq_true, if_true, if_false] <;> omega
  rw [decide_eq_true h1, decide_eq_true h2]; rfl
theorem QC.fins {e : Nat} {c : C3} {y a b : Int} (h : QC e c y a b) (he : e ≤ 240) (hy : y.natAbs ≤ 2 ^ 20) (ha : a.natAbs ≤ 2 ^ 20) (hb : b.natAbs ≤ 2 ^ 20) (hs : (y.natAbs + a.natAbs) * 2 ^ e ≤ 2 ^ 159) (ht : (y.natAbs + b.natAbs) * 2 ^ e ≤ 2 ^ 159) : ∀ x ∈ enc4 c, fin1 x = true := by
  obtain ⟨h1, h2, h3, h4⟩ := h.enc he hy ha hb
  intro x hx
  rw [enc4_of] at hx
  simp only [List.mem_cons, List.not_mem_nil, or_false] at hx
  have up : ∀ {k m : Nat}, k ≤ m → m * 2 ^ e ≤ 2 ^ 159 → k * 2 ^ e ≤ 2 ^ 159 := fun hk hm => Nat.le_trans (Nat.mul_le_mul_right _ hk) hm
  rcases hx with rfl | rfl | rfl | rfl
  · exact q_fin1 h1 (up (by omega) hs)
  · exact q_fin1 h2 (up (by omega) ht)
  · exact q_fin1 h3 (up (by omega) hs)
  · exact q_fin1 h4 (up (by omega) ht)
/-- Cells of the same dyadic numbers have equal samples. -/
theorem QC.same {e : Nat} {c d : C3} {y a b : Int} (h : QC e c y a b) (h' : QC e d y a b) (he : e ≤ 240) (hy : y.natAbs ≤ 2 ^ 20) (ha : a.natAbs ≤ 2 ^ 20) (hb : b.natAbs ≤ 2 ^ 20) :
    ∀ i (hi : i < (enc4 c).length) (hi' : i < (enc4 d).length), Ieee.single.order (enc4 c)[i] (enc4 d)[i] = some .eq := by
  obtain ⟨h1, h2, h3, h4⟩ := h.enc he hy ha hb
  obtain ⟨g1, g2, g3, g4⟩ := h'.enc he hy ha hb
  intro i hi hi'
  have h0 : i < 4 := hi
  rcases (by omega : i = 0 ∨ i = 1 ∨ i = 2 ∨ i = 3) with rfl | rfl | rfl | rfl
  · exact h1.eq g1
  · exact h2.eq g2
  · exact h3.eq g3
  · exact h4.eq g4
end Go.Proofs.Ytgecclccmmcdoaa

/-
  What is proved: samples of plain rows come through two plain channels as through their chain; no sample is too large on the way.
  Conditions: none beyond plainness.
-/
namespace Go.Proofs.Ytgecclccmmcdoaa
set_option linter.unusedVariables false
open Go.RowKit
open Flt (Mag sumv subv mulv quov Q)

/-- Lists of equal numbers. -/
def EqL (xs ys : List Nat) : Prop := xs.length = ys.length ∧ ∀ i (h : i < xs.length) (h' : i < ys.length), Ieee.single.order xs[i] ys[i] = some .eq
theorem EqL.append {a b c d : List Nat} (h : EqL a b) (h' : EqL c d) : EqL (a ++ c) (b ++ d) := by
  obtain ⟨l1, e1⟩ := h
  obtain ⟨l2, e2⟩ := h'
  refine ⟨by rw [List.length_append, List.length_append, l1, l2], fun i hi hi' => ?_⟩
  by_cases hlt : i < a.length
  · rw [List.getElem_append_left hlt, List.getElem_append_left (by omega)]
    exact e1 i hlt (by omega)
  · rw [List.length_append] at hi hi'
    rw [List.getElem_append_right (by omega), List.getElem_append_right (by omega)]
    have := e2 (i - a.length) (by omega) (by omega)
    simp only [l1] at this ⊢
    exact this
theorem EqL.enc {f g : C3 → C3} : ∀ {cs : List C3}, (∀ c ∈ cs, EqL (enc4 (f c)) (enc4 (g c))) → EqL (enc (cs.map f)) (enc (cs.map g))
  | [], _ => ⟨rfl, fun i hi => absurd hi (by simp [Proofs.Ytgecclccmmcdoaa.enc])⟩
  | c :: cs, h => by
    show EqL (enc4 (f c) ++ Proofs.Ytgecclccmmcdoaa.enc (cs.map f)) (enc4 (g c) ++ Proofs.Ytgecclccmmcdoaa.enc (cs.map g))
    exact EqL.append (h c (by simp)) (EqL.enc fun d hd => h d (by simp [hd]))
theorem all_enc {p : Nat → Prop} {f : C3 → C3} {cs : List C3} (h : ∀ c ∈ cs, ∀ x ∈ enc4 (f c), p x) : ∀ x ∈ enc (cs.map f), p x := by
  intro x hx
  obtain ⟨d, hd, hx⟩ := List.mem_flatMap.1 hx
  obtain ⟨c, hc, rfl⟩ := List.mem_map.1 hd
  exact h c hc x hx
/-- A plain channel. -/
def PlainH (h : Chn) (α ω ξ η : Int) : Prop := QH 147 146 h α ω ξ η ∧ (1 ≤ α ∧ α ≤ 8) ∧ ω.natAbs ≤ 32 ∧ ξ.natAbs ≤ 8 ∧ η.natAbs ≤ 8
theorem PC.qc {c : C3} {a b d : Int} (h : PC c a b d) : QC 145 c a b d := ⟨h.1.q, h.2.1.q, h.2.2.1.q⟩
/-- The chain of two channels. -/
def chainH (a b : Chn) : Chn := ⟨mulv a.A b.A, sumv (mulv b.A a.O) b.O, timesRe a.X a.Y b.X b.Y, timesIm a.X a.Y b.X b.Y⟩
theorem lim_ok (n e : Nat) (h : n ≤ 2 ^ (159 - e)) (he : e ≤ 159) : n * 2 ^ e ≤ 2 ^ 159 := by
  have := Nat.mul_le_mul_right (2 ^ e) h
  rwa [← Nat.pow_add, Nat.sub_add_cancel he] at this
theorem one_tx {h : Chn} {α ω ξ η : Int} (hh : PlainH h α ω ξ η) {c : C3} {y a b : Int} (hc : QC 145 c y a b) (hy : y.natAbs ≤ 1024) (ha : a.natAbs ≤ 512) (hb : b.natAbs ≤ 512) :
    QC 143 (txC h (back c)) (α * y + ω * 2 ^ 3) (a * ξ - b * η) (a * η + b * ξ) ∧ (α * y + ω * 2 ^ 3).natAbs ≤ 8448 ∧ (a * ξ - b * η).natAbs ≤ 8192 ∧ (a * η + b * ξ).natAbs ≤ 8192 := by
  obtain ⟨hq, hα, hω, hξ, hη⟩ := hh
  have m1 := mul_le (a := α) (b := y) (m := 8) (n := 1024) (by omega) hy
  have m2 := mul_le (a := ω) (b := 2 ^ 3) (m := 32) (n := 8) hω (by decide)
  have m3 := mul_le (n := 8) ha hξ
  have m4 := mul_le (n := 8) hb hη
  have m5 := mul_le (n := 8) ha hη
  have m6 := mul_le (n := 8) hb hξ
  have hk := hc.back (by decide) (by decide) (by omega) (by omega) (by omega)
  have r := q_tx (e := 145) (g := 147) (o := 146) (j := 3) hq hk (by decide) (by decide) (by decide) (by omega) (by omega) (by omega) (by omega) (by omega) (by omega)
  exact ⟨r, by omega, by omega, by omega⟩
theorem two_tx {h : Chn} {α ω ξ η : Int} (hh : PlainH h α ω ξ η) {c : C3} {y a b : Int} (hc : QC 143 c y a b) (hy : y.natAbs ≤ 8448) (ha : a.natAbs ≤ 8192) (hb : b.natAbs ≤ 8192) :
    QC 141 (txC h (back c)) (α * y + ω * 2 ^ 5) (a * ξ - b * η) (a * η + b * ξ) ∧ (α * y + ω * 2 ^ 5).natAbs ≤ 68608 ∧ (a * ξ - b * η).natAbs ≤ 131072 ∧ (a * η + b * ξ).natAbs ≤ 131072 := by
  obtain ⟨hq, hα, hω, hξ, hη⟩ := hh
  have m1 := mul_le (a := α) (b := y) (m := 8) (n := 8448) (by omega) hy
  have m2 := mul_le (a := ω) (b := 2 ^ 5) (m := 32) (n := 32) hω (by decide)
  have m3 := mul_le (n := 8) ha hξ
  have m4 := mul_le (n := 8) hb hη
  have m5 := mul_le (n := 8) ha hη
  have m6 := mul_le (n := 8) hb hξ
  have hk := hc.back (by decide) (by decide) (by omega) (by omega) (by omega)
  have r := q_tx (e := 143) (g := 147) (o := 146) (j := 5) hq hk (by decide) (by decide) (by decide) (by omega) (by omega) (by omega) (by omega) (by omega) (by omega)
  exact ⟨r, by omega, by omega, by omega⟩
theorem chain_q {h k : Chn} {α ω ξ η α' ω' ξ' η' : Int} (hh : PlainH h α ω ξ η) (hk : PlainH k α' ω' ξ' η') :
    QH 145 144 (chainH h k) (α * α') (α' * ω + ω' * 2 ^ 2) (ξ * ξ' - η * η') (ξ * η' + η * ξ') ∧ (1 ≤ α * α' ∧ α * α' ≤ 64) ∧ (α' * ω + ω' * 2 ^ 2).natAbs ≤ 384 ∧ (ξ * ξ' - η * η').natAbs ≤ 128 ∧ (ξ * η' + η * ξ').natAbs ≤ 128 := by
  obtain ⟨⟨qA, qO, qX, qY⟩, ⟨a1, a2⟩, hω, hξ, hη⟩ := hh
  obtain ⟨⟨rA, rO, rX, rY⟩, ⟨b1, b2⟩, hω', hξ', hη'⟩ := hk
  have m1 := mul_le (a := α) (b := α') (m := 8) (n := 8) (by omega) (by omega)
  have m2 := mul_le (a := α') (b := ω) (m := 8) (n := 32) (by omega) hω
  have m3 := mul_le (a := ω') (b := 2 ^ 2) (m := 32) (n := 4) hω' (by decide)
  have m4 := mul_le (n := 8) hξ hξ'
  have m5 := mul_le (n := 8) hη hη'
  have m6 := mul_le (n := 8) hξ hη'
  have m7 := mul_le (n := 8) hη hξ'
  have hp : 1 ≤ α * α' := by
    have := Int.mul_pos (show 0 < α by omega) (show 0 < α' by omega)
    omega
  have k1 := q_mulv qA rA (by omega) (by decide) (by decide)
  have k2 := q_mulv rA qO (by omega) (by decide) (by decide)
  have k3 := rO.lift 2 (by decide)
  have f1 := q_mulv qX rX (by omega) (by decide) (by decide)
  have f2 := q_mulv qY rY (by omega) (by decide) (by decide)
  have f3 := q_mulv qX rY (by omega) (by decide) (by decide)
  have f4 := q_mulv qY rX (by omega) (by decide) (by decide)
  exact ⟨⟨k1, q_sumv k2 k3 (by omega) (by decide), q_subv f1 f2 (by omega) (by decide), q_sumv f3 f4 (by omega) (by decide)⟩, ⟨hp, by omega⟩, by omega, by omega, by omega⟩
theorem chain_tx {h : Chn} {α ω ξ η : Int} (hq : QH 145 144 h α ω ξ η) (hα : α.natAbs ≤ 64) (hω : ω.natAbs ≤ 384) (hξ : ξ.natAbs ≤ 128) (hη : η.natAbs ≤ 128) {c : C3} {y a b : Int} (hc : QC 145 c y a b) (hy : y.natAbs ≤ 1024) (ha : a.natAbs ≤ 512) (hb : b.natAbs ≤ 512) :
    QC 141 (txC h (back c)) (α * y + ω * 2 ^ 3) (a * ξ - b * η) (a * η + b * ξ) := by
  have m1 := mul_le (n := 1024) hα hy
  have m2 := mul_le (a := ω) (b := 2 ^ 3) (m := 384) (n := 8) hω (by decide)
  have m3 := mul_le (n := 128) ha hξ
  have m4 := mul_le (n := 128) hb hη
  have m5 := mul_le (n := 128) ha hη
  have m6 := mul_le (n := 128) hb hξ
  have hk := hc.back (by decide) (by decide) (by omega) (by omega) (by omega)
  have r := q_tx (e := 145) (g := 145) (o := 144) (j := 3) hq hk (by decide) (by decide) (by decide) (by omega) (by omega) (by omega) (by omega) (by omega) (by omega)
  exact r
theorem chain_y (α α' y ω ω' : Int) : α' * (α * y + ω * 2 ^ 3) + ω' * 2 ^ 5 = (α * α') * y + (α' * ω + ω' * 2 ^ 2) * 2 ^ 3 := by
  have e1 : α' * (α * y + ω * 2 ^ 3) = (α * α') * y + α' * ω * 2 ^ 3 := by rw [Int.mul_add]; congr 1 <;> ac_rfl
  rw [e1, Int.add_mul, Int.add_assoc, Int.mul_assoc ω']
  rfl
theorem chain_re (a b ξ η ξ' η' : Int) : (a * ξ - b * η) * ξ' - (a * η + b * ξ) * η' = a * (ξ * ξ' - η * η') - b * (ξ * η' + η * ξ') := by
  rw [Int.sub_mul, Int.add_mul, Int.mul_sub, Int.mul_add, Int.mul_assoc, Int.mul_assoc, Int.mul_assoc, Int.mul_assoc]; omega
theorem chain_im (a b ξ η ξ' η' : Int) : (a * ξ - b * η) * η' + (a * η + b * ξ) * ξ' = a * (ξ * η' + η * ξ') + b * (ξ * ξ' - η * η') := by
  rw [Int.sub_mul, Int.add_mul, Int.mul_sub, Int.mul_add, Int.mul_assoc, Int.mul_assoc, Int.mul_assoc, Int.mul_assoc]; omega
/-- Plain rows through two plain channels, and through their chain. -/
theorem chained {h k : Chn} {α ω ξ η α' ω' ξ' η' : Int} (hh : PlainH h α ω ξ η) (hk : PlainH k α' ω' ξ' η') {cs : List C3} (hp : PlainR cs) :
    (∀ x ∈ txs h (enc cs), fin1 x = true) ∧ (∀ x ∈ txs k (txs h (enc cs)), fin1 x = true) ∧ (∀ x ∈ txs (chainH h k) (enc cs), fin1 x = true) ∧ EqL (txs k (txs h (enc cs))) (txs (chainH h k) (enc cs)) := by
  rw [txs_enc h, txs_enc k, txs_enc (chainH h k), List.map_map]
  obtain ⟨hq, hA, hO, hX, hY⟩ := chain_q hh hk
  have key : ∀ c ∈ cs, (∀ x ∈ enc4 (txC h (back c)), fin1 x = true) ∧ ∃ y a b : Int, QC 141 (txC k (back (txC h (back c)))) y a b ∧ QC 141 (txC (chainH h k) (back c)) y a b ∧ y.natAbs ≤ 68608 ∧ a.natAbs ≤ 131072 ∧ b.natAbs ≤ 131072 := by
    intro c hc
    obtain ⟨y, a, b, hpc⟩ := hp c hc
    obtain ⟨b1, b2, b3⟩ := hpc.2.2.2
    obtain ⟨k1, c1, c2, c3⟩ := one_tx hh hpc.qc b1 b2 b3
    obtain ⟨k2, d1, d2, d3⟩ := two_tx hk k1 c1 c2 c3
    have k3 := chain_tx hq (by omega) hO hX hY hpc.qc b1 b2 b3
    refine ⟨k1.fins (by decide) (by omega) (by omega) (by omega) (lim_ok _ 143 (by omega) (by decide)) (lim_ok _ 143 (by omega) (by decide)), _, _, _, k2, ?_, d1, d2, d3⟩
    rw [chain_y, chain_re, chain_im]
    exact k3
  refine ⟨all_enc fun c hc => (key c hc).1, all_enc fun c hc => ?_, all_enc fun c hc => ?_, EqL.enc fun c hc => ?_⟩
  · obtain ⟨_, y, a, b, k2, k3, d1, d2, d3⟩ := key c hc
    exact k2.fins (by decide) (by omega) (by omega) (by omega) (lim_ok _ 141 (by omega) (by decide)) (lim_ok _ 141 (by omega) (by decide))
  · obtain ⟨_, y, a, b, k2, k3, d1, d2, d3⟩ := key c hc
    exact k3.fins (by decide) (by omega) (by omega) (by omega) (lim_ok _ 141 (by omega) (by decide)) (lim_ok _ 141 (by omega) (by decide))
  · obtain ⟨_, y, a, b, k2, k3, d1, d2, d3⟩ := key c hc
    exact ⟨rfl, fun i hi hi' => k2.same k3 (by decide) (by omega) (by omega) (by omega) i hi hi'⟩
end Go.Proofs.Ytgecclccmmcdoaa

/-
  What is proved: products of complex singles: their order, the factors 1 and i; powers.
  Conditions: those that each fact names.
-/
namespace Go.Proofs.Ytgecclccmmcdoaa
set_option linter.unusedVariables false
open Go.RowKit
open Flt (Mag sumv subv mulv quov Q)

theorem mul_comm32 (x y : Nat) : floatBits .mul .f32 x y = floatBits .mul .f32 y x := by
  show Ieee.single.mul x y = Ieee.single.mul y x
  unfold Ieee.Format.mul
  rw [product_comm]
theorem mulv_comm (x y : Nat) : mulv x y = mulv y x := by unfold mulv; rw [mul_comm32]
theorem sumv_comm (x y : Nat) : sumv x y = sumv y x := by unfold sumv; rw [Flt.add_comm32]
/-- What the product of a + bi and x + yi may be. -/
def TimesR (a b x y re im : Nat) : Prop := ∃ m1 m2 m3 m4, Res .mul a x m1 ∧ Res .mul b y m2 ∧ Res .sub m1 m2 re ∧ Res .mul a y m3 ∧ Res .mul b x m4 ∧ Res .add m3 m4 im
theorem TimesR.comm {a b x y re im re' im' : Nat} (h : TimesR a b x y re im) (h' : TimesR x y a b re' im') : Sm re re' ∧ Sm im im' := by
  obtain ⟨m1, m2, m3, m4, h1, h2, h3, h4, h5, h6⟩ := h
  obtain ⟨n1, n2, n3, n4, g1, g2, g3, g4, g5, g6⟩ := h'
  have k1 := Res.same (Sm.refl _) (Sm.refl _) h1 g1.mul_comm
  have k2 := Res.same (Sm.refl _) (Sm.refl _) h2 g2.mul_comm
  have k3 := Res.same (Sm.refl _) (Sm.refl _) h4 g5.mul_comm
  have k4 := Res.same (Sm.refl _) (Sm.refl _) h5 g4.mul_comm
  exact ⟨Res.same k1 k2 h3 g3, Res.same k3 k4 h6 g6.add_comm⟩
theorem TimesR.is {a b x y re im : Nat} {k l : Nat} (ha : Mag k a) (hb : Mag k b) (hx : Mag l x) (hy : Mag l y) (hkl : k + l ≤ 400) (hl : 149 ≤ k + l) (h : TimesR a b x y re im) : re = timesRe a b x y ∧ im = timesIm a b x y := by
  obtain ⟨m1, m2, m3, m4, h1, h2, h3, h4, h5, h6⟩ := h
  have e1 := ha.mul hx (by omega) hl
  have e2 := hb.mul hy (by omega) hl
  have e3 := ha.mul hy (by omega) hl
  have e4 := hb.mul hx (by omega) hl
  have e5 := e1.2.sub e2.2 (by omega)
  have e6 := e3.2.add e4.2 (by omega)
  obtain rfl := res_some h1 e1.1
  obtain rfl := res_some h2 e2.1
  obtain rfl := res_some h4 e3.1
  obtain rfl := res_some h5 e4.1
  exact ⟨res_some h3 e5.1, res_some h6 e6.1⟩
/-! ### Zeros -/
theorem num_fin {x : Nat} (h : Flt.fin x = true) : ∃ s u, Flt.Num Ieee.single x s u ∧ Flt.Rep Ieee.single u ∧ u < 2 ^ Flt.cap Ieee.single := by
  obtain ⟨s, u, h1, h2⟩ := Flt.fin_of h
  have := Flt.lim_cap h2
  exact ⟨s, u, h1, Flt.rep_num h1, by omega⟩
theorem num_zero0 : Flt.Num Ieee.single 0 false 0 := by
  have h := Flt.read_num Flt.read_zero
  rwa [Nat.zero_mul] at h
/-- x times 0 is a zero. -/
theorem mul_zero32 {x : Nat} (h : Flt.fin x = true) : ∃ s, floatBits .mul .f32 x 0 = some (mulv x 0) ∧ Flt.Num Ieee.single (mulv x 0) s 0 := by
  obtain ⟨s, u, h1, h2, h3⟩ := num_fin h
  obtain ⟨r, hr, hn⟩ := Flt.mul_num Flt.fine32 h1 num_zero0 0 (by rw [Nat.mul_zero, Nat.zero_mul]) (Flt.rep_zero _) (Nat.lt_of_le_of_lt (Nat.zero_le _) h3)
  have hr' : floatBits .mul .f32 x 0 = some r := hr
  unfold mulv
  rw [hr']
  exact ⟨_, rfl, hn⟩
/-- A number and a zero, added or subtracted. -/
theorem zero_sub {x z : Nat} {s t : Bool} {u : Nat} (hx : Flt.Num Ieee.single x s u) (hz : Flt.Num Ieee.single z t 0) (hr : Flt.Rep Ieee.single u) (hc : u < 2 ^ Flt.cap Ieee.single) : floatBits .sub .f32 x z = some (subv x z) ∧ Ieee.single.order (subv x z) x = some .eq := by
  have e : Flt.sg s u - Flt.sg t 0 = Flt.sg s u := by have : Flt.sg t 0 = 0 := by cases t <;> rfl
                                                      omega
  obtain ⟨r, h1, h2⟩ := Flt.sub_num Flt.fine32 hx hz (by rw [e, Flt.natAbs_sg]; exact hr) (by rw [e, Flt.natAbs_sg]; exact hc)
  have h1' : floatBits .sub .f32 x z = some r := h1
  unfold subv
  rw [h1']
  refine ⟨rfl, ?_⟩
  rw [e] at h2
  show Ieee.single.order r x = _
  rw [Flt.order_num h2 hx, Flt.sg_self, Flt.cmp_eq rfl]
theorem sub_zero {x z : Nat} {s t : Bool} {u : Nat} (hx : Flt.Num Ieee.single x s u) (hz : Flt.Num Ieee.single z t 0) (hr : Flt.Rep Ieee.single u) (hc : u < 2 ^ Flt.cap Ieee.single) (h32 : x < 2 ^ 32) : floatBits .sub .f32 z x = some (subv z x) ∧ Ieee.single.order (subv z x) (Op.negFloat .f32 x) = some .eq := by
  have e : Flt.sg t 0 - Flt.sg s u = - Flt.sg s u := by have : Flt.sg t 0 = 0 := by cases t <;> rfl
                                                        omega
  obtain ⟨r, h1, h2⟩ := Flt.sub_num Flt.fine32 hz hx (by rw [e, Int.natAbs_neg, Flt.natAbs_sg]; exact hr) (by rw [e, Int.natAbs_neg, Flt.natAbs_sg]; exact hc)
  have h1' : floatBits .sub .f32 z x = some r := h1
  unfold subv
  rw [h1']
  refine ⟨rfl, ?_⟩
  rw [e] at h2
  show Ieee.single.order r _ = _
  rw [Flt.order_num h2 (Flt.num_neg32 h32 hx), Flt.sg_self, Flt.sg_not, Flt.cmp_eq rfl]
theorem zero_add {x z : Nat} {s t : Bool} {u : Nat} (hx : Flt.Num Ieee.single x s u) (hz : Flt.Num Ieee.single z t 0) (hr : Flt.Rep Ieee.single u) (hc : u < 2 ^ Flt.cap Ieee.single) : floatBits .add .f32 x z = some (sumv x z) ∧ Ieee.single.order (sumv x z) x = some .eq := by
  have e : Flt.sg s u + Flt.sg t 0 = Flt.sg s u := by have : Flt.sg t 0 = 0 := by cases t <;> rfl
                                                      omega
  obtain ⟨r, h1, h2⟩ := Flt.add_num Flt.fine32 hx hz (by rw [e, Flt.natAbs_sg]; exact hr) (by rw [e, Flt.natAbs_sg]; exact hc)
  have h1' : floatBits .add .f32 x z = some r := h1
  unfold sumv
  rw [h1']
  refine ⟨rfl, ?_⟩
  rw [e] at h2
  show Ieee.single.order r x = _
  rw [Flt.order_num h2 hx, Flt.sg_self, Flt.cmp_eq rfl]
theorem mul_one_v {x : Nat} (h32 : x < 2 ^ 32) (h : Flt.fin x = true) : floatBits .mul .f32 x 1065353216 = some x ∧ mulv x 1065353216 = x := by
  have := Flt.mul_one32 h32 h
  exact ⟨this, by unfold mulv; rw [this]; rfl⟩
/-- Times 1: equal. -/
theorem times_one {a b re im : Nat} (ha : a < 2 ^ 32) (hb : b < 2 ^ 32) (fa : Flt.fin a = true) (fb : Flt.fin b = true) (h : TimesR a b 1065353216 0 re im) : Ieee.single.order re a = some .eq ∧ Ieee.single.order im b = some .eq := by
  obtain ⟨m1, m2, m3, m4, h1, h2, h3, h4, h5, h6⟩ := h
  obtain ⟨s, z1, z2⟩ := mul_zero32 fb
  obtain ⟨t, y1, y2⟩ := mul_zero32 fa
  obtain ⟨sa, ua, na, ra, ca⟩ := num_fin fa
  obtain ⟨sb, ub, nb, rb, cb⟩ := num_fin fb
  obtain rfl := res_some h1 (mul_one_v ha fa).1
  obtain rfl := res_some h2 z1
  obtain rfl := res_some h4 y1
  obtain rfl := res_some h5 (mul_one_v hb fb).1
  obtain ⟨k1, k2⟩ := zero_sub na z2 ra ca
  obtain ⟨l1, l2⟩ := zero_add nb y2 rb cb
  obtain rfl := res_some h3 k1
  obtain rfl := res_some h6.add_comm l1
  exact ⟨k2, l2⟩
/-- Times i: a quarter turn. -/
theorem times_i {a b re im : Nat} (ha : a < 2 ^ 32) (hb : b < 2 ^ 32) (fa : Flt.fin a = true) (fb : Flt.fin b = true) (h : TimesR a b 0 1065353216 re im) : Ieee.single.order re (Op.negFloat .f32 b) = some .eq ∧ Ieee.single.order im a = some .eq := by
  obtain ⟨m1, m2, m3, m4, h1, h2, h3, h4, h5, h6⟩ := h
  obtain ⟨s, z1, z2⟩ := mul_zero32 fb
  obtain ⟨t, y1, y2⟩ := mul_zero32 fa
  obtain ⟨sa, ua, na, ra, ca⟩ := num_fin fa
  obtain ⟨sb, ub, nb, rb, cb⟩ := num_fin fb
  obtain rfl := res_some h1 y1
  obtain rfl := res_some h2 (mul_one_v hb fb).1
  obtain rfl := res_some h4 (mul_one_v ha fa).1
  obtain rfl := res_some h5 z1
  obtain ⟨k1, k2⟩ := sub_zero nb y2 rb cb hb
  obtain ⟨l1, l2⟩ := zero_add na z2 ra ca
  obtain rfl := res_some h3 k1
  obtain rfl := res_some h6 l1
  exact ⟨k2, l2⟩
end Go.Proofs.Ytgecclccmmcdoaa

/-
  What is proved: sums of squares of singles: they are not negative, are 0 only if both squares are, and do not depend on signs or on order.
  Conditions: none of the numbers is NaN.
-/
namespace Go.Proofs.Ytgecclccmmcdoaa
set_option linter.unusedVariables false
open Ieee
open Flt (Mag sumv subv mulv quov Q)

/-- Not negative, and no NaN. -/
def NN (x : Nat) : Prop := (∃ m e, single.read x = .number false m e) ∨ single.read x = .infinity false
def Nul (x : Nat) : Prop := ∃ s e, single.read x = .number s 0 e
theorem NN.ok {x : Nat} (h : NN x) : isN x = false := by
  unfold isN
  rcases h with ⟨m, e, h⟩ | h <;> rw [h] <;> rfl
theorem nn_word (r : Nat) (h : r ≤ single.infRung) : NN (single.word false r) := by
  have h2 : r < single.signWeight := Nat.lt_of_le_of_lt h single.infRung_lt
  have hr := Flt.read_word single false r h2
  by_cases h1 : r < single.binade
  · rw [if_pos h1] at hr; exact .inl ⟨_, _, hr⟩
  · rw [if_neg h1] at hr
    by_cases h3 : r < single.infRung
    · rw [if_pos h3] at hr; exact .inl ⟨_, _, hr⟩
    · rw [if_neg h3, if_pos (by omega)] at hr; exact .inr hr
theorem word_nul {s : Bool} {r : Nat} (h : r ≤ single.infRung) : Nul (single.word s r) ↔ r = 0 := by
  have h2 : r < single.signWeight := Nat.lt_of_le_of_lt h single.infRung_lt
  have hr := Flt.read_word single s r h2
  have hb : 0 < single.binade := Flt.two_pos _
  constructor
  · rintro ⟨t, e, h0⟩
    by_cases h1 : r < single.binade
    · rw [if_pos h1, h0] at hr; cases hr; rfl
    · rw [if_neg h1] at hr
      by_cases h3 : r < single.infRung
      · rw [if_pos h3, h0] at hr
        injection hr with _ h4 _
        omega
      · rw [if_neg h3, if_pos (by omega), h0] at hr; cases hr
  · rintro rfl
    rw [if_pos hb] at hr
    exact ⟨_, _, hr⟩
/-- Rounding takes no number of units to 0. -/
theorem nearest_nul (s : Bool) (mag : Nat) (place : Int) (hp : -149 ≤ place) : Nul (single.nearest s mag place) ↔ mag = 0 := by
  unfold Format.nearest
  by_cases h : mag = 0
  · rw [if_pos h]
    exact ⟨fun _ => h, fun _ => (word_nul (Nat.zero_le _)).2 rfl⟩
  · rw [if_neg h]
    refine ⟨fun h1 => ?_, fun h1 => absurd h1 h⟩
    exfalso
    have h2 := (word_nul (Nat.min_le_right _ _)).1 h1
    simp only [Flt.shl, Flt.place32, Flt.frac32] at h2
    obtain ⟨last, hl⟩ : ∃ last : Int, last = max (place + mag.log2 - ((23 : Nat) : Int)) (-149) := ⟨_, rfl⟩
    rw [← hl] at h2
    have hi : 0 < single.infRung := by rw [Flt.inf32]; decide
    have h4 : 1 ≤ Toward.even.cut s (mag * 2 ^ (place - last).toNat) (last - place).toNat := by
      apply Flt.le_cut
      have h5 : 2 ^ mag.log2 ≤ mag := Nat.log2_self_le h
      have h6 : (2 : Nat) ^ (last - place).toNat ≤ 2 ^ mag.log2 := Nat.pow_le_pow_right (by decide) (by omega)
      have h7 : mag * 1 ≤ mag * 2 ^ (place - last).toNat := Nat.mul_le_mul_left _ (Flt.two_pos _)
      omega
    omega
theorem nn_nearest (mag : Nat) (place : Int) : NN (single.nearest false mag place) := by
  unfold Format.nearest
  by_cases h : mag = 0
  · rw [if_pos h]; exact nn_word 0 (Nat.zero_le _)
  · rw [if_neg h]; exact nn_word _ (Nat.min_le_right _ _)
theorem place_ge {x m : Nat} {s : Bool} {e : Int} (h : single.read x = .number s m e) : -149 ≤ e := by
  obtain ⟨m', e', h', hle, _⟩ := Flt.read_num h
  rw [h] at h'
  cases h'
  rw [Flt.place32] at hle
  exact hle
theorem sq_nn {x : Nat} (h : isN x = false) : ∃ r, floatBits .mul .f32 x x = some r ∧ NN r := by
  have e : floatBits .mul .f32 x x = ((single.read x).product (single.read x)).map single.write := rfl
  unfold isN at h
  cases hx : single.read x with
  | nan s p => rw [hx] at h; cases h
  | infinity s =>
    refine ⟨single.word false single.infRung, ?_, nn_word _ (Nat.le_refl _)⟩
    rw [e, hx]
    show some (single.write (.infinity (s ^^ s))) = _
    rw [Bool.xor_self]; rfl
  | number s m i =>
    refine ⟨single.nearest false (m * m) (i + i), ?_, nn_nearest _ _⟩
    rw [e, hx]
    show some (single.nearest (s ^^ s) (m * m) (i + i)) = _
    rw [Bool.xor_self]
theorem sum_nn {x y : Nat} (hx : NN x) (hy : NN y) : ∃ r, floatBits .add .f32 x y = some r ∧ NN r ∧ (Nul r ↔ Nul x ∧ Nul y) := by
  have e : floatBits .add .f32 x y = ((single.read x).sum (single.read y)).map single.write := rfl
  have hni : ∀ z, single.read z = .infinity false → ¬ Nul z := by rintro z hz ⟨s, k, hk⟩; rw [hz] at hk; cases hk
  have hinf : NN (single.word false single.infRung) ∧ ¬ Nul (single.word false single.infRung) := by
    refine ⟨nn_word _ (Nat.le_refl _), fun h => ?_⟩
    have := (word_nul (Nat.le_refl _)).1 h
    rw [Flt.inf32] at this
    exact absurd this (by decide)
  rcases hx with ⟨m, i, hx⟩ | hx
  · rcases hy with ⟨n, j, hy⟩ | hy
    · have p1 := place_ge hx
      have p2 := place_ge hy
      have ez : ∀ (z a : Nat) (k : Int), single.read z = .number false a k → (Nul z ↔ a = 0) := by
        intro z a k hz
        constructor
        · rintro ⟨s, l, h⟩; rw [hz] at h; cases h; rfl
        · rintro rfl; exact ⟨_, _, hz⟩
      rw [ez x m i hx, ez y n j hy]
      have es : (single.read x).sum (single.read y) = some (.number (if signed false m (i - min i j).toNat + signed false n (j - min i j).toNat = 0 then false && false else decide (signed false m (i - min i j).toNat + signed false n (j - min i j).toNat < 0)) (signed false m (i - min i j).toNat + signed false n (j - min i j).toNat).natAbs (min i j)) := by rw [hx, hy]; rfl
      rw [Flt.signed_sg, Flt.signed_sg] at es
      have a1 : Flt.sg false (m * 2 ^ (i - min i j).toNat) = ((m * 2 ^ (i - min i j).toNat : Nat) : Int) := rfl
      have a2 : Flt.sg false (n * 2 ^ (j - min i j).toNat) = ((n * 2 ^ (j - min i j).toNat : Nat) : Int) := rfl
      rw [a1, a2] at es
      have hz : (m * 2 ^ (i - min i j).toNat + n * 2 ^ (j - min i j).toNat = 0) ↔ (m = 0 ∧ n = 0) := by
        have q1 := Flt.two_pos (i - min i j).toNat
        have q2 := Flt.two_pos (j - min i j).toNat
        constructor
        · intro h
          have h1 : m * 2 ^ (i - min i j).toNat = 0 := by omega
          have h2 : n * 2 ^ (j - min i j).toNat = 0 := by omega
          exact ⟨(Nat.mul_eq_zero.1 h1).resolve_right (by omega), (Nat.mul_eq_zero.1 h2).resolve_right (by omega)⟩
        · rintro ⟨rfl, rfl⟩; simp
      generalize m * 2 ^ (i - min i j).toNat = M at *
      generalize n * 2 ^ (j - min i j).toNat = N at *
      have hsign : (if (M : Int) + (N : Int) = 0 then false && false else decide ((M : Int) + (N : Int) < 0)) = false := by
        split
        · rfl
        · exact decide_eq_false (by omega)
      rw [hsign, show ((M : Int) + (N : Int)).natAbs = M + N by omega] at es
      refine ⟨single.nearest false (M + N) (min i j), by rw [e, es]; rfl, nn_nearest _ _, ?_⟩
      rw [nearest_nul false _ _ (by omega), hz]
    · refine ⟨_, by rw [e, hx, hy]; rfl, hinf.1, ⟨fun h => absurd h hinf.2, fun h => absurd h.2 (hni y hy)⟩⟩
  · rcases hy with ⟨n, j, hy⟩ | hy
    · refine ⟨_, by rw [e, hx, hy]; rfl, hinf.1, ⟨fun h => absurd h hinf.2, fun h => absurd h.1 (hni x hx)⟩⟩
    · refine ⟨_, by rw [e, hx, hy]; rfl, hinf.1, ⟨fun h => absurd h hinf.2, fun h => absurd h.1 (hni x hx)⟩⟩
theorem nul_eq {x : Nat} : single.order x 0 = some .eq ↔ Nul x := by
  constructor
  · intro h
    obtain ⟨s, i, h1⟩ := Flt.eq_zero Flt.read_zero h
    exact ⟨s, i, h1⟩
  · rintro ⟨s, e, h⟩
    have h1 := Flt.read_num h
    rw [Nat.zero_mul] at h1
    rw [Flt.order_num h1 num_zero0]
    cases s <;> rfl
theorem NN.ge {x : Nat} (h : NN x) : (single.order x 0 == some .gt || single.order x 0 == some .eq) = true := by
  rcases h with ⟨m, e, h⟩ | h
  · have h1 := Flt.read_num h
    rw [Flt.order_num h1 num_zero0]
    have e1 : Flt.sg false (m * 2 ^ (e - single.leastPlace).toNat) = ((m * 2 ^ (e - single.leastPlace).toNat : Nat) : Int) := rfl
    have e2 : Flt.sg false 0 = 0 := rfl
    rw [e1, e2]
    generalize m * 2 ^ (e - single.leastPlace).toNat = k
    rcases (by omega : k = 0 ∨ 0 < k) with rfl | hk
    · rw [show ((0 : Nat) : Int) = 0 from rfl, Flt.cmp_eq rfl]; rfl
    · rw [Flt.cmp_gt (by omega)]; rfl
  · unfold Format.order
    rw [h, Flt.read_zero]; rfl
/-- What the power of x + yi may be. -/
def PowR (x y p : Nat) : Prop := ∃ m n, Res .mul x x m ∧ Res .mul y y n ∧ Res .add m n p
theorem PowR.nan {x y p : Nat} (h : PowR x y p) (hn : isN x = true ∨ isN y = true) : isN p = true := by
  obtain ⟨m, n, h1, h2, h3⟩ := h
  rcases hn with hn | hn
  · exact Res.nan (.inl (Res.nan (.inl hn) h1)) h3
  · exact Res.nan (.inr (Res.nan (.inl hn) h2)) h3
theorem PowR.swap {x y p p' : Nat} (h : PowR x y p) (h' : PowR y x p') : Sm p p' := by
  obtain ⟨m, n, h1, h2, h3⟩ := h
  obtain ⟨m', n', g1, g2, g3⟩ := h'
  have k1 := Res.same (Sm.refl _) (Sm.refl _) h1 g2
  have k2 := Res.same (Sm.refl _) (Sm.refl _) h2 g1
  exact Res.same k1 k2 h3 g3.add_comm
theorem PowR.same {x y p p' : Nat} (h : PowR x y p) (h' : PowR x y p') : Sm p p' := by
  obtain ⟨m, n, h1, h2, h3⟩ := h
  obtain ⟨m', n', g1, g2, g3⟩ := h'
  exact Res.same (Res.same (Sm.refl _) (Sm.refl _) h1 g1) (Res.same (Sm.refl _) (Sm.refl _) h2 g2) h3 g3
theorem PowR.nn {x y p : Nat} (h : PowR x y p) (hx : isN x = false) (hy : isN y = false) : NN p ∧ ∃ m n, floatBits .mul .f32 x x = some m ∧ floatBits .mul .f32 y y = some n ∧ (Nul p ↔ Nul m ∧ Nul n) := by
  obtain ⟨m, n, h1, h2, h3⟩ := h
  obtain ⟨a, ea, na⟩ := sq_nn hx
  obtain ⟨b, eb, nb⟩ := sq_nn hy
  obtain rfl := res_some h1 ea
  obtain rfl := res_some h2 eb
  obtain ⟨r, er, nr, hz⟩ := sum_nn na nb
  obtain rfl := res_some h3 er
  exact ⟨nr, m, n, ea, eb, hz⟩
theorem read_neg {x : Nat} (h : x < 2 ^ 32) : single.read (Go.Op.negFloat .f32 x) = (single.read x).opposite := by
  obtain ⟨s, r, rfl, hr⟩ := Flt.word_parts32 x h
  rw [Flt.neg_word32 s r hr, Flt.read_word single _ r (by rw [Flt.sw32]; exact hr), Flt.read_word single s r (by rw [Flt.sw32]; exact hr)]
  split
  · rfl
  · split
    · rfl
    · split
      · rfl
      · rfl
theorem sq_neg {x : Nat} (h : x < 2 ^ 32) : floatBits .mul .f32 (Go.Op.negFloat .f32 x) (Go.Op.negFloat .f32 x) = floatBits .mul .f32 x x := by
  show ((single.read _).product (single.read _)).map single.write = ((single.read x).product (single.read x)).map single.write
  rw [read_neg h]
  cases single.read x with
  | nan s p => rfl
  | infinity s => cases s <;> rfl
  | number s m i => cases s <;> rfl
theorem PowR.neg {x y p p' : Nat} (hy : y < 2 ^ 32) (h : PowR x y p) (h' : PowR x (Go.Op.negFloat .f32 y) p') : Sm p p' := by
  refine h.same ?_
  obtain ⟨m, n, h1, h2, h3⟩ := h'
  refine ⟨m, n, h1, ?_, h3⟩
  unfold Res at h2 ⊢
  rwa [sq_neg hy] at h2
end Go.Proofs.Ytgecclccmmcdoaa

/-
  What is proved: a plain channel that turns by quarters, and its undoing, are together no channel at all; a plain channel with no gain changes nothing.
  Conditions: none beyond plainness.
-/
namespace Go.Proofs.Ytgecclccmmcdoaa
set_option linter.unusedVariables false
open Ieee
open Flt (Mag sumv subv mulv quov Q)

theorem res_addv {x y r v : Nat} (h : Res .add x y r) (e : ∃ v, floatBits .add .f32 x y = some v) : r = sumv x y := by
  obtain ⟨v, e⟩ := e
  rw [res_some h e]; unfold sumv; rw [e]; rfl
theorem res_mulv {x y r : Nat} (h : Res .mul x y r) (e : ∃ v, floatBits .mul .f32 x y = some v) : r = mulv x y := by
  obtain ⟨v, e⟩ := e
  rw [res_some h e]; unfold mulv; rw [e]; rfl
theorem res_quov {x y r : Nat} (h : Res .quo x y r) (e : ∃ v, floatBits .quo .f32 x y = some v) : r = quov x y := by
  obtain ⟨v, e⟩ := e
  rw [res_some h e]; unfold quov; rw [e]; rfl
/-- The gains of brightness of a plain channel, their exponents, and their reciprocals. -/
def plainA : List (Nat × Int × Nat × Nat) := [(1048576000, -25, 1082130432, 2), (1056964608, -24, 1073741824, 1), (1065353216, -23, 1065353216, 0), (1073741824, -22, 1056964608, 0)]
theorem q_one : Q 149 1065353216 1 := Flt.q_word (by decide) (show single.read 1065353216 = .number false 8388608 (-23) by decide +kernel) (by decide +kernel)
/-- What is moved back, exactly: A' times Offset, and the quotient of -Offset and A, are opposite. -/
theorem undo_offset {A A' O : Nat} {ω : Int} (hA : A = 1048576000 ∧ A' = 1082130432 ∨ A = 1056964608 ∧ A' = 1073741824 ∨ A = 1065353216 ∧ A' = 1065353216 ∨ A = 1073741824 ∧ A' = 1056964608) (hO : Q 146 O ω) (hω : ω.natAbs ≤ 32) :
    (∃ v, floatBits .quo .f32 (Go.Op.negFloat .f32 O) A = some v) ∧ (∃ v, floatBits .mul .f32 A' O = some v) ∧ ∃ e k, Q e (quov (Go.Op.negFloat .f32 O) A) (-k) ∧ Q e (mulv A' O) k ∧ k.natAbs ≤ 128 ∧ k.natAbs * 2 ^ e ≤ 2 ^ 153 ∧ e ≤ 240 := by
  have hn := hO.neg
  rcases hA with ⟨rfl, rfl⟩ | ⟨rfl, rfl⟩ | ⟨rfl, rfl⟩ | ⟨rfl, rfl⟩
  · have r1 : single.read 1048576000 = .number false 8388608 (-25) := by decide +kernel
    have q4 : Q 149 1082130432 4 := Flt.q_word (by decide) (show single.read 1082130432 = .number false 8388608 (-21) by decide +kernel) (by decide +kernel)
    obtain ⟨a, a1, a2⟩ := hn.quo (f := 148) r1 (by omega) (by decide) (by decide)
    obtain ⟨b, b1, b2⟩ := q4.mul hO (by omega) (by decide) (by decide)
    refine ⟨⟨a, a1⟩, ⟨b, b1⟩, 146, 4 * ω, ?_, ?_, by omega, ?_, by decide⟩
    · have := a2.lift 2 (by decide)
      unfold quov; rw [a1]
      rw [show -(4 * ω) = -ω * 2 ^ 2 by omega]
      exact this
    · unfold mulv; rw [b1]; exact b2
    · exact Nat.le_trans (Nat.mul_le_mul_right (2 ^ 146) (show (4 * ω).natAbs ≤ 128 by omega)) (by decide)
  · have r1 : single.read 1056964608 = .number false 8388608 (-24) := by decide +kernel
    have q4 : Q 149 1073741824 2 := Flt.q_word (by decide) (show single.read 1073741824 = .number false 8388608 (-22) by decide +kernel) (by decide +kernel)
    obtain ⟨a, a1, a2⟩ := hn.quo (f := 147) r1 (by omega) (by decide) (by decide)
    obtain ⟨b, b1, b2⟩ := q4.mul hO (by omega) (by decide) (by decide)
    refine ⟨⟨a, a1⟩, ⟨b, b1⟩, 146, 2 * ω, ?_, ?_, by omega, ?_, by decide⟩
    · have := a2.lift 1 (by decide)
      unfold quov; rw [a1]
      rw [show -(2 * ω) = -ω * 2 ^ 1 by omega]
      exact this
    · unfold mulv; rw [b1]; exact b2
    · exact Nat.le_trans (Nat.mul_le_mul_right (2 ^ 146) (show (2 * ω).natAbs ≤ 128 by omega)) (by decide)
  · have r1 : single.read 1065353216 = .number false 8388608 (-23) := by decide +kernel
    obtain ⟨a, a1, a2⟩ := hn.quo (f := 146) r1 (by omega) (by decide) (by decide)
    obtain ⟨b, b1, b2⟩ := q_one.mul hO (by omega) (by decide) (by decide)
    refine ⟨⟨a, a1⟩, ⟨b, b1⟩, 146, 1 * ω, ?_, ?_, by omega, ?_, by decide⟩
    · unfold quov; rw [a1]
      rw [show -(1 * ω) = -ω by omega]
      exact a2
    · unfold mulv; rw [b1]; exact b2
    · exact Nat.le_trans (Nat.mul_le_mul_right (2 ^ 146) (show (1 * ω).natAbs ≤ 128 by omega)) (by decide)
  · have r1 : single.read 1073741824 = .number false 8388608 (-22) := by decide +kernel
    have q4 : Q 148 1056964608 1 := Flt.q_word (by decide) (show single.read 1056964608 = .number false 8388608 (-24) by decide +kernel) (by decide +kernel)
    obtain ⟨a, a1, a2⟩ := hn.quo (f := 145) r1 (by omega) (by decide) (by decide)
    obtain ⟨b, b1, b2⟩ := q4.mul hO (by omega) (by decide) (by decide)
    refine ⟨⟨a, a1⟩, ⟨b, b1⟩, 145, 1 * ω, ?_, ?_, by omega, ?_, by decide⟩
    · unfold quov; rw [a1]
      rw [show -(1 * ω) = -ω by omega]
      exact a2
    · unfold mulv; rw [b1]; exact b2
    · exact Nat.le_trans (Nat.mul_le_mul_right (2 ^ 145) (show (1 * ω).natAbs ≤ 128 by omega)) (by decide)
theorem undo_zero {A A' O s : Nat} {ω : Int} (hA : A = 1048576000 ∧ A' = 1082130432 ∨ A = 1056964608 ∧ A' = 1073741824 ∨ A = 1065353216 ∧ A' = 1065353216 ∨ A = 1073741824 ∧ A' = 1056964608) (hO : Q 146 O ω) (hω : ω.natAbs ≤ 32)
    (hs : Res .add (mulv A' O) (quov (Go.Op.negFloat .f32 O) A) s) : single.order s 0 = some .eq := by
  obtain ⟨_, _, e, k, k1, k2, k3, _, he⟩ := undo_offset hA hO hω
  obtain ⟨r, h1, h2⟩ := k2.add k1 (by omega) he
  obtain rfl := res_some hs h1
  rw [show k + -k = 0 by omega] at h2
  exact h2.eq (Q.zero e)
/-- A times its reciprocal. -/
theorem undo_gain {A A' : Nat} (hA : A = 1048576000 ∧ A' = 1082130432 ∨ A = 1056964608 ∧ A' = 1073741824 ∨ A = 1065353216 ∧ A' = 1065353216 ∨ A = 1073741824 ∧ A' = 1056964608) : floatBits .quo .f32 1065353216 A = some A' ∧ floatBits .mul .f32 A A' = some 1065353216 ∧ floatBits .mul .f32 A' A = some 1065353216 := by
  rcases hA with ⟨rfl, rfl⟩ | ⟨rfl, rfl⟩ | ⟨rfl, rfl⟩ | ⟨rfl, rfl⟩ <;> decide +kernel
/-- A channel without gain: the samples of plain rows stay. -/
theorem plain_through {cs : List C3} (hp : PlainR cs) : (∀ x ∈ txs ⟨1065353216, 0, 1065353216, 0⟩ (enc cs), fin1 x = true) ∧ EqL (txs ⟨1065353216, 0, 1065353216, 0⟩ (enc cs)) (enc cs) := by
  have q1 : Q 147 1065353216 4 := q_one.lift 2 (by decide)
  have hh : PlainH ⟨1065353216, 0, 1065353216, 0⟩ 4 0 4 0 := ⟨⟨q1, Q.zero _, q1, Q.zero _⟩, ⟨by decide, by decide⟩, by decide, by decide, by decide⟩
  have key : ∀ c ∈ cs, ∃ y a b : Int, QC 143 (txC ⟨1065353216, 0, 1065353216, 0⟩ (back c)) y a b ∧ QC 143 c y a b ∧ y.natAbs ≤ 8448 ∧ a.natAbs ≤ 8192 ∧ b.natAbs ≤ 8192 := by
    intro c hc
    obtain ⟨y, a, b, hpc⟩ := hp c hc
    obtain ⟨b1, b2, b3⟩ := hpc.2.2.2
    obtain ⟨k1, c1, c2, c3⟩ := one_tx hh hpc.qc b1 b2 b3
    refine ⟨_, _, _, k1, ?_, c1, c2, c3⟩
    obtain ⟨p1, p2, p3⟩ := hpc.qc
    refine ⟨?_, ?_, ?_⟩
    · have := p1.lift 2 (by decide)
      rwa [show y * 2 ^ 2 = 4 * y + 0 * 2 ^ 3 by omega] at this
    · have := p2.lift 2 (by decide)
      rwa [show a * 2 ^ 2 = a * 4 - b * 0 by omega] at this
    · have := p3.lift 2 (by decide)
      rwa [show b * 2 ^ 2 = a * 0 + b * 4 by omega] at this
  rw [txs_enc]
  refine ⟨all_enc fun c hc => ?_, ?_⟩
  · obtain ⟨y, a, b, k1, _, d1, d2, d3⟩ := key c hc
    exact k1.fins (by decide) (by omega) (by omega) (by omega) (lim_ok _ 143 (by omega) (by decide)) (lim_ok _ 143 (by omega) (by decide))
  · have := EqL.enc (f := fun c => txC ⟨1065353216, 0, 1065353216, 0⟩ (back c)) (g := id) (cs := cs) fun c hc => by
      obtain ⟨y, a, b, k1, k2, d1, d2, d3⟩ := key c hc
      exact ⟨rfl, fun i hi hi' => k1.same k2 (by decide) (by omega) (by omega) (by omega) i hi hi'⟩
    rwa [List.map_id] at this
end Go.Proofs.Ytgecclccmmcdoaa

/-
  What is proved: what the model draws as a channel of small dyadic numbers.
  Conditions: the cursor's block holds a cursor.
-/
namespace Go.Proofs.Ytgecclccmmcdoaa
set_option linter.unusedVariables false
open Go.RowKit
open Flt (Q)
attribute [local go_sem] run_store_float run_store_complex unary_negf neg256

theorem Flt.Q.down {e j x : Nat} {a : Int} (h : Flt.Q e x (a * 2 ^ j)) : Flt.Q (e + j) x a := by
  obtain ⟨h0, s, u, hx, ha⟩ := h
  exact ⟨h0, s, u, hx, by rw [ha, Int.mul_assoc, Flt.pow_cast, Flt.pow_cast, Flt.pow_cast, ← Int.natCast_mul, ← Nat.pow_add, Nat.add_comm j e]⟩
theorem q_int {n : Int} (h : n.natAbs < 2 ^ 20) : Q 149 (floatOfInt .f32 n) n := by
  have h1 := (Flt.Sx.ofInt h).q
  have e : 16 * n = n * 2 ^ 4 := by omega
  rw [e] at h1
  exact h1.down
theorem quarter {n : Int} (h : n.natAbs < 2 ^ 20) : ∃ r, floatBits .quo .f32 (floatOfInt .f32 n) 1082130432 = some r ∧ Q 147 r n := by
  obtain ⟨r, h1, h2⟩ := (q_int h).quo (f := 147) (show Ieee.single.read 1082130432 = .number false 8388608 (-21) by decide +kernel) (by omega) (by decide) (by decide)
  exact ⟨r, h1, h2⟩
theorem eighth {n : Int} (h : n.natAbs < 2 ^ 20) : ∃ r, floatBits .quo .f32 (floatOfInt .f32 n) 1090519040 = some r ∧ Q 146 r n := by
  obtain ⟨r, h1, h2⟩ := (q_int h).quo (f := 146) (show Ieee.single.read 1090519040 = .number false 8388608 (-20) by decide +kernel) (by omega) (by decide) (by decide)
  exact ⟨r, h1, h2⟩
/-- The gains of brightness that are drawn. -/
def GainOf (A : Nat) (α : Int) : Prop := A = 1048576000 ∧ α = 1 ∨ A = 1056964608 ∧ α = 2 ∨ A = 1065353216 ∧ α = 4 ∨ A = 1073741824 ∧ α = 8
theorem gain_quo {n : Int} (h : n = 1 ∨ n = 2 ∨ n = 4 ∨ n = 8) : ∃ r, floatBits .quo .f32 (floatOfInt .f32 n) 1082130432 = some r ∧ GainOf r n := by
  rcases h with rfl | rfl | rfl | rfl
  · exact ⟨1048576000, by decide +kernel, .inl ⟨rfl, rfl⟩⟩
  · exact ⟨1056964608, by decide +kernel, .inr (.inl ⟨rfl, rfl⟩)⟩
  · exact ⟨1065353216, by decide +kernel, .inr (.inr (.inl ⟨rfl, rfl⟩))⟩
  · exact ⟨1073741824, by decide +kernel, .inr (.inr (.inr ⟨rfl, rfl⟩))⟩
theorem GainOf.q {A : Nat} {α : Int} (h : GainOf A α) : Q 147 A α := by
  rcases h with ⟨rfl, rfl⟩ | ⟨rfl, rfl⟩ | ⟨rfl, rfl⟩ | ⟨rfl, rfl⟩
  · exact Flt.q_word (by decide) (show Ieee.single.read 1048576000 = .number false 8388608 (-25) by decide +kernel) (by decide +kernel)
  · exact Flt.q_word (by decide) (show Ieee.single.read 1056964608 = .number false 8388608 (-24) by decide +kernel) (by decide +kernel)
  · exact Flt.q_word (by decide) (show Ieee.single.read 1065353216 = .number false 8388608 (-23) by decide +kernel) (by decide +kernel)
  · exact Flt.q_word (by decide) (show Ieee.single.read 1073741824 = .number false 8388608 (-22) by decide +kernel) (by decide +kernel)
/-- A channel of small dyadic numbers. -/
def PlainC (h : Chn) : Prop := ∃ α ω ξ η, PlainH h α ω ξ η ∧ GainOf h.A α
theorem PlainC.mk {A O X Y : Nat} {α ω ξ η : Int} (hA : GainOf A α) (hO : Q 146 O ω) (hX : Q 147 X ξ) (hY : Q 147 Y η) (h1 : ω.natAbs ≤ 32) (h2 : ξ.natAbs ≤ 8) (h3 : η.natAbs ≤ 8) : PlainC ⟨A, O, X, Y⟩ := by
  refine ⟨α, ω, ξ, η, ⟨⟨hA.q, hO, hX, hY⟩, ?_, h1, h2, h3⟩, hA⟩
  rcases hA with ⟨_, rfl⟩ | ⟨_, rfl⟩ | ⟨_, rfl⟩ | ⟨_, rfl⟩ <;> decide
def Four (x : Int) : Prop := x = 1 ∨ x = 2 ∨ x = 4 ∨ x = 8
def chV (h : Chn) : Value := .agg #[.float .f32 h.A, .float .f32 h.O, .complex .f32 h.X h.Y]
def ChPost (b : Nat) (w : World) (e : Ending) (w' : World) : Prop := ∃ A O X Y, PlainC ⟨A, O, X, Y⟩ ∧ e = .returned (.agg #[.float .f32 A, .float .f32 O, .complex .f32 X Y]) ∧ Cur w' b ∧ w.grownBy w' (some b)
set_option maxHeartbeats 400000 in
theorem l05Plain_any (b : Nat) (w : World) (hc : Cur w b) :
    Calls Try.prog 52 #[.pointer (some ⟨b, 0, none⟩)] w fun e w' => ChPost b w e w' := by
  have hlt := hc.lt
  have hcA := hc.alloc (.cells #[.float .f32 0, .float .f32 0, .complex .f32 0 0] 29)
  have hgA := World.grownBy_alloc w (.cells #[.float .f32 0, .float .f32 0, .complex .f32 0 0] 29) (some b)
  have hnew := heap_alloc_new w (.cells #[.float .f32 0, .float .f32 0, .complex .f32 0 0] 29)
  have hsA : w.heap.size < (w.alloc (.cells #[.float .f32 0, .float .f32 0, .complex .f32 0 0] 29)).heap.size := by simp
  have hszA : (w.alloc (.cells #[.float .f32 0, .float .f32 0, .complex .f32 0 0] 29)).heap.size = w.heap.size + 1 := by simp
  have HN := Lib.hid hnew
  clear hc hnew
  go_enter Try.func52, Try.ntmps52
  go_wp2_with fail
  generalize w.alloc (.cells #[.float .f32 0, .float .f32 0, .complex .f32 0 0] 29) = wA at *
  have hnl := Nums.lit (P := Four) wA 3 [1, 2, 4, 8] (by unfold Four; decide)
  rw [hszA] at hnl
  have HNL := Lib.hid hnl
  clear hnl hszA
  refine (l01PickInt_any Four b _ 4 4 _ (hcA.alloc _) (by decide) (by decide) (by have := hcA.lt; omega) (by decide) HNL.out).mono ?_
  rintro e w1 ⟨x1, hx1, rfl, hc1, hgx⟩
  have hg1 := (World.grownBy_alloc wA (.cells #[.int .i64 1, .int .i64 2, .int .i64 4, .int .i64 8] 3) (some b)).trans hgx
  obtain ⟨A, hA, gA⟩ := gain_quo hx1
  have qA := fun W => run_float_arith (P := Try.prog) W .quo 26 .f32 _ _ _ hA
  have HA := Lib.hid gA
  clear hA gA hx1 hgx HNL
  go_wp2_with fail
  refine (l01Below_any b _ _ hc1 (by decide) (by decide)).mono ?_
  rintro e w2 ⟨x2, hx2, _, rfl, hc2, hg2⟩
  have hx2 := hx2 (by decide)
  obtain ⟨X, hX, qX⟩ := quarter (n := (x2 : Int) - 8) (by omega)
  have qx := fun W => run_float_arith (P := Try.prog) W .quo 26 .f32 _ _ _ hX
  have HX := Lib.hid qX
  clear hX qX
  go_wp2_with fail
  refine (l01Below_any b _ _ hc2 (by decide) (by decide)).mono ?_
  rintro e w3 ⟨x3, hx3, _, rfl, hc3, hg3⟩
  have hx3 := hx3 (by decide)
  obtain ⟨O, hO, qO⟩ := eighth (n := (x3 : Int) - 32) (by omega)
  have qo := fun W => run_float_arith (P := Try.prog) W .quo 26 .f32 _ _ _ hO
  have HO := Lib.hid qO
  clear hO qO
  go_wp2_with fail
  refine (l01Below_any b _ _ hc3 (by decide) (by decide)).mono ?_
  rintro e w4 ⟨x4, hx4, _, rfl, hc4, hg4⟩
  have hx4 := hx4 (by decide)
  obtain ⟨Y, hY, qY⟩ := quarter (n := (x4 : Int) - 8) (by omega)
  have qy := fun W => run_float_arith (P := Try.prog) W .quo 26 .f32 _ _ _ hY
  have HY := Lib.hid qY
  clear hY qY
  have hg := ((hg1.trans hg2).trans hg3).trans hg4
  have hB : w4.heap[w.heap.size]? = some (.cells #[.float .f32 0, .float .f32 0, .complex .f32 0 0] 29 (0, 0)) := (hg.block _ hsA (by intro h; cases h; omega)).trans HN.out
  have c0 : w4.cell? ⟨w.heap.size, 0, none⟩ = some (.float .f32 0) := by simp [World.cell?, hB]
  have c1 : w4.cell? ⟨w.heap.size, 1, none⟩ = some (.float .f32 0) := by simp [World.cell?, hB]
  have c2 : w4.cell? ⟨w.heap.size, 2, none⟩ = some (.complex .f32 0 0) := by simp [World.cell?, hB]
  have f0 : w4.frozen? ⟨w.heap.size, 0, none⟩ = false := by simp [World.frozen?, hB]
  have f1 : w4.frozen? ⟨w.heap.size, 1, none⟩ = false := by simp [World.frozen?, hB]
  have f2 : w4.frozen? ⟨w.heap.size, 2, none⟩ = false := by simp [World.frozen?, hB]
  have hB2 := heap_put (i := 2) (v := .complex .f32 X Y) (heap_put (i := 1) (v := .float .f32 O) (heap_put (i := 0) (v := .float .f32 A) hB))
  have hgr := grown_set (grown_set (grown_set (hgA.trans hg) (p := ⟨w.heap.size, 0, none⟩) (Nat.le_refl _) (.float .f32 A)) (p := ⟨w.heap.size, 1, none⟩) (Nat.le_refl _) (.float .f32 O)) (p := ⟨w.heap.size, 2, none⟩) (Nat.le_refl _) (.complex .f32 X Y)
  have hcr := ((hc4.set (p := ⟨w.heap.size, 0, none⟩) hlt (.float .f32 A)).set (p := ⟨w.heap.size, 1, none⟩) hlt (.float .f32 O)).set (p := ⟨w.heap.size, 2, none⟩) hlt (.complex .f32 X Y)
  have HPC := Lib.hid (PlainC.mk HA.out HO.out HX.out HY.out (by omega) (by omega) (by omega))
  clear hB hc1 hc2 hc3 hc4 hg1 hg2 hg3 hg4 hg hgA hcA
  have HB := Lib.hid hB2
  clear hB2
  go_wp2
  generalize (((w4.setCell ⟨w.heap.size, 0, none⟩ (.float .f32 A)).setCell ⟨w.heap.size, 1, none⟩ (.float .f32 O)).setCell ⟨w.heap.size, 2, none⟩ (.complex .f32 X Y)) = w5 at *
  have d0 : w5.cell? ⟨w.heap.size, 0, none⟩ = some (.float .f32 A) := by have := HB.out; simp [World.cell?, this]
  have d1 : w5.cell? ⟨w.heap.size, 1, none⟩ = some (.float .f32 O) := by have := HB.out; simp [World.cell?, this]
  have d2 : w5.cell? ⟨w.heap.size, 2, none⟩ = some (.complex .f32 X Y) := by have := HB.out; simp [World.cell?, this]
  refine bodyPost_ret (v := .agg #[.float .f32 A, .float .f32 O, .complex .f32 X Y]) ?_ rfl ⟨A, O, X, Y, HPC.out, rfl, hcr, hgr⟩
  simp [results, Try.results52, go_sem, d0, d1, d2]
end Go.Proofs.Ytgecclccmmcdoaa

/-
  What is proved: the walks of the program's Times and Power.
  Conditions: none.
-/
namespace Go.Proofs.Ytgecclccmmcdoaa
set_option linter.unusedVariables false
open Go.RowKit
attribute [local go_sem] run_store_float run_store_complex unary_negf neg256

/-- What Times tells. -/
def TimesA (a b x y : Nat) (w : World) (e : Ending) (w' : World) : Prop := ∃ re im, e = .returned (.complex .f32 re im) ∧ (TimesR a b x y re im ∧ re < 2 ^ 32 ∧ im < 2 ^ 32) ∧ ∃ n, w' = w.drewN n
set_option maxHeartbeats 1000000 in
theorem times_any (a b x y : Nat) (w : World) :
    Calls Try.prog 179 #[.complex .f32 a b, .complex .f32 x y] w fun e w' => TimesA a b x y w e w' := by
  go_enter Try.func179, Try.ntmps179
  obtain ⟨m1, n1, e1, R1, B1⟩ := run_res .mul (.inr (.inr (.inl rfl))) a x w
  obtain ⟨m2, n2, e2, R2, B2⟩ := run_res .mul (.inr (.inr (.inl rfl))) b y (w.drewN (n1))
  rw [drewN_addD] at e2
  obtain ⟨re, n3, e3, R3, B3⟩ := run_res .sub (.inr (.inl rfl)) m1 m2 (w.drewN (n1 + n2))
  rw [drewN_addD] at e3
  obtain ⟨m3, n4, e4, R4, B4⟩ := run_res .mul (.inr (.inr (.inl rfl))) a y (w.drewN (n1 + n2 + n3))
  rw [drewN_addD] at e4
  obtain ⟨m4, n5, e5, R5, B5⟩ := run_res .mul (.inr (.inr (.inl rfl))) b x (w.drewN (n1 + n2 + n3 + n4))
  rw [drewN_addD] at e5
  obtain ⟨im, n6, e6, R6, B6⟩ := run_res .add (.inl rfl) m3 m4 (w.drewN (n1 + n2 + n3 + n4 + n5))
  rw [drewN_addD] at e6
  have HR := Lib.hid (show TimesR a b x y re im ∧ re < 2 ^ 32 ∧ im < 2 ^ 32 from ⟨⟨m1, m2, m3, m4, R1, R2, R3, R4, R5, R6⟩, B3, B6⟩)
  clear R1 R2 R3 R4 R5 R6 B1 B2 B3 B4 B5 B6
  go_wp2
  go_ret
  exact ⟨re, im, rfl, HR.out, _, rfl⟩
def PowA (x y : Nat) (w : World) (e : Ending) (w' : World) : Prop := ∃ p, e = .returned (.float .f32 p) ∧ (PowR x y p ∧ p < 2 ^ 32) ∧ ∃ n, w' = w.drewN n
end Go.Proofs.Ytgecclccmmcdoaa
