/-
  What is proved: dyadic cells come through dyadic channels exactly.
  Conditions: the numbers have few binary digits.
-/
import Derived.Test.YtnedmhhodmmddaaTx
import Derived.Test.YtnedmhhodmmddaaEnc
namespace Go.Proofs.Ytnedmhhodmmddaa
set_option linter.unusedVariables false
open Go.RowKit
open Flt (Mag sumv subv mulv quov Q)

/-- The bits of a channel: A, Offset, and the parts of G. -/
structure Chn where
  A : Nat
  O : Nat
  X : Nat
  Y : Nat
def timesRe (a b x y : Nat) : Nat := subv (mulv a x) (mulv b y)
def timesIm (a b x y : Nat) : Nat := sumv (mulv a y) (mulv b x)
/-- What a cell becomes on a channel. -/
def txC (h : Chn) (c : C3) : C3 := (sumv (mulv h.A c.1) h.O, timesRe c.2.1 c.2.2 h.X h.Y, timesIm c.2.1 c.2.2 h.X h.Y)
def tx4 (h : Chn) (s t u v : Nat) : List Nat := enc4 (txC h (decOf s t u v))
/-- What samples become on a channel. -/
def txs (h : Chn) : List Nat → List Nat
  | s :: t :: u :: v :: rest => tx4 h s t u v ++ txs h rest
  | _ => []
theorem addv_sumv (x y : Nat) : addv x y = sumv x y := rfl
theorem enc4_of (c : C3) : enc4 c = [sumv c.1 c.2.1, sumv c.1 (Op.negFloat .f32 c.2.2), sumv c.1 (Op.negFloat .f32 c.2.1), sumv c.1 c.2.2] := rfl
/-- The cell that is told of a cell's own samples. -/
def back (c : C3) : C3 := decOf (sumv c.1 c.2.1) (sumv c.1 (Op.negFloat .f32 c.2.2)) (sumv c.1 (Op.negFloat .f32 c.2.1)) (sumv c.1 c.2.2)
theorem txs_enc (h : Chn) : ∀ cs : List C3, txs h (enc cs) = enc (cs.map fun c => txC h (back c))
  | [] => rfl
  | c :: cs => by
    show txs h (enc4 c ++ enc cs) = enc4 (txC h (back c)) ++ enc (cs.map fun c => txC h (back c))
    rw [enc4_of]
    show tx4 h _ _ _ _ ++ txs h (enc cs) = _
    rw [txs_enc h cs]
    rfl
/-- A cell of dyadic numbers. -/
def QC (e : Nat) (c : C3) (y a b : Int) : Prop := Q e c.1 y ∧ Q e c.2.1 a ∧ Q e c.2.2 b
theorem QC.enc {e : Nat} {c : C3} {y a b : Int} (h : QC e c y a b) (he : e ≤ 240) (hy : y.natAbs ≤ 2 ^ 20) (ha : a.natAbs ≤ 2 ^ 20) (hb : b.natAbs ≤ 2 ^ 20) :
    Q e (sumv c.1 c.2.1) (y + a) ∧ Q e (sumv c.1 (Op.negFloat .f32 c.2.2)) (y - b) ∧ Q e (sumv c.1 (Op.negFloat .f32 c.2.1)) (y - a) ∧ Q e (sumv c.1 c.2.2) (y + b) :=
  ⟨q_sumv h.1 h.2.1 (by omega) he, q_sumv h.1 h.2.2.neg (by omega) he, q_sumv h.1 h.2.1.neg (by omega) he, q_sumv h.1 h.2.2 (by omega) he⟩
theorem QC.back {e : Nat} {c : C3} {y a b : Int} (h : QC e c y a b) (he0 : 2 ≤ e) (he : e ≤ 240) (hy : y.natAbs ≤ 2 ^ 20) (ha : a.natAbs ≤ 2 ^ 20) (hb : b.natAbs ≤ 2 ^ 20) : QC e (back c) y a b := by
  obtain ⟨h1, h2, h3, h4⟩ := h.enc he hy ha hb
  exact q_dec he0 he hy ha hb h1 h2 h3 h4
theorem mul_le {a b : Int} {m n : Nat} (ha : a.natAbs ≤ m) (hb : b.natAbs ≤ n) : (a * b).natAbs ≤ m * n := by
  rw [Int.natAbs_mul]; exact Nat.mul_le_mul ha hb
/-- A channel of dyadic numbers: A and G are multiples of 2 to the g, Offset of 2 to the o. -/
def QH (g o : Nat) (h : Chn) (α ω ξ η : Int) : Prop := Q g h.A α ∧ Q o h.O ω ∧ Q g h.X ξ ∧ Q g h.Y η
theorem q_tx {e g o j : Nat} {h : Chn} {c : C3} {α ω ξ η y a b : Int} (hh : QH g o h α ω ξ η) (hc : QC e c y a b) (h1 : 149 ≤ g + e) (h2 : g + e ≤ 389) (ho : o = g + e - 149 + j)
    (b1 : (α * y).natAbs ≤ 2 ^ 20) (b2 : (ω * 2 ^ j).natAbs ≤ 2 ^ 20) (b3 : (a * ξ).natAbs ≤ 2 ^ 20) (b4 : (b * η).natAbs ≤ 2 ^ 20) (b5 : (a * η).natAbs ≤ 2 ^ 20) (b6 : (b * ξ).natAbs ≤ 2 ^ 20) :
    QC (g + e - 149) (txC h c) (α * y + ω * 2 ^ j) (a * ξ - b * η) (a * η + b * ξ) := by
  obtain ⟨hA, hO, hX, hY⟩ := hh
  obtain ⟨cy, ca, cb⟩ := hc
  have k1 := q_mulv hA cy (by omega) h1 h2
  have k2 := hO.lift j (by omega)
  rw [show o - j = g + e - 149 by omega] at k2
  have f1 := q_mulv ca hX (by omega) (by omega) (by omega)
  have f2 := q_mulv cb hY (by omega) (by omega) (by omega)
  have f3 := q_mulv ca hY (by omega) (by omega) (by omega)
  have f4 := q_mulv cb hX (by omega) (by omega) (by omega)
  rw [show e + g - 149 = g + e - 149 by omega] at f1 f2 f3 f4
  exact ⟨q_sumv k1 k2 (by omega) (by omega), q_subv f1 f2 (by omega) (by omega), q_sumv f3 f4 (by omega) (by omega)⟩
theorem q_fin1 {e x : Nat} {a : Int} (h : Q e x a) (hb : a.natAbs * 2 ^ e ≤ 2 ^ 159) : fin1 x = true := by
  obtain ⟨_, s, u, hx, ha⟩ := h
  have hu : u ≤ 2 ^ 159 := by rw [Flt.q_abs ha]; exact hb
  unfold fin1 lo1 hi1
  rw [Flt.le_iff num_nk2 hx, Flt.le_iff hx num_k2]
  have h1 : Flt.sg true (2 ^ 159) ≤ Flt.sg s u := by
    unfold Flt.sg; cases s <;> simp only [Bool.false_eq_true, if_true, if_false] <;> omega
  have h2 : Flt.sg s u ≤ Flt.sg false (2 ^ 159) := by
    unfold Flt.sg; cases s <;> simp only [Bool.false_eq_true, if_true, if_false] <;> omega
  rw [decide_eq_true h1, decide_eq_true h2]; rfl
theorem QC.fins {e : Nat} {c : C3} {y a b : Int} (h : QC e c y a b) (he : e ≤ 240) (hy : y.natAbs ≤ 2 ^ 20) (ha : a.natAbs ≤ 2 ^ 20) (hb : b.natAbs ≤ 2 ^ 20) (hs : (y.natAbs + a.natAbs) * 2 ^ e ≤ 2 ^ 159) (ht : (y.natAbs + b.natAbs) * 2 ^ e ≤ 2 ^ 159) : ∀ x ∈ enc4 c, fin1 x = true := by
  obtain ⟨h1, h2, h3, h4⟩ := h.enc he hy ha hb
  intro x hx
  rw [enc4_of] at hx
  simp only [List.mem_cons, List.not_mem_nil, or_false] at hx
  have up : ∀ {k m : Nat}, k ≤ m → m * 2 ^ e ≤ 2 ^ 159 → k * 2 ^ e ≤ 2 ^ 159 := fun hk hm => Nat.le_trans (Nat.mul_le_mul_right _ hk) hm
  rcases hx with rfl | rfl | rfl | rfl
  · exact q_fin1 h1 (up (by omega) hs)
  · exact q_fin1 h2 (up (by omega) ht)
  · exact q_fin1 h3 (up (by omega) hs)
  · exact q_fin1 h4 (up (by omega) ht)
/-- Cells of the same dyadic numbers have equal samples. -/
theorem QC.same {e : Nat} {c d : C3} {y a b : Int} (h : QC e c y a b) (h' : QC e d y a b) (he : e ≤ 240) (hy : y.natAbs ≤ 2 ^ 20) (ha : a.natAbs ≤ 2 ^ 20) (hb : b.natAbs ≤ 2 ^ 20) :
    ∀ i (hi : i < (enc4 c).length) (hi' : i < (enc4 d).length), Ieee.single.order (enc4 c)[i] (enc4 d)[i] = some .eq := by
  obtain ⟨h1, h2, h3, h4⟩ := h.enc he hy ha hb
  obtain ⟨g1, g2, g3, g4⟩ := h'.enc he hy ha hb
  intro i hi hi'
  have h0 : i < 4 := hi
  rcases (by omega : i = 0 ∨ i = 1 ∨ i = 2 ∨ i = 3) with rfl | rfl | rfl | rfl
  · exact h1.eq g1
  · exact h2.eq g2
  · exact h3.eq g3
  · exact h4.eq g4
end Go.Proofs.Ytnedmhhodmmddaa
