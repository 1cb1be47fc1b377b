/-
  What is proved: a line of small dyadic numbers that came through a channel of such is brought to level exactly.
  Conditions: those that each fact names.
-/
import Derived.Test.YtgecclccmmcdoaaPkMake
import Derived.Test.YtgecclccmmcdoaaPkCh
import Derived.Test.YtgecclccmmcdoaaSpecLevel
import Derived.Test.YtgecclccmmcdoaaSampOk
namespace Go.Proofs.Ytgecclccmmcdoaa
set_option linter.unusedVariables false
open Go.RowKit
open Flt (Q Mag sumv subv mulv quov)

/-- Each number of a list is a whole one times a power of two. -/
def QL (e : Nat) : List Nat → List Int → Prop
  | [], [] => True
  | x :: xs, k :: ks => Q e x k ∧ QL e xs ks
  | _, _ => False
theorem QL.len {e : Nat} : ∀ {xs : List Nat} {ks : List Int}, QL e xs ks → xs.length = ks.length
  | [], [], _ => rfl
  | _ :: _, _ :: _, h => by rw [List.length_cons, List.length_cons, QL.len h.2]
  | [], _ :: _, h => h.elim
  | _ :: _, [], h => h.elim
theorem QL.append {e : Nat} : ∀ {xs : List Nat} {ks : List Int} {ys : List Nat} {ls : List Int}, QL e xs ks → QL e ys ls → QL e (xs ++ ys) (ks ++ ls)
  | [], [], _, _, _, h => h
  | _ :: _, _ :: _, _, _, h, h' => ⟨h.1, QL.append h.2 h'⟩
  | [], _ :: _, _, _, h, _ => h.elim
  | _ :: _, [], _, _, h, _ => h.elim
theorem QL.get {e : Nat} : ∀ {xs : List Nat} {ks : List Int}, QL e xs ks → ∀ i (h : i < xs.length) (h' : i < ks.length), Q e xs[i] ks[i]
  | _ :: _, _ :: _, h, 0, _, _ => h.1
  | _ :: _, _ :: _, h, i + 1, h1, h2 => QL.get h.2 i (by simpa using h1) (by simpa using h2)
  | [], [], _, i, h1, _ => absurd h1 (by simp)
  | [], _ :: _, h, _, _, _ => h.elim
  | _ :: _, [], h, _, _, _ => h.elim
theorem QL.drop {e : Nat} : ∀ (n : Nat) {xs : List Nat} {ks : List Int}, QL e xs ks → QL e (xs.drop n) (ks.drop n)
  | 0, _, _, h => h
  | n + 1, [], [], _ => trivial
  | n + 1, _ :: _, _ :: _, h => QL.drop n h.2
  | _ + 1, [], _ :: _, h => h.elim
  | _ + 1, _ :: _, [], h => h.elim
theorem QL.take {e : Nat} : ∀ (n : Nat) {xs : List Nat} {ks : List Int}, QL e xs ks → QL e (xs.take n) (ks.take n)
  | 0, _, _, _ => trivial
  | n + 1, [], [], _ => trivial
  | n + 1, _ :: _, _ :: _, h => ⟨h.1, QL.take n h.2⟩
  | _ + 1, [], _ :: _, h => h.elim
  | _ + 1, _ :: _, [], h => h.elim
theorem QL.map {e f : Nat} {F : Nat → Nat} {G : Int → Int} : ∀ {xs : List Nat} {ks : List Int}, QL e xs ks → (∀ x ∈ xs, ∀ k ∈ ks, Q e x k → Q f (F x) (G k)) → QL f (xs.map F) (ks.map G)
  | [], [], _, _ => trivial
  | x :: xs, k :: ks, h, hF => ⟨hF x (by simp) k (by simp) h.1, QL.map h.2 fun y hy l hl => hF y (by simp [hy]) l (by simp [hl])⟩
  | [], _ :: _, h, _ => h.elim
  | _ :: _, [], h, _ => h.elim
def ksum : List Int → Int
  | [] => 0
  | k :: ks => k + ksum ks
theorem ksum_append : ∀ (a b : List Int), ksum (a ++ b) = ksum a + ksum b
  | [], b => by simp [ksum]
  | k :: a, b => by show k + ksum (a ++ b) = k + ksum a + ksum b; rw [ksum_append a b]; omega
theorem ksum_le {B : Nat} : ∀ (ks : List Int), (∀ k ∈ ks, k.natAbs ≤ B) → (ksum ks).natAbs ≤ ks.length * B
  | [], _ => by simp [ksum]
  | k :: ks, h => by
    have h1 := h k (by simp)
    have h2 := ksum_le ks fun x hx => h x (by simp [hx])
    show (k + ksum ks).natAbs ≤ (ks.length + 1) * B
    rw [Nat.succ_mul]
    omega
theorem q_sumK {e B : Nat} {xs : List Nat} {ks : List Int} (h : QL e xs ks) (hB : ∀ k ∈ ks, k.natAbs ≤ B) (hs : ks.length * B < 2 ^ 24) (he : e ≤ 240) : ∀ k, k < xs.length → Q e (sumK xs k) (ksum (ks.take (k + 1)))
  | 0, hk => by
    have hk' : 0 < ks.length := by rw [← h.len]; exact hk
    have h1 := h.get 0 hk hk'
    rw [List.take_succ_eq_append_getElem hk']
    have e0 : sumK xs 0 = xs[0] := by unfold sumK; rw [List.getD_eq_getElem?_getD, List.getElem?_eq_getElem hk]; rfl
    rw [e0]
    simpa [ksum] using h1
  | k + 1, hk => by
    have hk' : k + 1 < ks.length := by rw [← h.len]; exact hk
    have h1 := h.get (k + 1) hk hk'
    have h2 := q_sumK h hB hs he k (by omega)
    have e0 : sumK xs (k + 1) = sumv (sumK xs k) xs[k + 1] := by
      show sumv (sumK xs k) (xs.getD (k + 1) 0) = _
      rw [List.getD_eq_getElem?_getD, List.getElem?_eq_getElem hk]; rfl
    rw [e0, List.take_succ_eq_append_getElem hk', ksum_append, show ksum [ks[k + 1]] = ks[k + 1] by simp [ksum]]
    refine q_sumv h2 h1 ?_ he
    have hb := ksum_le (ks.take (k + 1) ++ [ks[k + 1]]) (B := B) fun x hx => by
      rcases List.mem_append.1 hx with hx | hx
      · exact hB x (List.mem_of_mem_take hx)
      · rw [List.mem_singleton.1 hx]; exact hB _ (List.getElem_mem hk')
    rw [ksum_append, show ksum [ks[k + 1]] = ks[k + 1] by simp [ksum]] at hb
    refine Nat.lt_of_le_of_lt hb (Nat.lt_of_le_of_lt (Nat.mul_le_mul_right B ?_) hs)
    rw [List.length_append, List.length_take]
    simp
    omega
theorem q_sumF {e B : Nat} {xs : List Nat} {ks : List Int} (h : QL e xs ks) (h0 : 0 < xs.length) (hB : ∀ k ∈ ks, k.natAbs ≤ B) (hs : ks.length * B < 2 ^ 24) (he : e ≤ 240) : Q e (sumF xs) (ksum ks) := by
  have := q_sumK h hB hs he (xs.length - 1) (by omega)
  rwa [List.take_of_length_le (by rw [← h.len]; omega)] at this
abbrev I3 := Int × Int × Int
/-- The samples of a cell of whole numbers. -/
def encI (c : I3) : List Int := [c.1 + c.2.1, c.1 - c.2.2, c.1 - c.2.1, c.1 + c.2.2]
/-- Cells that are plain, and the sixteenths that they are. -/
def CellsQ : List C3 → List I3 → Prop
  | [], [] => True
  | c :: cs, k :: ks => PC c k.1 k.2.1 k.2.2 ∧ CellsQ cs ks
  | _, _ => False
theorem CellsQ.append : ∀ {cs : List C3} {ks : List I3} {ds : List C3} {ls : List I3}, CellsQ cs ks → CellsQ ds ls → CellsQ (cs ++ ds) (ks ++ ls)
  | [], [], _, _, _, h => h
  | _ :: _, _ :: _, _, _, h, h' => ⟨h.1, CellsQ.append h.2 h'⟩
  | [], _ :: _, _, _, h, _ => h.elim
  | _ :: _, [], _, _, h, _ => h.elim
theorem cellsQ_of {cs : List C3} (h : PlainR cs) : ∃ ks, CellsQ cs ks := by
  induction cs with
  | nil => exact ⟨[], trivial⟩
  | cons c cs ih =>
    obtain ⟨ks, hk⟩ := ih fun d hd => h d (by simp [hd])
    obtain ⟨a, b, d, hp⟩ := h c (by simp)
    exact ⟨(a, b, d) :: ks, hp, hk⟩
theorem CellsQ.samples : ∀ {cs : List C3} {ks : List I3}, CellsQ cs ks → QL 145 (enc cs) (ks.flatMap encI) ∧ ∀ k ∈ ks.flatMap encI, k.natAbs ≤ 1536
  | [], [], _ => ⟨trivial, fun k hk => by cases hk⟩
  | c :: cs, k :: ks, h => by
    obtain ⟨h1, h2⟩ := h
    obtain ⟨i1, i2⟩ := CellsQ.samples h2
    obtain ⟨b1, b2, b3⟩ := h1.2.2.2
    obtain ⟨e1, e2, e3, e4⟩ := h1.qc.enc (by decide) (by omega) (by omega) (by omega)
    refine ⟨QL.append (xs := enc4 c) (ks := encI k) ⟨e1, e2, e3, e4, trivial⟩ i1, fun s hs => ?_⟩
    rcases List.mem_append.1 (show s ∈ encI k ++ ks.flatMap encI from hs) with hs | hs
    · simp only [encI, List.mem_cons, List.mem_nil_iff, or_false] at hs
      omega
    · exact i2 s hs
  | [], _ :: _, h => h.elim
  | _ :: _, [], h => h.elim
theorem CellsQ.tx {h : Chn} {α ω : Int} (hh : PlainH h α ω α 0) : ∀ {cs : List C3} {ks : List I3}, CellsQ cs ks → QL 143 (txs h (enc cs)) ((ks.flatMap encI).map fun s => α * s + 8 * ω)
  | [], [], _ => trivial
  | c :: cs, k :: ks, hc => by
    obtain ⟨h1, h2⟩ := hc
    have i1 := CellsQ.tx hh h2
    rw [txs_enc] at i1 ⊢
    obtain ⟨b1, b2, b3⟩ := h1.2.2.2
    obtain ⟨k1, c1, c2, c3⟩ := one_tx hh h1.qc b1 b2 b3
    obtain ⟨e1, e2, e3, e4⟩ := k1.enc (by decide) (by omega) (by omega) (by omega)
    show QL 143 (enc4 (txC h (back c)) ++ enc (cs.map fun c => txC h (back c))) ((encI k ++ ks.flatMap encI).map _)
    rw [List.map_append]
    refine QL.append ⟨?_, ?_, ?_, ?_, trivial⟩ i1
    · show Q 143 _ (α * (k.1 + k.2.1) + 8 * ω)
      rwa [show α * k.1 + ω * 2 ^ 3 + (k.2.1 * α - k.2.2 * 0) = α * (k.1 + k.2.1) + 8 * ω by rw [Int.mul_add, Int.mul_comm k.2.1 α]; omega] at e1
    · show Q 143 _ (α * (k.1 - k.2.2) + 8 * ω)
      rwa [show α * k.1 + ω * 2 ^ 3 - (k.2.1 * 0 + k.2.2 * α) = α * (k.1 - k.2.2) + 8 * ω by rw [Int.mul_sub, Int.mul_comm k.2.2 α]; omega] at e2
    · show Q 143 _ (α * (k.1 - k.2.1) + 8 * ω)
      rwa [show α * k.1 + ω * 2 ^ 3 - (k.2.1 * α - k.2.2 * 0) = α * (k.1 - k.2.1) + 8 * ω by rw [Int.mul_sub, Int.mul_comm k.2.1 α]; omega] at e3
    · show Q 143 _ (α * (k.1 + k.2.2) + 8 * ω)
      rwa [show α * k.1 + ω * 2 ^ 3 + (k.2.1 * 0 + k.2.2 * α) = α * (k.1 + k.2.2) + 8 * ω by rw [Int.mul_add, Int.mul_comm k.2.2 α]; omega] at e4
  | [], _ :: _, h => h.elim
  | _ :: _, [], h => h.elim
end Go.Proofs.Ytgecclccmmcdoaa
