/-
  What is proved: lists of rows of cells that a call makes, no two of which share memory.
  Conditions: those that each fact names.
-/
import Derived.Test.YtgecclccmmcdoaaPlainOwn
import Derived.Test.YtgecclccmmcdoaaPkGEq
import Derived.Test.YtgecclccmmcdoaaStream
namespace Go.Proofs.Ytgecclccmmcdoaa
set_option linter.unusedVariables false
open Go.RowKit

def LSc : Lay SV := ⟨24, 36, 1, 24, fun s => [s.v]⟩
theorem LSc_ok : LSc.Ok := by
  refine ⟨fun _ => rfl, fun x u hu => ?_, by decide, Try.underlying24, ?_, by decide⟩
  · obtain rfl := List.mem_singleton.1 hu; rfl
  · obtain ⟨i, h1, h2, h3, h4⟩ := info_parts (show (Try.prog.info? 36).map (fun i => (i.zero, i.size, i.bytes)) = some (some (.slice none 0 0), 1, 24) by kernel_rfl)
    exact ⟨i, _, h1, h2, h3, h4, rfl⟩
/-- A list of rows: each is owned, no two share memory, none the list's own. -/
structure GridC (w : World) (base : Nat) (v : Value) (rows : List (List C3)) (ss : List SV) : Prop where
  own : LSc.Own w base v ss
  len : ss.length = rows.length
  row : ∀ i (h : i < ss.length) (h' : i < rows.length), OwnC w base ss[i].v rows[i]
  apart : ∀ i j (h : i < ss.length) (h' : j < ss.length), i ≠ j → ∀ k, ss[i].v.ownBlock = some k → ss[j].v.ownBlock ≠ some k
  out : ∀ i (h : i < ss.length) k, ss[i].v.ownBlock = some k → v.ownBlock ≠ some k
theorem GridC.nil (w : World) : GridC (w.alloc (.cells #[] 36)) w.heap.size (.slice (some ⟨w.heap.size, 0, none⟩) 0 0) [] [] :=
  ⟨LSc.own0 w, rfl, fun i h => absurd h (by simp), fun i j h => absurd h (by simp), fun i h => absurd h (by simp)⟩
theorem GridC.lt {w : World} {base : Nat} {v : Value} {rows : List (List C3)} {ss : List SV} (h : GridC w base v rows ss) : ∀ k, GBlk v ss k → base ≤ k ∧ k < w.heap.size := by
  rintro k (hk | ⟨i, hi, hk⟩)
  · exact h.own.lt k hk
  · exact (h.row i hi (by rw [← h.len]; exact hi)).lt k hk
theorem GridC.turn {w w' : World} {base : Nat} {v : Value} {rows : List (List C3)} {ss : List SV} {S : Nat → Prop} (h : GridC w base v rows ss) (ht : Turn w w' S) (hS : ∀ k, GBlk v ss k → ¬ S k) : GridC w' base v rows ss :=
  ⟨h.own.turn ht (fun k hk => hS k (.inl hk)), h.len, fun i h1 h2 => Lay.Own.turn (L := LC) (h.row i h1 h2) ht (fun k hk => hS k (.inr ⟨i, h1, hk⟩)), h.apart, h.out⟩
theorem Turn.grown {w w' : World} {row : Option Nat} (h : w.grownBy w' row) : Turn w w' (fun k => row = some k) :=
  ⟨h.os, h.tape, h.output, h.size, fun k hk hs => h.block k hk fun e => hs e.symm⟩
/-- What changes an older block, or newer ones alone, leaves the rows as they are. -/
theorem GridC.kept {w w' : World} {base : Nat} {v : Value} {rows : List (List C3)} {ss : List SV} {row : Option Nat} (h : GridC w base v rows ss) (hg : w.grownBy w' row) (hr : ∀ r, row = some r → r < base ∨ w.heap.size ≤ r) : GridC w' base v rows ss :=
  h.turn (Turn.grown hg) fun k hk e => by
    have h1 := h.lt k hk
    have h2 := hr k e
    omega
theorem GridC.below {w w' : World} {base : Nat} {v : Value} {rows : List (List C3)} {ss : List SV} (h : GridC w base v rows ss) (hb : Below w.heap.size w w') : GridC w' base v rows ss := h.kept (grown_of hb) (fun r e => by cases e)
/-- One row is written. -/
theorem GridC.put {w w' : World} {base k : Nat} {v : Value} {rows : List (List C3)} {ss : List SV} {cs : List C3} (h : GridC w base v rows ss) (hk : k < ss.length) (hg : w.grownBy w' ss[k].v.ownBlock) (hn : OwnC w' base ss[k].v cs) : GridC w' base v (rows.set k cs) ss := by
  refine ⟨h.own.kept hg ?_, by rw [List.length_set]; exact h.len, fun i h1 h2 => ?_, h.apart, h.out⟩
  · cases e : v.ownBlock with
    | none => exact .inl rfl
    | some b => exact .inr fun e' => h.out k hk b e'.symm e
  · by_cases e : i = k
    · subst e
      rw [List.getElem_set_self]
      exact hn
    · rw [List.getElem_set_ne (by omega)]
      exact Lay.Own.turn (L := LC) (h.row i h1 (by rw [← h.len]; exact h1)) (Turn.grown hg) (fun j hj e' => h.apart k i hk h1 (fun e2 => e e2.symm) j e' hj)
/-- One more row, in a block that is new. -/
theorem GridC.snoc {wr w6 : World} {base g n cap g6 n6 cap6 : Nat} {rows : List (List C3)} {ss : List SV} {s : SV} {cs : List C3} (h : GridC wr base (.slice (some ⟨g, 0, none⟩) n cap) rows ss) (hg : wr.grownBy w6 (some g)) (hs : OwnC w6 base s.v cs)
    (hk : ∀ k, s.v.ownBlock = some k → wr.heap.size ≤ k ∧ k ≠ g6) (hg6 : g6 = g ∨ wr.heap.size ≤ g6) (ho : LSc.Own w6 base (.slice (some ⟨g6, 0, none⟩) n6 cap6) (ss ++ [s])) : GridC w6 base (.slice (some ⟨g6, 0, none⟩) n6 cap6) (rows ++ [cs]) (ss ++ [s]) := by
  have hlt : ∀ i (hi : i < ss.length) k, ss[i].v.ownBlock = some k → k < wr.heap.size := fun i hi k e => ((h.row i hi (by rw [← h.len]; exact hi)).lt k e).2
  have hl := h.len
  refine ⟨ho, by simp [hl], fun i h1 h2 => ?_, fun i j h1 h2 hij k hk' => ?_, fun i h1 k hk' => ?_⟩
  · by_cases hi : i < ss.length
    · rw [List.getElem_append_left hi, List.getElem_append_left (by omega)]
      exact Lay.Own.turn (L := LC) (h.row i hi (by omega)) (Turn.grown hg) (fun k e e' => h.out i hi k e e')
    · have e : i = ss.length := by simp at h1; omega
      subst e
      rw [List.getElem_append_right (by omega), List.getElem_append_right (by omega)]
      simpa [hl] using hs
  · by_cases hi : i < ss.length
    · rw [List.getElem_append_left hi] at hk'
      by_cases hj : j < ss.length
      · rw [List.getElem_append_left hj]; exact h.apart i j hi hj hij k hk'
      · rw [List.getElem_append_right (by omega)]
        intro e
        have e0 : j - ss.length = 0 := by simp at h2; omega
        simp only [e0, List.getElem_cons_zero] at e
        have := hlt i hi k hk'
        have := (hk k e).1
        omega
    · rw [List.getElem_append_right (by omega)] at hk'
      have e0 : i - ss.length = 0 := by simp at h1; omega
      simp only [e0, List.getElem_cons_zero] at hk'
      by_cases hj : j < ss.length
      · rw [List.getElem_append_left hj]
        intro e
        have := hlt j hj k e
        have := (hk k hk').1
        omega
      · simp at h1 h2; omega
  · by_cases hi : i < ss.length
    · rw [List.getElem_append_left hi] at hk'
      have hlk := hlt i hi k hk'
      rcases hg6 with rfl | h6
      · exact h.out i hi k hk'
      · intro e; have e2 : g6 = k := Option.some.inj e; omega
    · rw [List.getElem_append_right (by omega)] at hk'
      have e0 : i - ss.length = 0 := by simp at h1; omega
      simp only [e0, List.getElem_cons_zero] at hk'
      intro e
      exact (hk k hk').2 (Option.some.inj e).symm
theorem rowsC_any {w : World} {v : Value} {ss : List SV} (h : LSc.Row w v ss) : ∃ a c, v = .slice a ss.length c ∧ ∀ k (hk : k < ss.length), ∃ g o, a = some ⟨g, o, none⟩ ∧ ss.length ≤ c ∧ w.cell? ⟨g, o + k, none⟩ = some ss[k].v := by
  obtain ⟨a, c, h1, h2⟩ := h.any LSc_ok
  refine ⟨a, c, h1, fun k hk => ?_⟩
  obtain ⟨g, o, e, hc, hcell⟩ := h2 k hk
  refine ⟨g, o, e, hc, ?_⟩
  have := hcell 0 _ rfl
  rwa [show k * LSc.size + 0 = k from Nat.mul_one k] at this
/-- Reading one cell of one row. -/
theorem GridC.cell {w : World} {base g n cap : Nat} {rows : List (List C3)} {ss : List SV} (h : GridC w base (.slice (some ⟨g, 0, none⟩) n cap) rows ss) {r i : Nat} (hr : r < rows.length) (hi : i < rows[r].length) :
    ∃ gr cr, w.cell? ⟨g, r, none⟩ = some (.slice (some ⟨gr, 0, none⟩) rows[r].length cr) ∧ rows[r].length ≤ cr ∧ w.cell? ⟨gr, i * 2, none⟩ = some (.float .f32 rows[r][i].1) ∧ w.cell? ⟨gr, i * 2 + 1, none⟩ = some (.complex .f32 rows[r][i].2.1 rows[r][i].2.2) ∧ w.frozen? ⟨gr, i * 2, none⟩ = false ∧ w.frozen? ⟨gr, i * 2 + 1, none⟩ = false ∧ base ≤ gr ∧ gr ≠ g := by
  have hs : r < ss.length := by rw [h.len]; exact hr
  obtain ⟨a, c, h1, h2⟩ := rowsC_any h.own.row
  obtain ⟨g1, o1, e, _, hc⟩ := h2 r hs
  subst e
  have e1 : g1 = g ∧ o1 = 0 := by injection h1 with x1; injection x1 with x1; injection x1 with x1 x2; exact ⟨x1.symm, x2.symm⟩
  obtain ⟨rfl, rfl⟩ := e1
  rw [Nat.zero_add] at hc
  have hrow := h.row r hs hr
  have hout := h.out r hs
  rcases hrow.shape with ⟨_, h0⟩ | ⟨gr, cr, hv, hb, hl, hcc, _⟩
  · rw [h0] at hi; exact absurd hi (by simp)
  · rw [hv] at hrow hc hout
    obtain ⟨y1, f1⟩ := at_yC hrow hi
    obtain ⟨y2, f2⟩ := at_cC hrow hi
    exact ⟨gr, cr, hc, hcc, y1, y2, f1, f2, hb, fun e => hout gr rfl (by rw [e]; rfl)⟩
end Go.Proofs.Ytgecclccmmcdoaa
