/-
  What is proved: the plain rows that the model draws may be written by who gets them.
  Conditions: the bytes can be read.
-/
import Derived.Test.YtobpnoiienpipaaGreatPz11
import Derived.Test.YtobpnoiienpipaaGreatPz19
import Derived.Test.YtobpnoiienpipaaGreatPz16
import Derived.Deep.RegionWith
import Derived.Test.YtobpnoiienpipaaGreatPz14
import Derived.Test.YtobpnoiienpipaaGreatPz04
import Derived.Test.YtobpnoiienpipaaGreatPz08
import Derived.Test.YtobpnoiienpipaaGreatPz17
namespace Go.Proofs.YtobpnoiienpipaaGreat
set_option linter.unusedVariables false
open Go.RowKit
attribute [local go_sem] run_store_float run_store_complex unary_negf neg256

/-- Cells, as lists of elements. -/
def LC : Lay C3 := ⟨40, 61, 2, 12, fun c => [.float .f32 c.1, .complex .f32 c.2.1 c.2.2]⟩
theorem LC_ok : LC.Ok := by
  refine ⟨fun _ => rfl, fun x u hu => ?_, by decide, Tryz.underlying40, ?_, by decide⟩
  · rcases List.mem_cons.1 hu with rfl | hu
    · rfl
    · obtain rfl := List.mem_singleton.1 hu; rfl
  · obtain ⟨i, h1, h2, h3, h4⟩ := info_parts info_cell
    exact ⟨i, _, h1, h2, h3, h4, rfl⟩
theorem at_yC {w : World} {base g n cap k : Nat} {cs : List C3} (h : OwnC w base (.slice (some ⟨g, 0, none⟩) n cap) cs) (hk : k < cs.length) : w.cell? ⟨g, k * 2, none⟩ = some (.float .f32 cs[k].1) ∧ w.frozen? ⟨g, k * 2, none⟩ = false := by
  refine ⟨?_, (Lay.Own.at LC_ok (L := LC) h hk (show 0 < LC.size by decide) (show k * 2 = k * LC.size + 0 from rfl)).2⟩
  rcases h.row with ⟨h1, _⟩ | ⟨g', o', cap', h1, _, hc⟩
  · cases h1
  · injection h1 with e1 e2 e3
    injection e1 with e1
    injection e1 with e1 e4
    subst e1 e4
    have := (hc k hk).1
    rwa [Nat.zero_add] at this
theorem at_cC {w : World} {base g n cap k : Nat} {cs : List C3} (h : OwnC w base (.slice (some ⟨g, 0, none⟩) n cap) cs) (hk : k < cs.length) : w.cell? ⟨g, k * 2 + 1, none⟩ = some (.complex .f32 cs[k].2.1 cs[k].2.2) ∧ w.frozen? ⟨g, k * 2 + 1, none⟩ = false := by
  refine ⟨?_, (Lay.Own.at LC_ok (L := LC) h hk (show 1 < LC.size by decide) (show k * 2 + 1 = k * LC.size + 1 from rfl)).2⟩
  rcases h.row with ⟨h1, _⟩ | ⟨g', o', cap', h1, _, hc⟩
  · cases h1
  · injection h1 with e1 e2 e3
    injection e1 with e1
    injection e1 with e1 e4
    subst e1 e4
    have := (hc k hk).2
    rwa [Nat.zero_add] at this
def PlainDrawO (w : World) (e : Ending) (w' : World) : Prop := ∃ g cap cs, (1 ≤ cs.length ∧ cs.length ≤ 6) ∧ PlainR cs ∧ e = .returned (.slice (some ⟨g, 0, none⟩) cs.length cap) ∧ OwnC w' w.heap.size (.slice (some ⟨g, 0, none⟩) cs.length cap) cs ∧ Below w.heap.size w w'
theorem PlainDrawO.mk {w w' : World} {g cap : Nat} {cs : List C3} (hl : 1 ≤ cs.length ∧ cs.length ≤ 6) (hp : PlainR cs) (hr : OwnC w' w.heap.size (.slice (some ⟨g, 0, none⟩) cs.length cap) cs) (hb : Below w.heap.size w w') : PlainDrawO w (.returned (.slice (some ⟨g, 0, none⟩) cs.length cap)) w' := ⟨g, cap, cs, hl, hp, rfl, hr, hb⟩
end Go.Proofs.YtobpnoiienpipaaGreat

/-
  What is proved: the exact laws' copying, comparing and marking of lists of ints and of runs.
  Conditions: those that each fact names.
-/
namespace Go.Proofs.YtobpnoiienpipaaGreat
set_option linter.unusedVariables false
open Go.RowKit
attribute [local go_sem] run_store_float run_store_complex unary_negf neg256

end Go.Proofs.YtobpnoiienpipaaGreat

/-
  What is proved: the exact laws' comparing and marking of lists of lists of single floats.
  Conditions: those that each fact names.
-/
namespace Go.Proofs.YtobpnoiienpipaaGreat
set_option linter.unusedVariables false
open Go.RowKit
attribute [local go_sem] run_store_float run_store_complex unary_negf neg256

/-- The blocks of a list of lists. -/
def GBlk (v : Value) (ss : List SV) (k : Nat) : Prop := v.ownBlock = some k ∨ ∃ i, ∃ h : i < ss.length, ss[i].v.ownBlock = some k
theorem Grid.lt {w : World} {base : Nat} {v : Value} {rows : List (List Nat)} {ss : List SV} (h : Grid w base v rows ss) : ∀ k, GBlk v ss k → base ≤ k ∧ k < w.heap.size := by
  rintro k (hk | ⟨i, hi, hk⟩)
  · exact h.own.lt k hk
  · exact (h.lines.row i hi (by rw [← h.lines.len]; exact hi)).lt k hk
theorem Grid.below {w w' : World} {base : Nat} {v : Value} {rows : List (List Nat)} {ss : List SV} (h : Grid w base v rows ss) (hb : Below w.heap.size w w') : Grid w' base v rows ss :=
  ⟨h.own.below hb, h.lines.kept (grown_of hb) (fun _ _ _ _ => by simp)⟩
theorem Grid.turn {w w' : World} {base : Nat} {v : Value} {rows : List (List Nat)} {ss : List SV} {S : Nat → Prop} (h : Grid w base v rows ss) (ht : Turn w w' S) (hS : ∀ k, GBlk v ss k → ¬ S k) : Grid w' base v rows ss :=
  ⟨h.own.turn ht (fun k hk => hS k (.inl hk)), h.lines.len, fun i h1 h2 => (h.lines.row i h1 h2).turn ht (fun k hk => hS k (.inr ⟨i, h1, hk⟩)), h.lines.apart, h.lines.out⟩
/-- One line is written. -/
theorem Grid.put {w w' : World} {base k : Nat} {v : Value} {rows : List (List Nat)} {ss : List SV} {ys : List Nat} (h : Grid w base v rows ss) (hk : k < ss.length) (hg : w.grownBy w' ss[k].v.ownBlock) (hn : FNew w' base ss[k].v ys) : Grid w' base v (rows.set k ys) ss := by
  refine ⟨h.own.kept hg ?_, by rw [List.length_set]; exact h.lines.len, fun i h1 h2 => ?_, h.lines.apart, h.lines.out⟩
  · cases e : v.ownBlock with
    | none => exact .inl rfl
    | some b => exact .inr fun e' => h.lines.out k hk b e'.symm e
  · by_cases e : i = k
    · subst e
      rw [List.getElem_set_self]
      exact hn
    · rw [List.getElem_set_ne (by omega)]
      exact (h.lines.row i h1 (by rw [← h.lines.len]; exact h1)).far hg (fun j hj e' => h.lines.apart k i hk h1 (fun e2 => e e2.symm) j e' hj)
end Go.Proofs.YtobpnoiienpipaaGreat

/-
  What is proved: the walk of the model's Erase.
  Conditions: the stream can be read.
-/
namespace Go.Proofs.YtobpnoiienpipaaGreat
set_option linter.unusedVariables false
open Go.RowKit
attribute [local go_sem] run_store_float run_store_complex unary_negf neg256

/-- How many samples may be erased. -/
def eraseOk (n : Int) : Bool := decide (0 ≤ n) && decide (n ≤ 280)
/-- Whether the place i is erased. -/
def gone (p n : Int) (i : Nat) : Bool := eraseOk n && (decide (p ≤ (i : Int)) && decide ((i : Int) - n < p))
/-- The stream with what is erased. -/
def erased (xs : List Nat) (p n : Int) : List Nat := (List.range xs.length).map fun i => if gone p n i = true then 0 else xs.getD i 0
/-- An answer that is a list which may be appended to. -/
def GotO (ys : List Nat) (w : World) (e : Ending) (w' : World) : Prop := ∃ g cap, e = .returned (.slice (some ⟨g, 0, none⟩) ys.length cap) ∧ OwnF w' w.heap.size (.slice (some ⟨g, 0, none⟩) ys.length cap) ys ∧ Below w.heap.size w w'
theorem GotO.mk {ys : List Nat} {w w' : World} {g n cap : Nat} (hn : ys.length = n) (h : OwnF w' w.heap.size (.slice (some ⟨g, 0, none⟩) n cap) ys) (hb : Below w.heap.size w w') : GotO ys w (.returned (.slice (some ⟨g, 0, none⟩) n cap)) w' := by
  subst hn; exact ⟨g, cap, rfl, h, hb⟩
theorem GotO.got {ys : List Nat} {w w' : World} {e : Ending} (h : GotO ys w e w') : GotF ys w e w' := by
  obtain ⟨g, cap, rfl, ho, hb⟩ := h
  exact GotF.own rfl ho hb
end Go.Proofs.YtobpnoiienpipaaGreat

/-
  What is proved: what the model draws for chapter 6: streams of lines, some without pulses.
  Conditions: the cursor's block holds a cursor; the bytes can be read.
-/
namespace Go.Proofs.YtobpnoiienpipaaGreat
set_option linter.unusedVariables false
open Go.RowKit
attribute [local go_sem] run_store_float run_store_complex unary_negf neg256

def StreamP (b : Nat) (w : World) (e : Ending) (w' : World) : Prop := ∃ v ys, ∃ n : Nat, (ys.length ≤ 25000 ∧ 1 ≤ n ∧ n ≤ 3) ∧ e = .returned (.tuple #[v, .int .i64 (24 + 4 * (n : Int))]) ∧ FRow w' v ys ∧ Cur w' b ∧ w.grownBy w' (some b)
theorem StreamP.mk {b n : Nat} {x : Int} {w w' : World} {v : Value} {ys : List Nat} (hx : x = 24 + 4 * (n : Int)) (h : ys.length ≤ 25000 ∧ 1 ≤ n ∧ n ≤ 3) (hr : FRow w' v ys) (hc : Cur w' b) (hg : w.grownBy w' (some b)) : StreamP b w (.returned (.tuple #[v, .int .i64 x])) w' := by
  subst hx; exact ⟨v, ys, n, h, rfl, hr, hc, hg⟩
/-- A row of the inner loop: the world of the outer one stays but for the cursor. -/
structure InRow (wo wr : World) (b g cap : Nat) (cs : List C3) : Prop where
  own : OwnC wr wo.heap.size (.slice (some ⟨g, 0, none⟩) cs.length cap) cs
  cur : Cur wr b
  grown : wo.grownBy wr (some b)
theorem InRow.start {wo : World} {b : Nat} (hc : Cur wo b) : InRow wo (wo.alloc (.cells #[] 61)) b wo.heap.size 0 [] :=
  ⟨OwnC.made0 wo, hc.alloc _, World.grownBy_alloc wo _ _⟩
theorem InRow.next {wo wr w' : World} {b g cap : Nat} {cs : List C3} (h : InRow wo wr b g cap cs) (hb : b < wo.heap.size) (hc : Cur w' b) (hg : wr.grownBy w' (some b)) : InRow wo w' b g cap cs := by
  have hge := (h.own.lt g rfl).1
  exact ⟨h.own.kept hg (.inr (by intro e; have := Option.some.inj e; simp at this; omega)), hc, h.grown.trans hg⟩
/-- What changes blocks that are newer than the row's changes nothing. -/
theorem InRow.far {wo wr w' : World} {b g cap x : Nat} {cs : List C3} (h : InRow wo wr b g cap cs) (hb : b < wo.heap.size) (hx : wr.heap.size ≤ x) (hg : wr.grownBy w' none ∨ wr.grownBy w' (some x)) : InRow wo w' b g cap cs := by
  have hge := h.own.lt g rfl
  have key : ∃ row, wr.grownBy w' row ∧ (∀ r, row = some r → wr.heap.size ≤ r) := by
    rcases hg with hg | hg
    · exact ⟨none, hg, fun r e => by cases e⟩
    · exact ⟨some x, hg, fun r e => by cases e; exact hx⟩
  obtain ⟨row, hg, hr⟩ := key
  refine ⟨h.own.kept hg (.inr ?_), h.cur.grown hg (fun r e => by have := hr r e; have := h.cur.lt; omega), grown_own h.grown hg (fun r e => by have := hr r e; have := h.grown.size; omega)⟩
  intro e
  have := hr g e.symm
  omega
theorem InRow.app {wo wr w' : World} {b g cap g6 cap6 : Nat} {cs : List C3} {c : C3} (h : InRow wo wr b g cap cs) (hb : b < wo.heap.size) (o : Obj) (hown : OwnC w' wo.heap.size (.slice (some ⟨g6, 0, none⟩) (cs.length + [c].length) cap6) (cs ++ [c])) (hg : (wr.alloc o).grownBy w' (some g)) : InRow wo w' b g6 cap6 (cs ++ [c]) := by
  have hge := h.own.lt g rfl
  refine ⟨by simpa using hown, (h.cur.alloc o).grown hg (fun r e => by cases e; omega), ?_⟩
  exact grown_own (h.grown.trans (World.grownBy_alloc wr o _)) hg (fun r e => by cases e; exact hge.1)
end Go.Proofs.YtobpnoiienpipaaGreat

/-
  What is proved: lists of rows of cells that a call makes, no two of which share memory.
  Conditions: those that each fact names.
-/
namespace Go.Proofs.YtobpnoiienpipaaGreat
set_option linter.unusedVariables false
open Go.RowKit

def LSc : Lay SV := ⟨24, 40, 1, 24, fun s => [s.v]⟩
theorem LSc_ok : LSc.Ok := by
  refine ⟨fun _ => rfl, fun x u hu => ?_, by decide, Tryz.underlying24, ?_, by decide⟩
  · obtain rfl := List.mem_singleton.1 hu; rfl
  · obtain ⟨i, h1, h2, h3, h4⟩ := info_parts (show (Tryz.prog.info? 40).map (fun i => (i.zero, i.size, i.bytes)) = some (some (.slice none 0 0), 1, 24) by kernel_rfl)
    exact ⟨i, _, h1, h2, h3, h4, rfl⟩
/-- A list of rows: each is owned, no two share memory, none the list's own. -/
structure GridC (w : World) (base : Nat) (v : Value) (rows : List (List C3)) (ss : List SV) : Prop where
  own : LSc.Own w base v ss
  len : ss.length = rows.length
  row : ∀ i (h : i < ss.length) (h' : i < rows.length), OwnC w base ss[i].v rows[i]
  apart : ∀ i j (h : i < ss.length) (h' : j < ss.length), i ≠ j → ∀ k, ss[i].v.ownBlock = some k → ss[j].v.ownBlock ≠ some k
  out : ∀ i (h : i < ss.length) k, ss[i].v.ownBlock = some k → v.ownBlock ≠ some k
theorem GridC.nil (w : World) : GridC (w.alloc (.cells #[] 40)) w.heap.size (.slice (some ⟨w.heap.size, 0, none⟩) 0 0) [] [] :=
  ⟨LSc.own0 w, rfl, fun i h => absurd h (by simp), fun i j h => absurd h (by simp), fun i h => absurd h (by simp)⟩
theorem GridC.lt {w : World} {base : Nat} {v : Value} {rows : List (List C3)} {ss : List SV} (h : GridC w base v rows ss) : ∀ k, GBlk v ss k → base ≤ k ∧ k < w.heap.size := by
  rintro k (hk | ⟨i, hi, hk⟩)
  · exact h.own.lt k hk
  · exact (h.row i hi (by rw [← h.len]; exact hi)).lt k hk
theorem GridC.turn {w w' : World} {base : Nat} {v : Value} {rows : List (List C3)} {ss : List SV} {S : Nat → Prop} (h : GridC w base v rows ss) (ht : Turn w w' S) (hS : ∀ k, GBlk v ss k → ¬ S k) : GridC w' base v rows ss :=
  ⟨h.own.turn ht (fun k hk => hS k (.inl hk)), h.len, fun i h1 h2 => Lay.Own.turn (L := LC) (h.row i h1 h2) ht (fun k hk => hS k (.inr ⟨i, h1, hk⟩)), h.apart, h.out⟩
theorem Turn.grown {w w' : World} {row : Option Nat} (h : w.grownBy w' row) : Turn w w' (fun k => row = some k) :=
  ⟨h.os, h.tape, h.output, h.size, fun k hk hs => h.block k hk fun e => hs e.symm⟩
/-- What changes an older block, or newer ones alone, leaves the rows as they are. -/
theorem GridC.kept {w w' : World} {base : Nat} {v : Value} {rows : List (List C3)} {ss : List SV} {row : Option Nat} (h : GridC w base v rows ss) (hg : w.grownBy w' row) (hr : ∀ r, row = some r → r < base ∨ w.heap.size ≤ r) : GridC w' base v rows ss :=
  h.turn (Turn.grown hg) fun k hk e => by
    have h1 := h.lt k hk
    have h2 := hr k e
    omega
theorem GridC.below {w w' : World} {base : Nat} {v : Value} {rows : List (List C3)} {ss : List SV} (h : GridC w base v rows ss) (hb : Below w.heap.size w w') : GridC w' base v rows ss := h.kept (grown_of hb) (fun r e => by cases e)
/-- One row is written. -/
theorem GridC.put {w w' : World} {base k : Nat} {v : Value} {rows : List (List C3)} {ss : List SV} {cs : List C3} (h : GridC w base v rows ss) (hk : k < ss.length) (hg : w.grownBy w' ss[k].v.ownBlock) (hn : OwnC w' base ss[k].v cs) : GridC w' base v (rows.set k cs) ss := by
  refine ⟨h.own.kept hg ?_, by rw [List.length_set]; exact h.len, fun i h1 h2 => ?_, h.apart, h.out⟩
  · cases e : v.ownBlock with
    | none => exact .inl rfl
    | some b => exact .inr fun e' => h.out k hk b e'.symm e
  · by_cases e : i = k
    · subst e
      rw [List.getElem_set_self]
      exact hn
    · rw [List.getElem_set_ne (by omega)]
      exact Lay.Own.turn (L := LC) (h.row i h1 (by rw [← h.len]; exact h1)) (Turn.grown hg) (fun j hj e' => h.apart k i hk h1 (fun e2 => e e2.symm) j e' hj)
/-- One more row, in a block that is new. -/
theorem GridC.snoc {wr w6 : World} {base g n cap g6 n6 cap6 : Nat} {rows : List (List C3)} {ss : List SV} {s : SV} {cs : List C3} (h : GridC wr base (.slice (some ⟨g, 0, none⟩) n cap) rows ss) (hg : wr.grownBy w6 (some g)) (hs : OwnC w6 base s.v cs)
    (hk : ∀ k, s.v.ownBlock = some k → wr.heap.size ≤ k ∧ k ≠ g6) (hg6 : g6 = g ∨ wr.heap.size ≤ g6) (ho : LSc.Own w6 base (.slice (some ⟨g6, 0, none⟩) n6 cap6) (ss ++ [s])) : GridC w6 base (.slice (some ⟨g6, 0, none⟩) n6 cap6) (rows ++ [cs]) (ss ++ [s]) := by
  have hlt : ∀ i (hi : i < ss.length) k, ss[i].v.ownBlock = some k → k < wr.heap.size := fun i hi k e => ((h.row i hi (by rw [← h.len]; exact hi)).lt k e).2
  have hl := h.len
  refine ⟨ho, by simp [hl], fun i h1 h2 => ?_, fun i j h1 h2 hij k hk' => ?_, fun i h1 k hk' => ?_⟩
  · by_cases hi : i < ss.length
    · rw [List.getElem_append_left hi, List.getElem_append_left (by omega)]
      exact Lay.Own.turn (L := LC) (h.row i hi (by omega)) (Turn.grown hg) (fun k e e' => h.out i hi k e e')
    · have e : i = ss.length := by simp at h1; omega
      subst e
      rw [List.getElem_append_right (by omega), List.getElem_append_right (by omega)]
      simpa [hl] using hs
  · by_cases hi : i < ss.length
    · rw [List.getElem_append_left hi] at hk'
      by_cases hj : j < ss.length
      · rw [List.getElem_append_left hj]; exact h.apart i j hi hj hij k hk'
      · rw [List.getElem_append_right (by omega)]
        intro e
        have e0 : j - ss.length = 0 := by simp at h2; omega
        simp only [e0, List.getElem_cons_zero] at e
        have := hlt i hi k hk'
        have := (hk k e).1
        omega
    · rw [List.getElem_append_right (by omega)] at hk'
      have e0 : i - ss.length = 0 := by simp at h1; omega
      simp only [e0, List.getElem_cons_zero] at hk'
      by_cases hj : j < ss.length
      · rw [List.getElem_append_left hj]
        intro e
        have := hlt j hj k e
        have := (hk k hk').1
        omega
      · simp at h1 h2; omega
  · by_cases hi : i < ss.length
    · rw [List.getElem_append_left hi] at hk'
      have hlk := hlt i hi k hk'
      rcases hg6 with rfl | h6
      · exact h.out i hi k hk'
      · intro e; have e2 : g6 = k := Option.some.inj e; omega
    · rw [List.getElem_append_right (by omega)] at hk'
      have e0 : i - ss.length = 0 := by simp at h1; omega
      simp only [e0, List.getElem_cons_zero] at hk'
      intro e
      exact (hk k hk').2 (Option.some.inj e).symm
theorem rowsC_any {w : World} {v : Value} {ss : List SV} (h : LSc.Row w v ss) : ∃ a c, v = .slice a ss.length c ∧ ∀ k (hk : k < ss.length), ∃ g o, a = some ⟨g, o, none⟩ ∧ ss.length ≤ c ∧ w.cell? ⟨g, o + k, none⟩ = some ss[k].v := by
  obtain ⟨a, c, h1, h2⟩ := h.any LSc_ok
  refine ⟨a, c, h1, fun k hk => ?_⟩
  obtain ⟨g, o, e, hc, hcell⟩ := h2 k hk
  refine ⟨g, o, e, hc, ?_⟩
  have := hcell 0 _ rfl
  rwa [show k * LSc.size + 0 = k from Nat.mul_one k] at this
/-- Reading one cell of one row. -/
theorem GridC.cell {w : World} {base g n cap : Nat} {rows : List (List C3)} {ss : List SV} (h : GridC w base (.slice (some ⟨g, 0, none⟩) n cap) rows ss) {r i : Nat} (hr : r < rows.length) (hi : i < rows[r].length) :
    ∃ gr cr, w.cell? ⟨g, r, none⟩ = some (.slice (some ⟨gr, 0, none⟩) rows[r].length cr) ∧ rows[r].length ≤ cr ∧ w.cell? ⟨gr, i * 2, none⟩ = some (.float .f32 rows[r][i].1) ∧ w.cell? ⟨gr, i * 2 + 1, none⟩ = some (.complex .f32 rows[r][i].2.1 rows[r][i].2.2) ∧ w.frozen? ⟨gr, i * 2, none⟩ = false ∧ w.frozen? ⟨gr, i * 2 + 1, none⟩ = false ∧ base ≤ gr ∧ gr ≠ g := by
  have hs : r < ss.length := by rw [h.len]; exact hr
  obtain ⟨a, c, h1, h2⟩ := rowsC_any h.own.row
  obtain ⟨g1, o1, e, _, hc⟩ := h2 r hs
  subst e
  have e1 : g1 = g ∧ o1 = 0 := by injection h1 with x1; injection x1 with x1; injection x1 with x1 x2; exact ⟨x1.symm, x2.symm⟩
  obtain ⟨rfl, rfl⟩ := e1
  rw [Nat.zero_add] at hc
  have hrow := h.row r hs hr
  have hout := h.out r hs
  rcases hrow.shape with ⟨_, h0⟩ | ⟨gr, cr, hv, hb, hl, hcc, _⟩
  · rw [h0] at hi; exact absurd hi (by simp)
  · rw [hv] at hrow hc hout
    obtain ⟨y1, f1⟩ := at_yC hrow hi
    obtain ⟨y2, f2⟩ := at_cC hrow hi
    exact ⟨gr, cr, hc, hcc, y1, y2, f1, f2, hb, fun e => hout gr rfl (by rw [e]; rfl)⟩
end Go.Proofs.YtobpnoiienpipaaGreat

/-
  What is proved: the exact laws' comparing and marking of lists of rows of cells.
  Conditions: those that each fact names.
-/
namespace Go.Proofs.YtobpnoiienpipaaGreat
set_option linter.unusedVariables false
open Go.RowKit
attribute [local go_sem] run_store_float run_store_complex unary_negf neg256

/-- No number is NaN. -/
def NumL (cs : List C3) : Prop := ∀ c ∈ cs, isN c.1 = false ∧ isN c.2.1 = false ∧ isN c.2.2 = false

/-! Marks that begin with any number. -/
/-! Lists of rows. -/
/-- A list of rows: each in new memory that may be written, no two share memory, none the list's own. -/
structure GridN (w : World) (base : Nat) (v : Value) (rows : List (List C3)) (ss : List SV) : Prop where
  own : LSc.Own w base v ss
  len : ss.length = rows.length
  row : ∀ i (h : i < ss.length) (h' : i < rows.length), RNew w base ss[i].v rows[i]
  apart : ∀ i j (h : i < ss.length) (h' : j < ss.length), i ≠ j → ∀ k, ss[i].v.ownBlock = some k → ss[j].v.ownBlock ≠ some k
  out : ∀ i (h : i < ss.length) k, ss[i].v.ownBlock = some k → v.ownBlock ≠ some k
theorem GridC.new {w : World} {base : Nat} {v : Value} {rows : List (List C3)} {ss : List SV} (h : GridC w base v rows ss) : GridN w base v rows ss :=
  ⟨h.own, h.len, fun i h1 h2 => (h.row i h1 h2).rnew, h.apart, h.out⟩
theorem RNew.turn {w w' : World} {base : Nat} {v : Value} {cs : List C3} {S : Nat → Prop} (h : RNew w base v cs) (ht : Turn w w' S) (hS : ∀ k, v.ownBlock = some k → ¬ S k) : RNew w' base v cs := by
  rcases h with h | ⟨g, cap, cur, rfl, h0, h2, h3, h4, h5⟩
  · exact .inl h
  · exact .inr ⟨g, cap, cur, rfl, h0, h2, (ht.block g (Array.getElem?_eq_some_iff.1 h3).1 (hS g rfl)).trans h3, h4, h5⟩
theorem GridN.lt {w : World} {base : Nat} {v : Value} {rows : List (List C3)} {ss : List SV} (h : GridN w base v rows ss) : ∀ k, GBlk v ss k → base ≤ k ∧ k < w.heap.size := by
  rintro k (hk | ⟨i, hi, hk⟩)
  · exact h.own.lt k hk
  · exact (h.row i hi (by rw [← h.len]; exact hi)).lt k hk
theorem GridN.turn {w w' : World} {base : Nat} {v : Value} {rows : List (List C3)} {ss : List SV} {S : Nat → Prop} (h : GridN w base v rows ss) (ht : Turn w w' S) (hS : ∀ k, GBlk v ss k → ¬ S k) : GridN w' base v rows ss :=
  ⟨h.own.turn ht (fun k hk => hS k (.inl hk)), h.len, fun i h1 h2 => (h.row i h1 h2).turn ht (fun k hk => hS k (.inr ⟨i, h1, hk⟩)), h.apart, h.out⟩
theorem GridN.below {w w' : World} {base : Nat} {v : Value} {rows : List (List C3)} {ss : List SV} (h : GridN w base v rows ss) (hb : Below w.heap.size w w') : GridN w' base v rows ss :=
  h.turn (Turn.grown (row := none) (grown_of hb)) (fun k _ e => by cases e)
theorem GridN.mono {w : World} {base base' : Nat} {v : Value} {rows : List (List C3)} {ss : List SV} (h : GridN w base v rows ss) (hb : base' ≤ base) : GridN w base' v rows ss :=
  ⟨h.own.mono hb, h.len, fun i h1 h2 => (h.row i h1 h2).mono hb, h.apart, h.out⟩
/-- One row is written. -/
theorem GridN.put {w w' : World} {base k : Nat} {v : Value} {rows : List (List C3)} {ss : List SV} {cs : List C3} (h : GridN w base v rows ss) (hk : k < ss.length) (hg : w.grownBy w' ss[k].v.ownBlock) (hn : RNew w' base ss[k].v cs) : GridN w' base v (rows.set k cs) ss := by
  refine ⟨h.own.kept hg ?_, by rw [List.length_set]; exact h.len, fun i h1 h2 => ?_, h.apart, h.out⟩
  · cases e : v.ownBlock with
    | none => exact .inl rfl
    | some b => exact .inr fun e' => h.out k hk b e'.symm e
  · by_cases e : i = k
    · subst e
      rw [List.getElem_set_self]
      exact hn
    · rw [List.getElem_set_ne (by omega)]
      exact (h.row i h1 (by rw [← h.len]; exact h1)).far hg (fun j hj e' => h.apart k i hk h1 (fun e2 => e e2.symm) j e' hj)
def csum (rs : List (List C3)) : Nat := (rs.map List.length).sum
end Go.Proofs.YtobpnoiienpipaaGreat
