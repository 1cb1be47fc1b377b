/-
  What is proved: what the functions that draw rows of cells answer; the law's size test.
  Conditions: the cursor's block holds a cursor; the bytes that they draw from can be read.
-/
import Derived.Test.YtfoggbcfkniimaaRowOwn
namespace Go.Proofs.Ytfoggbcfkniimaa
set_option linter.unusedVariables false
open Go.RowKit
attribute [local go_sem] run_store_float run_store_complex unary_negf neg256

theorem drawn {w w1 w2 : World} (h1 : w.grownBy w1 none) (h2 : w1.grownBy w2 (some w.heap.size)) : Below w.heap.size w w2 :=
  ((Below.refl _ _).grown h1 (Nat.le_refl _) (fun _ h => by cases h)).grown h2 h1.size (fun k h => by cases h; exact Nat.le_refl _)
theorem big_any (a : Option Addr) (len cap : Nat) (w : World) :
    Calls Try.prog 16 #[.slice a len cap] w fun e w' => e = .returned (.bool (decide ((1048576 : Int) < len))) ∧ w = w' := by
  go_enter Try.func16, Try.ntmps16
  go_wp2
  go_ret
  exact ⟨rfl, rfl⟩

/-- Block x holds a cell whose bits fit. -/
def Holds (w : World) (x : Nat) (y u v : Nat) : Prop := (y < 2 ^ 32 ∧ u < 2 ^ 32 ∧ v < 2 ^ 32) ∧ w.heap[x]? = some (.cells #[.float .f32 y, .complex .f32 u v] 50 (0, 0))
theorem Holds.kept {w w' : World} {x y u v : Nat} {row : Option Nat} (h : Holds w x y u v) (hg : w.grownBy w' row) (hne : some x ≠ row) : Holds w' x y u v :=
  ⟨h.1, (hg.block x (Array.getElem?_eq_some_iff.1 h.2).1 hne).trans h.2⟩
theorem Holds.c0 {w : World} {x y u v : Nat} (h : Holds w x y u v) : w.cell? ⟨x, 0, none⟩ = some (.float .f32 y) := by simp [World.cell?, h.2]
theorem Holds.c1 {w : World} {x y u v : Nat} (h : Holds w x y u v) : w.cell? ⟨x, 1, none⟩ = some (.complex .f32 u v) := by simp [World.cell?, h.2]
theorem Holds.f0 {w : World} {x y u v : Nat} (h : Holds w x y u v) : w.frozen? ⟨x, 0, none⟩ = false := by simp [World.frozen?, h.2]
theorem Holds.f1 {w : World} {x y u v : Nat} (h : Holds w x y u v) : w.frozen? ⟨x, 1, none⟩ = false := by simp [World.frozen?, h.2]
theorem Holds.put {w : World} {x y u v y' u' v' : Nat} (h : Holds w x y u v) (hf : y' < 2 ^ 32 ∧ u' < 2 ^ 32 ∧ v' < 2 ^ 32) : Holds ((w.setCell ⟨x, 0, none⟩ (.float .f32 y')).setCell ⟨x, 1, none⟩ (.complex .f32 u' v')) x y' u' v' :=
  ⟨hf, heap_put (i := 1) (heap_put (i := 0) h.2)⟩
theorem Fit.snoc {cs : List C3} {y u v : Nat} (h : Fit cs) (hf : y < 2 ^ 32 ∧ u < 2 ^ 32 ∧ v < 2 ^ 32) : Fit (cs ++ [(y, u, v)]) := by
  intro c hc
  rcases List.mem_append.1 hc with hc | hc
  · exact h c hc
  · obtain rfl := List.mem_singleton.1 hc; exact hf
theorem row_lit (w : World) (y u v : Nat) : RowV (w.alloc (.cells #[.float .f32 y, .complex .f32 u v] 50)) (.slice (some ⟨w.heap.size, 0, none⟩) 1 1) [(y, u, v)] := by
  refine .inr ⟨w.heap.size, 0, 1, rfl, Nat.le_refl _, fun i hi => ?_⟩
  have hi0 : i = 0 := by simpa using hi
  subst hi0
  have := heap_alloc_new w (.cells #[.float .f32 y, .complex .f32 u v] 50)
  exact ⟨(cell_of_row _ _ 0 _ _ _ this).trans rfl, (cell_of_row _ _ 1 _ _ _ this).trans rfl⟩

def RowsPost (N : Nat) (b : Nat) (w : World) (e : Ending) (w' : World) : Prop := ∃ v cs, cs.length = N ∧ Fit cs ∧ e = .returned v ∧ RowV w' v cs ∧ Cur w' b ∧ w.grownBy w' (some b)
theorem RowsPost.mk {N b : Nat} {w w' : World} {v : Value} {cs : List C3} (hl : cs.length = N) (hf : Fit cs) (hr : RowV w' v cs) (hc : Cur w' b) (hg : w.grownBy w' (some b)) : RowsPost N b w (.returned v) w' := ⟨v, cs, hl, hf, rfl, hr, hc, hg⟩
/-- What stands at the head of a round of l02Cells. -/
structure Rnd (w wr : World) (b x : Nat) (v : Value) (cs : List C3) : Prop where
  own : OwnC wr w.heap.size v cs
  fit : Fit cs
  cur : Cur wr b
  grown : w.grownBy wr (some b)
  ne : v.ownBlock ≠ some x
  hold : ∃ y u v, Holds wr x y u v
theorem grown_own {a w w' : World} {g : Nat} {row : Option Nat} (h : a.grownBy w (some g)) (hg : w.grownBy w' row) (hr : ∀ r, row = some r → a.heap.size ≤ r) : a.grownBy w' (some g) :=
  ⟨hg.os.trans h.os, hg.tape.trans h.tape, hg.output.trans h.output, Nat.le_trans h.size hg.size, fun i hi hne => (hg.block i (Nat.lt_of_lt_of_le hi h.size) (fun e => by have := hr i e.symm; omega)).trans (h.block i hi hne)⟩
theorem Rnd.app {w wr w' : World} {b x g cap y u z : Nat} {v : Value} {cs : List C3} (h : Rnd w wr b x v cs) (hb : b < w.heap.size) (hh : Holds wr x y u z) (o : Obj)
    (hown : OwnC w' w.heap.size (.slice (some ⟨g, 0, none⟩) (cs.length + [(y, u, z)].length) cap) (cs ++ [(y, u, z)])) (hg : (wr.alloc o).grownBy w' v.ownBlock) (hor : v.ownBlock = some g ∨ g = (wr.alloc o).heap.size) :
    Rnd w w' b x (.slice (some ⟨g, 0, none⟩) (cs.length + [(y, u, z)].length) cap) (cs ++ [(y, u, z)]) := by
  have hx : x < wr.heap.size := (Array.getElem?_eq_some_iff.1 hh.2).1
  refine ⟨hown, h.fit.snoc hh.1, ?_, ?_, ?_, ?_⟩
  · exact (h.cur.alloc o).grown hg (fun r hr => Nat.lt_of_lt_of_le hb (h.own.lt r hr).1)
  · exact grown_own (grown_alloc h.grown o) hg (fun r hr => (h.own.lt r hr).1)
  · show some g ≠ some x
    intro e
    cases e
    rcases hor with hor | hor
    · exact h.ne hor
    · simp at hor; omega
  · exact ⟨y, u, z, (hh.kept (World.grownBy_alloc wr o none) (by simp)).kept hg (fun e => h.ne e.symm)⟩
theorem Rnd.next {w wr w' : World} {b x : Nat} {v : Value} {cs : List C3} (h : Rnd w wr b x v cs) (hb : b < w.heap.size) (hbx : b ≠ x) (hc : Cur w' b) (hg : wr.grownBy w' (some b)) : Rnd w w' b x v cs := by
  refine ⟨h.own.kept hg ?_, h.fit, hc, h.grown.trans hg, h.ne, ?_⟩
  · cases hv : v.ownBlock with
    | none => exact .inl rfl
    | some k => exact .inr (fun e => by cases e; have := (h.own.lt b hv).1; omega)
  · obtain ⟨y, u, z, hh⟩ := h.hold
    exact ⟨y, u, z, hh.kept hg (fun e => by cases e; exact hbx rfl)⟩
theorem Rnd.put {w wr : World} {b x y u z y' u' z' : Nat} {v : Value} {cs : List C3} (h : Rnd w wr b x v cs) (hx : w.heap.size ≤ x) (hbx : b < x) (hh : Holds wr x y u z) (hf : y' < 2 ^ 32 ∧ u' < 2 ^ 32 ∧ z' < 2 ^ 32) :
    Rnd w ((wr.setCell ⟨x, 0, none⟩ (.float .f32 y')).setCell ⟨x, 1, none⟩ (.complex .f32 u' z')) b x v cs := by
  refine ⟨?_, h.fit, (h.cur.set (p := ⟨x, 0, none⟩) hbx _).set (p := ⟨x, 1, none⟩) hbx _, grown_set (grown_set h.grown (p := ⟨x, 0, none⟩) hx _) (p := ⟨x, 1, none⟩) hx _, h.ne, ⟨_, _, _, hh.put hf⟩⟩
  have h1 := h.own.kept (Lib.grownBy_setCell wr x 0 (.float .f32 y')) (.inr h.ne)
  exact h1.kept (Lib.grownBy_setCell _ x 1 (.complex .f32 u' z')) (.inr h.ne)

def AnyPost (b : Nat) (w : World) (e : Ending) (w' : World) : Prop := ∃ v cs, cs.length ≤ 1000 ∧ Fit cs ∧ e = .returned v ∧ RowV w' v cs ∧ Cur w' b ∧ w.grownBy w' (some b)
theorem AnyPost.mk {b : Nat} {w w' : World} {v : Value} {cs : List C3} (hl : cs.length ≤ 1000) (hf : Fit cs) (hr : RowV w' v cs) (hc : Cur w' b) (hg : w.grownBy w' (some b)) : AnyPost b w (.returned v) w' := ⟨v, cs, hl, hf, rfl, hr, hc, hg⟩
def Few (x : Int) : Prop := 0 ≤ x ∧ x ≤ 100

def DrawRow (w : World) (e : Ending) (w' : World) : Prop := ∃ v cs, cs.length ≤ 1000 ∧ Fit cs ∧ e = .returned v ∧ RowV w' v cs ∧ Below w.heap.size w w'
theorem DrawRow.mk {w w' : World} {v : Value} {cs : List C3} (hl : cs.length ≤ 1000) (hf : Fit cs) (hr : RowV w' v cs) (hb : Below w.heap.size w w') : DrawRow w (.returned v) w' := ⟨v, cs, hl, hf, rfl, hr, hb⟩
end Go.Proofs.Ytfoggbcfkniimaa
