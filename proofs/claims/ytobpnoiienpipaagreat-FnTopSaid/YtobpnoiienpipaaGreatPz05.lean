/-
  What is proved: what the functions that draw rows of cells answer; the law's size test.
  Conditions: the cursor's block holds a cursor; the bytes that they draw from can be read.
-/
import Derived.Test.YtobpnoiienpipaaGreatPz03
import Derived.Test.YtobpnoiienpipaaGreatPz04
import Derived.Deep.RegionWith
import Derived.Deep.RegionHeld3
namespace Go.Proofs.YtobpnoiienpipaaGreat
set_option linter.unusedVariables false
open Go.RowKit
attribute [local go_sem] run_store_float run_store_complex unary_negf neg256

theorem drawn {w w1 w2 : World} (h1 : w.grownBy w1 none) (h2 : w1.grownBy w2 (some w.heap.size)) : Below w.heap.size w w2 :=
  ((Below.refl _ _).grown h1 (Nat.le_refl _) (fun _ h => by cases h)).grown h2 h1.size (fun k h => by cases h; exact Nat.le_refl _)
theorem big_any (a : Option Addr) (len cap : Nat) (w : World) :
    Calls Tryz.prog 5 #[.slice a len cap] w fun e w' => e = .returned (.bool (decide ((1048576 : Int) < len))) ∧ w = w' := by
  go_enter Tryz.func5, Tryz.ntmps5
  go_wp2
  go_ret
  exact ⟨rfl, rfl⟩

/-- Block x holds a cell whose bits fit. -/
def Holds (w : World) (x : Nat) (y u v : Nat) : Prop := (y < 2 ^ 32 ∧ u < 2 ^ 32 ∧ v < 2 ^ 32) ∧ w.heap[x]? = some (.cells #[.float .f32 y, .complex .f32 u v] 61 (0, 0))
theorem Holds.kept {w w' : World} {x y u v : Nat} {row : Option Nat} (h : Holds w x y u v) (hg : w.grownBy w' row) (hne : some x ≠ row) : Holds w' x y u v :=
  ⟨h.1, (hg.block x (Array.getElem?_eq_some_iff.1 h.2).1 hne).trans h.2⟩
theorem Holds.c0 {w : World} {x y u v : Nat} (h : Holds w x y u v) : w.cell? ⟨x, 0, none⟩ = some (.float .f32 y) := by simp [World.cell?, h.2]
theorem Holds.c1 {w : World} {x y u v : Nat} (h : Holds w x y u v) : w.cell? ⟨x, 1, none⟩ = some (.complex .f32 u v) := by simp [World.cell?, h.2]
theorem Holds.f0 {w : World} {x y u v : Nat} (h : Holds w x y u v) : w.frozen? ⟨x, 0, none⟩ = false := by simp [World.frozen?, h.2]
theorem Holds.f1 {w : World} {x y u v : Nat} (h : Holds w x y u v) : w.frozen? ⟨x, 1, none⟩ = false := by simp [World.frozen?, h.2]
theorem Holds.put {w : World} {x y u v y' u' v' : Nat} (h : Holds w x y u v) (hf : y' < 2 ^ 32 ∧ u' < 2 ^ 32 ∧ v' < 2 ^ 32) : Holds ((w.setCell ⟨x, 0, none⟩ (.float .f32 y')).setCell ⟨x, 1, none⟩ (.complex .f32 u' v')) x y' u' v' :=
  ⟨hf, heap_put (i := 1) (heap_put (i := 0) h.2)⟩
theorem Fit.snoc {cs : List C3} {y u v : Nat} (h : Fit cs) (hf : y < 2 ^ 32 ∧ u < 2 ^ 32 ∧ v < 2 ^ 32) : Fit (cs ++ [(y, u, v)]) := by
  intro c hc
  rcases List.mem_append.1 hc with hc | hc
  · exact h c hc
  · obtain rfl := List.mem_singleton.1 hc; exact hf
theorem row_lit (w : World) (y u v : Nat) : RowV (w.alloc (.cells #[.float .f32 y, .complex .f32 u v] 61)) (.slice (some ⟨w.heap.size, 0, none⟩) 1 1) [(y, u, v)] := by
  refine .inr ⟨w.heap.size, 0, 1, rfl, Nat.le_refl _, fun i hi => ?_⟩
  have hi0 : i = 0 := by simpa using hi
  subst hi0
  have := heap_alloc_new w (.cells #[.float .f32 y, .complex .f32 u v] 61)
  exact ⟨(cell_of_row _ _ 0 _ _ _ this).trans rfl, (cell_of_row _ _ 1 _ _ _ this).trans rfl⟩

def RowsPost (N : Nat) (b : Nat) (w : World) (e : Ending) (w' : World) : Prop := ∃ v cs, cs.length = N ∧ Fit cs ∧ e = .returned v ∧ RowV w' v cs ∧ Cur w' b ∧ w.grownBy w' (some b)
theorem RowsPost.mk {N b : Nat} {w w' : World} {v : Value} {cs : List C3} (hl : cs.length = N) (hf : Fit cs) (hr : RowV w' v cs) (hc : Cur w' b) (hg : w.grownBy w' (some b)) : RowsPost N b w (.returned v) w' := ⟨v, cs, hl, hf, rfl, hr, hc, hg⟩
/-- What stands at the head of a round of l02Cells. -/
structure Rnd (w wr : World) (b x : Nat) (v : Value) (cs : List C3) : Prop where
  own : OwnC wr w.heap.size v cs
  fit : Fit cs
  cur : Cur wr b
  grown : w.grownBy wr (some b)
  ne : v.ownBlock ≠ some x
  hold : ∃ y u v, Holds wr x y u v
theorem grown_own {a w w' : World} {g : Nat} {row : Option Nat} (h : a.grownBy w (some g)) (hg : w.grownBy w' row) (hr : ∀ r, row = some r → a.heap.size ≤ r) : a.grownBy w' (some g) :=
  ⟨hg.os.trans h.os, hg.tape.trans h.tape, hg.output.trans h.output, Nat.le_trans h.size hg.size, fun i hi hne => (hg.block i (Nat.lt_of_lt_of_le hi h.size) (fun e => by have := hr i e.symm; omega)).trans (h.block i hi hne)⟩
theorem Rnd.app {w wr w' : World} {b x g cap y u z : Nat} {v : Value} {cs : List C3} (h : Rnd w wr b x v cs) (hb : b < w.heap.size) (hh : Holds wr x y u z) (o : Obj)
    (hown : OwnC w' w.heap.size (.slice (some ⟨g, 0, none⟩) (cs.length + [(y, u, z)].length) cap) (cs ++ [(y, u, z)])) (hg : (wr.alloc o).grownBy w' v.ownBlock) (hor : v.ownBlock = some g ∨ g = (wr.alloc o).heap.size) :
    Rnd w w' b x (.slice (some ⟨g, 0, none⟩) (cs.length + [(y, u, z)].length) cap) (cs ++ [(y, u, z)]) := by
  have hx : x < wr.heap.size := (Array.getElem?_eq_some_iff.1 hh.2).1
  refine ⟨hown, h.fit.snoc hh.1, ?_, ?_, ?_, ?_⟩
  · exact (h.cur.alloc o).grown hg (fun r hr => Nat.lt_of_lt_of_le hb (h.own.lt r hr).1)
  · exact grown_own (grown_alloc h.grown o) hg (fun r hr => (h.own.lt r hr).1)
  · show some g ≠ some x
    intro e
    cases e
    rcases hor with hor | hor
    · exact h.ne hor
    · simp at hor; omega
  · exact ⟨y, u, z, (hh.kept (World.grownBy_alloc wr o none) (by simp)).kept hg (fun e => h.ne e.symm)⟩
theorem Rnd.next {w wr w' : World} {b x : Nat} {v : Value} {cs : List C3} (h : Rnd w wr b x v cs) (hb : b < w.heap.size) (hbx : b ≠ x) (hc : Cur w' b) (hg : wr.grownBy w' (some b)) : Rnd w w' b x v cs := by
  refine ⟨h.own.kept hg ?_, h.fit, hc, h.grown.trans hg, h.ne, ?_⟩
  · cases hv : v.ownBlock with
    | none => exact .inl rfl
    | some k => exact .inr (fun e => by cases e; have := (h.own.lt b hv).1; omega)
  · obtain ⟨y, u, z, hh⟩ := h.hold
    exact ⟨y, u, z, hh.kept hg (fun e => by cases e; exact hbx rfl)⟩
theorem Rnd.put {w wr : World} {b x y u z y' u' z' : Nat} {v : Value} {cs : List C3} (h : Rnd w wr b x v cs) (hx : w.heap.size ≤ x) (hbx : b < x) (hh : Holds wr x y u z) (hf : y' < 2 ^ 32 ∧ u' < 2 ^ 32 ∧ z' < 2 ^ 32) :
    Rnd w ((wr.setCell ⟨x, 0, none⟩ (.float .f32 y')).setCell ⟨x, 1, none⟩ (.complex .f32 u' z')) b x v cs := by
  refine ⟨?_, h.fit, (h.cur.set (p := ⟨x, 0, none⟩) hbx _).set (p := ⟨x, 1, none⟩) hbx _, grown_set (grown_set h.grown (p := ⟨x, 0, none⟩) hx _) (p := ⟨x, 1, none⟩) hx _, h.ne, ⟨_, _, _, hh.put hf⟩⟩
  have h1 := h.own.kept (Lib.grownBy_setCell wr x 0 (.float .f32 y')) (.inr h.ne)
  exact h1.kept (Lib.grownBy_setCell _ x 1 (.complex .f32 u' z')) (.inr h.ne)
def AnyPost (b : Nat) (w : World) (e : Ending) (w' : World) : Prop := ∃ v cs, cs.length ≤ 1000 ∧ Fit cs ∧ e = .returned v ∧ RowV w' v cs ∧ Cur w' b ∧ w.grownBy w' (some b)
theorem AnyPost.mk {b : Nat} {w w' : World} {v : Value} {cs : List C3} (hl : cs.length ≤ 1000) (hf : Fit cs) (hr : RowV w' v cs) (hc : Cur w' b) (hg : w.grownBy w' (some b)) : AnyPost b w (.returned v) w' := ⟨v, cs, hl, hf, rfl, hr, hc, hg⟩
def Few (x : Int) : Prop := 0 ≤ x ∧ x ≤ 100
def DrawRow (w : World) (e : Ending) (w' : World) : Prop := ∃ v cs, cs.length ≤ 1000 ∧ Fit cs ∧ e = .returned v ∧ RowV w' v cs ∧ Below w.heap.size w w'
theorem DrawRow.mk {w w' : World} {v : Value} {cs : List C3} (hl : cs.length ≤ 1000) (hf : Fit cs) (hr : RowV w' v cs) (hb : Below w.heap.size w w') : DrawRow w (.returned v) w' := ⟨v, cs, hl, hf, rfl, hr, hb⟩
end Go.Proofs.YtobpnoiienpipaaGreat

/-
  What is proved: the walk of the program's EncodeCells.
  Conditions: the row can be read; its bits fit.
-/
namespace Go.Proofs.YtobpnoiienpipaaGreat
set_option linter.unusedVariables false
open Go.RowKit
attribute [local go_sem] run_store_float run_store_complex unary_negf neg256

def addv (x y : Nat) : Nat := (floatBits .add .f32 x y).getD 0
/-- The samples of a cell. -/
def enc4 (c : C3) : List Nat := [addv c.1 c.2.1, addv c.1 (Op.negFloat .f32 c.2.2), addv c.1 (Op.negFloat .f32 c.2.1), addv c.1 c.2.2]
def enc (cs : List C3) : List Nat := cs.flatMap enc4
theorem enc4_len (c : C3) : (enc4 c).length = 4 := rfl
theorem enc_len (cs : List C3) : (enc cs).length = 4 * cs.length := by
  induction cs with
  | nil => rfl
  | cons c cs ih => simp only [enc, List.flatMap_cons, List.length_append, List.length_cons, enc4_len] at ih ⊢; omega
theorem enc_append (cs ds : List C3) : enc (cs ++ ds) = enc cs ++ enc ds := by simp [enc]
theorem enc_one (c : C3) : enc [c] = enc4 c := by simp [enc]
theorem enc4_get (c : C3) (k : Nat) (h : k < (enc4 c).length) : (enc4 c)[k] = addv c.1 (carriedOf c.2.1 c.2.2 (k : Int)) := by
  have hk : k = 0 ∨ k = 1 ∨ k = 2 ∨ k = 3 := by rw [enc4_len] at h; omega
  rcases hk with rfl | rfl | rfl | rfl <;> rfl
theorem carried_fin {u v : Nat} (hu : u < 2 ^ 32) (hv : v < 2 ^ 32) (fu : Flt.fin u = true) (fv : Flt.fin v = true) (n : Int) : Flt.fin (carriedOf u v n) = true := by
  unfold carriedOf
  repeat' split
  · exact fu
  · exact Flt.fin_neg hv fv
  · exact Flt.fin_neg hu fu
  · exact fv
theorem addv_run {x y : Nat} (hx : Flt.fin x = true) (hy : Flt.fin y = true) : floatBits .add .f32 x y = some (addv x y) := by
  obtain ⟨r, hr, _⟩ := Flt.add_fin hx hy
  unfold addv
  rw [hr]; rfl

/-- Block b is an array of four floats; the first k are those of xs. -/
def ArrF (w : World) (b k : Nat) (xs : List Nat) : Prop :=
  ∃ cur : Array Value, w.heap[b]? = some (.cells cur 162 (0, 0)) ∧ cur.size = 4 ∧ ∀ i (h : i < xs.length), i < k → cur[i]? = some (.float .f32 xs[i])
theorem ArrF.step {w : World} {b k : Nat} {xs : List Nat} (h : ArrF w b k xs) (hn : k < xs.length) (hk : xs.length = 4) : ArrF (w.setCell ⟨b, k, none⟩ (.float .f32 xs[k])) b (k + 1) xs := by
  obtain ⟨cur, h1, h2, h3⟩ := h
  refine ⟨cur.setIfInBounds k (.float .f32 xs[k]), heapF h1, by simpa using h2, fun i hi hik => ?_⟩
  by_cases e : i = k
  · subst e
    rw [Array.getElem?_setIfInBounds, if_pos rfl, if_pos (by omega)]
  · rw [Array.getElem?_setIfInBounds, if_neg (by omega)]
    exact h3 i hi (by omega)
theorem ArrF.kept {w w' : World} {b k : Nat} {xs : List Nat} (h : ArrF w b k xs) (hb : w'.heap[b]? = w.heap[b]?) : ArrF w' b k xs := by
  obtain ⟨cur, h1, h2⟩ := h
  exact ⟨cur, hb.trans h1, h2⟩
theorem ArrF.at {w : World} {b k : Nat} {xs : List Nat} (h : ArrF w b k xs) (i : Nat) (hi : i < 4) : (∃ x, w.cell? ⟨b, i, none⟩ = some x) ∧ w.frozen? ⟨b, i, none⟩ = false := by
  obtain ⟨cur, h1, h2, _⟩ := h
  refine ⟨⟨cur[i]'(by omega), ?_⟩, ?_⟩
  · simp [World.cell?, h1, Array.getElem?_eq_getElem (show i < cur.size by omega)]
  · simp [World.frozen?, h1]
theorem ArrF.get {w : World} {b k : Nat} {xs : List Nat} (h : ArrF w b k xs) (i : Nat) (hi : i < xs.length) (hk : i < k) : w.cell? ⟨b, i, none⟩ = some (.float .f32 xs[i]) := by
  obtain ⟨cur, h1, h2, h3⟩ := h
  simp [World.cell?, h1, h3 i hi hk]
theorem ArrF.start (w : World) (xs : List Nat) : ArrF (w.alloc (.cells #[.float .f32 0, .float .f32 0, .float .f32 0, .float .f32 0] 162)) w.heap.size 0 xs :=
  ⟨_, heap_alloc_new w _, rfl, fun i h hi => by omega⟩
theorem arr_put4 {w : World} {b k : Nat} {xs : List Nat} (h : ArrF w b k xs) (x0 x1 x2 x3 : Value) :
    ((((w.setCell ⟨b, 0, none⟩ x0).setCell ⟨b, 1, none⟩ x1).setCell ⟨b, 2, none⟩ x2).setCell ⟨b, 3, none⟩ x3).cell? ⟨b, 0, none⟩ = some x0 ∧
    ((((w.setCell ⟨b, 0, none⟩ x0).setCell ⟨b, 1, none⟩ x1).setCell ⟨b, 2, none⟩ x2).setCell ⟨b, 3, none⟩ x3).cell? ⟨b, 1, none⟩ = some x1 ∧
    ((((w.setCell ⟨b, 0, none⟩ x0).setCell ⟨b, 1, none⟩ x1).setCell ⟨b, 2, none⟩ x2).setCell ⟨b, 3, none⟩ x3).cell? ⟨b, 2, none⟩ = some x2 ∧
    ((((w.setCell ⟨b, 0, none⟩ x0).setCell ⟨b, 1, none⟩ x1).setCell ⟨b, 2, none⟩ x2).setCell ⟨b, 3, none⟩ x3).cell? ⟨b, 3, none⟩ = some x3 := by
  obtain ⟨cur, h1, h2, _⟩ := h
  have hB := heap_put (i := 3) (v := x3) (heap_put (i := 2) (v := x2) (heap_put (i := 1) (v := x1) (heap_put (i := 0) (v := x0) h1)))
  have hc : ∀ i, i < 4 → ((((cur.setIfInBounds 0 x0).setIfInBounds 1 x1).setIfInBounds 2 x2).setIfInBounds 3 x3)[i]? = some (if i = 0 then x0 else if i = 1 then x1 else if i = 2 then x2 else x3) := by
    intro i hi
    have hi4 : i = 0 ∨ i = 1 ∨ i = 2 ∨ i = 3 := by omega
    rcases hi4 with rfl | rfl | rfl | rfl <;> simp [Array.getElem?_setIfInBounds, h2]
  refine ⟨?_, ?_, ?_, ?_⟩
  · have := hc 0 (by decide); simp only [World.cell?, hB]; exact this
  · have := hc 1 (by decide); simp only [World.cell?, hB]; exact this
  · have := hc 2 (by decide); simp only [World.cell?, hB]; exact this
  · have := hc 3 (by decide); simp only [World.cell?, hB]; exact this
def Arr4 (c : C3) : Value := .agg #[.float .f32 (addv c.1 c.2.1), .float .f32 (addv c.1 (Op.negFloat .f32 c.2.2)), .float .f32 (addv c.1 (Op.negFloat .f32 c.2.1)), .float .f32 (addv c.1 c.2.2)]
set_option maxHeartbeats 2000000 in
theorem encodedCell_any (y u v : Nat) (w : World) (hf : y < 2 ^ 32 ∧ u < 2 ^ 32 ∧ v < 2 ^ 32) (hok : okc y u v = true) :
    Calls Tryz.prog 142 #[.agg #[.float .f32 y, .complex .f32 u v]] w fun e w' => e = .returned (Arr4 (y, u, v)) ∧ Below w.heap.size w w' := by
  unfold okc at hok
  simp only [Bool.and_eq_true] at hok
  have HADD := Lib.hid (fun (n : Int) W => run_float_arith (P := Tryz.prog) W .add 25 .f32 y _ _ (addv_run hok.1 (carried_fin hf.2.1 hf.2.2 hok.2.1 hok.2.2 n)))
  have HCR := fun m W => Lib.hid (carried_any u v m W)
  clear hf hok
  have hb1 : Below w.heap.size w (((w.alloc (.cells #[.float .f32 y, .complex .f32 u v] 61)).alloc (.cells #[.float .f32 0, .float .f32 0, .float .f32 0, .float .f32 0] 162)).alloc (.cells #[.float .f32 0, .float .f32 0, .float .f32 0, .float .f32 0] 162)) := (((Below.refl _ _).alloc (Nat.le_refl _) _).alloc (by simp) _).alloc (by simp; omega) _
  have hs1 : (((w.alloc (.cells #[.float .f32 y, .complex .f32 u v] 61)).alloc (.cells #[.float .f32 0, .float .f32 0, .float .f32 0, .float .f32 0] 162)).alloc (.cells #[.float .f32 0, .float .f32 0, .float .f32 0, .float .f32 0] 162)).heap.size = w.heap.size + 3 := by simp
  have hc : (((w.alloc (.cells #[.float .f32 y, .complex .f32 u v] 61)).alloc (.cells #[.float .f32 0, .float .f32 0, .float .f32 0, .float .f32 0] 162)).alloc (.cells #[.float .f32 0, .float .f32 0, .float .f32 0, .float .f32 0] 162)).heap[w.heap.size]? = some (.cells #[.float .f32 y, .complex .f32 u v] 61 (0, 0)) := (Below.heap_alloc _ _ _ (by simp; omega)).trans ((Below.heap_alloc _ _ _ (by simp)).trans (heap_alloc_new w _))
  have har : ArrF (((w.alloc (.cells #[.float .f32 y, .complex .f32 u v] 61)).alloc (.cells #[.float .f32 0, .float .f32 0, .float .f32 0, .float .f32 0] 162)).alloc (.cells #[.float .f32 0, .float .f32 0, .float .f32 0, .float .f32 0] 162)) (w.heap.size + 1) 0 [] := by
    have := ArrF.start (w.alloc (.cells #[.float .f32 y, .complex .f32 u v] 61)) []
    rw [World.size_alloc] at this
    exact this.kept (Below.heap_alloc _ _ _ (by simp))
  have ha := ArrF.start ((w.alloc (.cells #[.float .f32 y, .complex .f32 u v] 61)).alloc (.cells #[.float .f32 0, .float .f32 0, .float .f32 0, .float .f32 0] 162)) (enc4 (y, u, v))
  rw [World.size_alloc, World.size_alloc] at ha
  have HC := Lib.hid hc
  have HA := Lib.hid ha
  have HAR0 := Lib.hid har
  have HB1 := Lib.hid hb1
  have HS1 := Lib.hid hs1
  clear hc ha hb1 hs1 har
  go_enter Tryz.func142, Tryz.ntmps142
  go_wp2
  generalize (((w.alloc (.cells #[.float .f32 y, .complex .f32 u v] 61)).alloc (.cells #[.float .f32 0, .float .f32 0, .float .f32 0, .float .f32 0] 162)).alloc (.cells #[.float .f32 0, .float .f32 0, .float .f32 0, .float .f32 0] 162)) = w1 at *
  go_loopw [5] (fun i wr => ∃ k : Nat, k ≤ 4 ∧ i = .int .i64 (k : Int) ∧ w1.grownBy wr (some (w.heap.size + 2)) ∧ ArrF wr (w.heap.size + 2) k (enc4 (y, u, v))) (fun i _ => 4 - (intOf i).toNat)
  case atStart => exact ⟨0, Nat.zero_le _, rfl, World.grownBy.refl _ _, HA.out⟩
  case round =>
    obtain ⟨k, hk, rfl, hg, har⟩ := hrel
    have HAR := Lib.hid har
    have HG := Lib.hid hg
    have hblk := (hg.block w.heap.size (by have := HS1.out; omega) (by intro e; have := Option.some.inj e; omega)).trans HC.out
    have m0 : wr.cell? ⟨w.heap.size, 0, none⟩ = some (.float .f32 y) := by simp [World.cell?, hblk]
    have m1 : wr.cell? ⟨w.heap.size, 1, none⟩ = some (.complex .f32 u v) := by simp [World.cell?, hblk]
    have HRES := Lib.hid (HAR0.out.kept (hg.block (w.heap.size + 1) (by have := HS1.out; omega) (by intro e; have := Option.some.inj e; omega)))
    have hsz := hg.size
    clear hg har HA hblk
    by_cases hlt : k < 4
    · have hadd := fun W => HADD.out (k : Int) W
      have hlm : k < (enc4 (y, u, v)).length := hlt
      obtain ⟨⟨x0, hx0⟩, hf0⟩ := HAR.out.at k hlt
      have HLM := Lib.hid hlm
      have hne : w.heap.size + 2 < wr.heap.size := by have := HS1.out; omega
      clear hlm
      go_wp2
      go_region_with (go_at_call 162; refine (HCR _ _).out.mono ?_; rintro e w2 ⟨rfl, hb2⟩; have hg2 : wr.grownBy w2 none := (grownN (World.grownBy.refl wr none) 1).trans (grown_of hb2); have q0 := hg2.cell m0 (by simp); have q1 := hg2.cell m1 (by simp); have q2 := hg2.cell hx0 (by simp); have hkp := hg2.block (w.heap.size + 2) hne (by simp); have har2 := HAR.out.kept hkp; have q3 := (har2.at k hlt).2)
      all_goals
        have hst := har2.step HLM.out rfl
        rw [enc4_get] at hst
        have HST := Lib.hid hst
        have hg3 := (grown_own HG.out hg2 (by intro r hr; cases hr)).trans (Lib.grownBy_setCell w2 (w.heap.size + 2) k (.float .f32 (addv y (carriedOf u v (k : Int)))))
        clear hst hkp har2 hg2 hb2
        go_wp2
        go_roundw
        case rel => exact ⟨k + 1, by omega, by go_num, hg3, HST.out⟩
        case measure => simp [intOf]; omega
    · have hk4 : k = 4 := by omega
      subst hk4
      have d0 := HAR.out.get 0 (show 0 < 4 by decide) (by decide)
      have d1 := HAR.out.get 1 (show 1 < 4 by decide) (by decide)
      have d2 := HAR.out.get 2 (show 2 < 4 by decide) (by decide)
      have d3 := HAR.out.get 3 (show 3 < 4 by decide) (by decide)
      obtain ⟨⟨x0, r0⟩, f0⟩ := HRES.out.at 0 (by decide)
      obtain ⟨⟨x1, r1⟩, f1⟩ := HRES.out.at 1 (by decide)
      obtain ⟨⟨x2, r2⟩, f2⟩ := HRES.out.at 2 (by decide)
      obtain ⟨⟨x3, r3⟩, f3⟩ := HRES.out.at 3 (by decide)
      have hfin := HB1.out.grown HG.out (by have := HS1.out; omega) (fun r hr => by cases hr; omega)
      have e0 : (enc4 (y, u, v))[0]'(show 0 < 4 by decide) = addv y u := rfl
      have e1 : (enc4 (y, u, v))[1]'(show 1 < 4 by decide) = addv y (Op.negFloat .f32 v) := rfl
      have e2 : (enc4 (y, u, v))[2]'(show 2 < 4 by decide) = addv y (Op.negFloat .f32 u) := rfl
      have e3 : (enc4 (y, u, v))[3]'(show 3 < 4 by decide) = addv y v := rfl
      rw [e0] at d0
      rw [e1] at d1
      rw [e2] at d2
      rw [e3] at d3
      clear e0 e1 e2 e3
      have hput := arr_put4 HRES.out (.float .f32 (addv y u)) (.float .f32 (addv y (Op.negFloat .f32 v))) (.float .f32 (addv y (Op.negFloat .f32 u))) (.float .f32 (addv y v))
      have hbel := (((hfin.setCell (p := ⟨w.heap.size + 1, 0, none⟩) (by simp) (.float .f32 (addv y u))).setCell (p := ⟨w.heap.size + 1, 1, none⟩) (by simp) (.float .f32 (addv y (Op.negFloat .f32 v)))).setCell (p := ⟨w.heap.size + 1, 2, none⟩) (by simp) (.float .f32 (addv y (Op.negFloat .f32 u)))).setCell (p := ⟨w.heap.size + 1, 3, none⟩) (by simp) (.float .f32 (addv y v))
      have HP := Lib.hid hput
      have HBL := Lib.hid hbel
      clear hput hbel
      go_wp2
      generalize ((((wr.setCell ⟨w.heap.size + 1, 0, none⟩ (.float .f32 (addv y u))).setCell ⟨w.heap.size + 1, 1, none⟩ (.float .f32 (addv y (Op.negFloat .f32 v)))).setCell ⟨w.heap.size + 1, 2, none⟩ (.float .f32 (addv y (Op.negFloat .f32 u)))).setCell ⟨w.heap.size + 1, 3, none⟩ (.float .f32 (addv y v))) = wz at *
      obtain ⟨z0, z1, z2, z3⟩ := HP.out
      refine bodyPost_ret (v := Arr4 (y, u, v)) ?_ rfl ⟨rfl, HBL.out⟩
      simp [results, Tryz.results142, go_sem, z0, z1, z2, z3, Arr4]
end Go.Proofs.YtobpnoiienpipaaGreat

/-
  What is proved: what the functions that draw samples of chapter 3 answer.
  Conditions: the cursor's block holds a cursor.
-/
namespace Go.Proofs.YtobpnoiienpipaaGreat
set_option linter.unusedVariables false
open Go.RowKit
attribute [local go_sem] run_store_float run_store_complex unary_negf neg256

theorem putGrown {w w1 w6 : World} {g g1 : Nat} {o : Obj} (hg : w.grownBy w1 (some g)) (hsz : w.heap.size ≤ w1.heap.size) (hg6 : (w1.alloc o).grownBy w6 (some g1)) (h : g1 = g ∨ w.heap.size ≤ g1) : w.grownBy w6 (some g) := by
  have hA := grown_alloc hg o
  rcases h with rfl | h
  · exact hA.trans hg6
  · exact grown_own hA hg6 (fun r hr => by cases hr; exact h)
def SampW (N : Nat) (w : World) (e : Ending) (w' : World) : Prop :=
  ∃ g cap ys, e = .returned (.slice (some ⟨g, 0, none⟩) ys.length cap) ∧ ys.length ≤ N ∧ OwnF w' w.heap.size (.slice (some ⟨g, 0, none⟩) ys.length cap) ys ∧ Below w.heap.size w w'
theorem SampW.mk {N n : Nat} {w w' : World} {g cap : Nat} {ys : List Nat} (hn : ys.length = n) (hl : n ≤ N) (ho : OwnF w' w.heap.size (.slice (some ⟨g, 0, none⟩) n cap) ys) (hb : Below w.heap.size w w') : SampW N w (.returned (.slice (some ⟨g, 0, none⟩) n cap)) w' := by
  subst hn; exact ⟨g, cap, ys, rfl, hl, ho, hb⟩
theorem RowV.curF {w w' : World} {v : Value} {cs : List C3} {b : Nat} (h : RowV w v cs) (hg : w.grownBy w' (some b)) (hc : Cur w b) : RowV w' v cs := by
  rcases h with h | ⟨g, o, cap, h1, h2, h3⟩
  · exact .inl h
  · refine .inr ⟨g, o, cap, h1, h2, fun i hi => ?_⟩
    obtain ⟨k0, k1⟩ := h3 i hi
    obtain ⟨_, _, _, _, _, _, _, _, _, hbk⟩ := hc
    have hne : g ≠ b := by
      rintro rfl
      simp only [World.cell?, hbk] at k0
      rcases (by omega : o + i * 2 = 0 ∨ o + i * 2 = 1 ∨ o + i * 2 = 2 ∨ 3 ≤ o + i * 2) with e | e | e | e
      · rw [e] at k0; simp at k0
      · rw [e] at k0; simp at k0
      · rw [e] at k0; simp at k0
      · rw [Array.getElem?_eq_none (by simpa using e)] at k0; cases k0
    exact ⟨hg.cell k0 (by simpa using hne), hg.cell k1 (by simpa using hne)⟩
theorem OwnF.mono {w : World} {base base' : Nat} {v : Value} {xs : List Nat} (h : OwnF w base v xs) (hb : base' ≤ base) : OwnF w base' v xs :=
  ⟨h.1, h.2.elim .inl (fun ⟨g, cap, cur, h1, h2, h3⟩ => .inr ⟨g, cap, cur, h1, by omega, h3⟩)⟩
def lenOf : Value → Nat
  | .slice _ n _ => n
  | _ => 0
theorem OwnF.at {w : World} {base g n cap : Nat} {xs : List Nat} (h : OwnF w base (.slice (some ⟨g, 0, none⟩) n cap) xs) (hn : xs.length = n) (i : Nat) (hi : i < n) : (∃ x, w.cell? ⟨g, i, none⟩ = some x) ∧ w.frozen? ⟨g, i, none⟩ = false := by
  rcases h.2 with ⟨h1, _⟩ | ⟨g', cap', cur, h1, _, hg, hle, _, hsz, _⟩
  · cases h1
  · simp only [Value.slice.injEq, Option.some.injEq, Addr.mk.injEq] at h1
    obtain ⟨⟨rfl, _⟩, _, rfl⟩ := h1
    refine ⟨⟨cur[i]'(by omega), ?_⟩, ?_⟩
    · simp [World.cell?, hg, Array.getElem?_eq_getElem (show i < cur.size by omega)]
    · simp [World.frozen?, hg]
theorem OwnF.set {w : World} {base g n cap : Nat} {xs : List Nat} (h : OwnF w base (.slice (some ⟨g, 0, none⟩) n cap) xs) (hn : xs.length = n) (i : Nat) (hi : i < n) (z : Nat) : OwnF (w.setCell ⟨g, i, none⟩ (.float .f32 z)) base (.slice (some ⟨g, 0, none⟩) n cap) (xs.set i z) := by
  subst hn
  refine ⟨by simp, ?_⟩
  rcases h.2 with ⟨h1, _⟩ | ⟨g', cap', cur, h1, hb, hg, hle, hm, hsz, htk⟩
  · cases h1
  · simp only [Value.slice.injEq, Option.some.injEq, Addr.mk.injEq] at h1
    obtain ⟨⟨rfl, _⟩, _, rfl⟩ := h1
    refine .inr ⟨g, cap, cur.setIfInBounds i (.float .f32 z), by simp, hb, heapF hg, by simpa using hle, hm, by simpa using hsz, ?_⟩
    rw [List.length_set, Array.toList_setIfInBounds, List.map_set, ← htk, List.take_set]
def SampPost (b : Nat) (w : World) (e : Ending) (w' : World) : Prop :=
  ∃ g cap ys, e = .returned (.slice (some ⟨g, 0, none⟩) ys.length cap) ∧ ys.length ≤ 5000 ∧ OwnF w' w.heap.size (.slice (some ⟨g, 0, none⟩) ys.length cap) ys ∧ Cur w' b ∧ w.grownBy w' (some b)
theorem SampPost.mk {b n : Nat} {w w' : World} {g cap : Nat} {ys : List Nat} (hn : ys.length = n) (hl : n ≤ 5000) (ho : OwnF w' w.heap.size (.slice (some ⟨g, 0, none⟩) n cap) ys) (hc : Cur w' b) (hg : w.grownBy w' (some b)) : SampPost b w (.returned (.slice (some ⟨g, 0, none⟩) n cap)) w' := by
  subst hn; exact ⟨g, cap, ys, rfl, hl, ho, hc, hg⟩
end Go.Proofs.YtobpnoiienpipaaGreat
