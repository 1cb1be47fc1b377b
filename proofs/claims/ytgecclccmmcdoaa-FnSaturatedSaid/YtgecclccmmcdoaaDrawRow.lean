/-
  What is proved: what the functions that draw rows of cells answer; the law's size test.
  Conditions: the cursor's block holds a cursor; the bytes that they draw from can be read.
-/
import Derived.Test.YtgecclccmmcdoaaRowOwn
namespace Go.Proofs.Ytgecclccmmcdoaa
set_option linter.unusedVariables false
open Go.RowKit
attribute [local go_sem] run_store_float run_store_complex unary_negf neg256

theorem drawn {w w1 w2 : World} (h1 : w.grownBy w1 none) (h2 : w1.grownBy w2 (some w.heap.size)) : Below w.heap.size w w2 :=
  ((Below.refl _ _).grown h1 (Nat.le_refl _) (fun _ h => by cases h)).grown h2 h1.size (fun k h => by cases h; exact Nat.le_refl _)
theorem big_any (a : Option Addr) (len cap : Nat) (w : World) :
    Calls Try.prog 12 #[.slice a len cap] w fun e w' => e = .returned (.bool (decide ((1048576 : Int) < len))) ∧ w = w' := by
  go_enter Try.func12, Try.ntmps12
  go_wp2
  go_ret
  exact ⟨rfl, rfl⟩

/-- Block x holds a cell whose bits fit. -/
def Holds (w : World) (x : Nat) (y u v : Nat) : Prop := (y < 2 ^ 32 ∧ u < 2 ^ 32 ∧ v < 2 ^ 32) ∧ w.heap[x]? = some (.cells #[.float .f32 y, .complex .f32 u v] 40 (0, 0))
theorem Holds.kept {w w' : World} {x y u v : Nat} {row : Option Nat} (h : Holds w x y u v) (hg : w.grownBy w' row) (hne : some x ≠ row) : Holds w' x y u v :=
  ⟨h.1, (hg.block x (Array.getElem?_eq_some_iff.1 h.2).1 hne).trans h.2⟩
theorem Holds.c0 {w : World} {x y u v : Nat} (h : Holds w x y u v) : w.cell? ⟨x, 0, none⟩ = some (.float .f32 y) := by simp [World.cell?, h.2]
theorem Holds.c1 {w : World} {x y u v : Nat} (h : Holds w x y u v) : w.cell? ⟨x, 1, none⟩ = some (.complex .f32 u v) := by simp [World.cell?, h.2]
theorem Holds.f0 {w : World} {x y u v : Nat} (h : Holds w x y u v) : w.frozen? ⟨x, 0, none⟩ = false := by simp [World.frozen?, h.2]
theorem Holds.f1 {w : World} {x y u v : Nat} (h : Holds w x y u v) : w.frozen? ⟨x, 1, none⟩ = false := by simp [World.frozen?, h.2]
theorem Holds.put {w : World} {x y u v y' u' v' : Nat} (h : Holds w x y u v) (hf : y' < 2 ^ 32 ∧ u' < 2 ^ 32 ∧ v' < 2 ^ 32) : Holds ((w.setCell ⟨x, 0, none⟩ (.float .f32 y')).setCell ⟨x, 1, none⟩ (.complex .f32 u' v')) x y' u' v' :=
  ⟨hf, heap_put (i := 1) (heap_put (i := 0) h.2)⟩
theorem Fit.snoc {cs : List C3} {y u v : Nat} (h : Fit cs) (hf : y < 2 ^ 32 ∧ u < 2 ^ 32 ∧ v < 2 ^ 32) : Fit (cs ++ [(y, u, v)]) := by
  intro c hc
  rcases List.mem_append.1 hc with hc | hc
  · exact h c hc
  · obtain rfl := List.mem_singleton.1 hc; exact hf
theorem row_lit (w : World) (y u v : Nat) : RowV (w.alloc (.cells #[.float .f32 y, .complex .f32 u v] 40)) (.slice (some ⟨w.heap.size, 0, none⟩) 1 1) [(y, u, v)] := by
  refine .inr ⟨w.heap.size, 0, 1, rfl, Nat.le_refl _, fun i hi => ?_⟩
  have hi0 : i = 0 := by simpa using hi
  subst hi0
  have := heap_alloc_new w (.cells #[.float .f32 y, .complex .f32 u v] 40)
  exact ⟨(cell_of_row _ _ 0 _ _ _ this).trans rfl, (cell_of_row _ _ 1 _ _ _ this).trans rfl⟩

def RowsPost (N : Nat) (b : Nat) (w : World) (e : Ending) (w' : World) : Prop := ∃ v cs, cs.length = N ∧ Fit cs ∧ e = .returned v ∧ RowV w' v cs ∧ Cur w' b ∧ w.grownBy w' (some b)
theorem RowsPost.mk {N b : Nat} {w w' : World} {v : Value} {cs : List C3} (hl : cs.length = N) (hf : Fit cs) (hr : RowV w' v cs) (hc : Cur w' b) (hg : w.grownBy w' (some b)) : RowsPost N b w (.returned v) w' := ⟨v, cs, hl, hf, rfl, hr, hc, hg⟩
/-- What stands at the head of a round of l02Cells. -/
structure Rnd (w wr : World) (b x : Nat) (v : Value) (cs : List C3) : Prop where
  own : OwnC wr w.heap.size v cs
  fit : Fit cs
  cur : Cur wr b
  grown : w.grownBy wr (some b)
  ne : v.ownBlock ≠ some x
  hold : ∃ y u v, Holds wr x y u v
theorem grown_own {a w w' : World} {g : Nat} {row : Option Nat} (h : a.grownBy w (some g)) (hg : w.grownBy w' row) (hr : ∀ r, row = some r → a.heap.size ≤ r) : a.grownBy w' (some g) :=
  ⟨hg.os.trans h.os, hg.tape.trans h.tape, hg.output.trans h.output, Nat.le_trans h.size hg.size, fun i hi hne => (hg.block i (Nat.lt_of_lt_of_le hi h.size) (fun e => by have := hr i e.symm; omega)).trans (h.block i hi hne)⟩
theorem Rnd.app {w wr w' : World} {b x g cap y u z : Nat} {v : Value} {cs : List C3} (h : Rnd w wr b x v cs) (hb : b < w.heap.size) (hh : Holds wr x y u z) (o : Obj)
    (hown : OwnC w' w.heap.size (.slice (some ⟨g, 0, none⟩) (cs.length + [(y, u, z)].length) cap) (cs ++ [(y, u, z)])) (hg : (wr.alloc o).grownBy w' v.ownBlock) (hor : v.ownBlock = some g ∨ g = (wr.alloc o).heap.size) :
    Rnd w w' b x (.slice (some ⟨g, 0, none⟩) (cs.length + [(y, u, z)].length) cap) (cs ++ [(y, u, z)]) := by
  have hx : x < wr.heap.size := (Array.getElem?_eq_some_iff.1 hh.2).1
  refine ⟨hown, h.fit.snoc hh.1, ?_, ?_, ?_, ?_⟩
  · exact (h.cur.alloc o).grown hg (fun r hr => Nat.lt_of_lt_of_le hb (h.own.lt r hr).1)
  · exact grown_own (grown_alloc h.grown o) hg (fun r hr => (h.own.lt r hr).1)
  · show some g ≠ some x
    intro e
    cases e
    rcases hor with hor | hor
    · exact h.ne hor
    · simp at hor; omega
  · exact ⟨y, u, z, (hh.kept (World.grownBy_alloc wr o none) (by simp)).kept hg (fun e => h.ne e.symm)⟩
theorem Rnd.next {w wr w' : World} {b x : Nat} {v : Value} {cs : List C3} (h : Rnd w wr b x v cs) (hb : b < w.heap.size) (hbx : b ≠ x) (hc : Cur w' b) (hg : wr.grownBy w' (some b)) : Rnd w w' b x v cs := by
  refine ⟨h.own.kept hg ?_, h.fit, hc, h.grown.trans hg, h.ne, ?_⟩
  · cases hv : v.ownBlock with
    | none => exact .inl rfl
    | some k => exact .inr (fun e => by cases e; have := (h.own.lt b hv).1; omega)
  · obtain ⟨y, u, z, hh⟩ := h.hold
    exact ⟨y, u, z, hh.kept hg (fun e => by cases e; exact hbx rfl)⟩
theorem Rnd.put {w wr : World} {b x y u z y' u' z' : Nat} {v : Value} {cs : List C3} (h : Rnd w wr b x v cs) (hx : w.heap.size ≤ x) (hbx : b < x) (hh : Holds wr x y u z) (hf : y' < 2 ^ 32 ∧ u' < 2 ^ 32 ∧ z' < 2 ^ 32) :
    Rnd w ((wr.setCell ⟨x, 0, none⟩ (.float .f32 y')).setCell ⟨x, 1, none⟩ (.complex .f32 u' z')) b x v cs := by
  refine ⟨?_, h.fit, (h.cur.set (p := ⟨x, 0, none⟩) hbx _).set (p := ⟨x, 1, none⟩) hbx _, grown_set (grown_set h.grown (p := ⟨x, 0, none⟩) hx _) (p := ⟨x, 1, none⟩) hx _, h.ne, ⟨_, _, _, hh.put hf⟩⟩
  have h1 := h.own.kept (Lib.grownBy_setCell wr x 0 (.float .f32 y')) (.inr h.ne)
  exact h1.kept (Lib.grownBy_setCell _ x 1 (.complex .f32 u' z')) (.inr h.ne)
set_option maxHeartbeats 4000000 in
theorem l02Cells_any (b N : Nat) (w : World) (hc : Cur w b) (hN : N ≤ 1000) :
    Calls Try.prog 119 #[.pointer (some ⟨b, 0, none⟩), .int .i64 (N : Int)] w fun e w' => RowsPost N b w e w' := by
  have hlt := hc.lt
  have hcA := hc.alloc (.cells #[] 40)
  have hgA := World.grownBy_alloc w (.cells #[] 40) (some b)
  have hoA := OwnC.made0 w
  have hsA : (w.alloc (.cells #[] 40)).heap.size = w.heap.size + 1 := by simp
  have HO := Lib.hid hoA
  clear hc hoA
  go_enter Try.func119, Try.ntmps119
  go_wp2_with fail
  generalize w.alloc (.cells #[] 40) = wA at *
  refine (l02Cell_any b _ hcA).mono ?_
  rintro e w1 ⟨y, u, v, hf, rfl, hc1, hg1⟩
  have hs1 : w.heap.size < w1.heap.size := by have := hg1.size; omega
  have hr0 : Rnd w (w1.alloc (.cells #[.float .f32 y, .complex .f32 u v] 40)) b w1.heap.size (.slice (some ⟨w.heap.size, 0, none⟩) 0 0) [] := by
    refine ⟨(HO.out.kept hg1 (.inr ?_)).alloc _, (fun c hc => by cases hc), hc1.alloc _, grown_alloc (hgA.trans hg1) _, ?_, ⟨y, u, v, hf, heap_alloc_new w1 _⟩⟩
    · intro e
      have e2 : w.heap.size = b := Option.some.inj e
      omega
    · intro e
      have e2 : w.heap.size = w1.heap.size := Option.some.inj e
      omega
  have HR0 := Lib.hid hr0
  clear hr0 hc1 hg1 hcA hgA HO hf
  obtain ⟨x, hx⟩ : ∃ x, w1.heap.size = x := ⟨_, rfl⟩
  have hbx : b < x := by omega
  have hwx : w.heap.size ≤ x := by omega
  go_wp2_with fail
  rw [hx] at HR0
  try rw [hx]
  generalize w1.alloc (.cells #[.float .f32 y, .complex .f32 u v] 40) = w2 at *
  clear hs1 hsA hx
  go_loopw [1, 5] (fun n out wr => ∃ (m g cap : Nat) (cs : List C3), n = .int .i64 (m : Int) ∧ out = .slice (some ⟨g, 0, none⟩) cs.length cap ∧ cs.length + m = N ∧ Rnd w wr b x (.slice (some ⟨g, 0, none⟩) cs.length cap) cs) (fun n _ _ => (intOf n).toNat)
  case atStart => exact ⟨N, _, 0, [], rfl, rfl, by simp, HR0.out⟩
  case round =>
    obtain ⟨m, gv, cv, cs, rfl, rfl, hm, hr⟩ := hrel
    by_cases hm0 : 0 < m
    · have HR := Lib.hid hr
      clear hr HR0
      go_wp2_with fail
      refine (l01Once_any b _ _ HR.out.cur (by decide) (by decide)).mono ?_
      rintro e w3 ⟨t, rfl, hc3, hg3⟩
      have hr3 := HR.out.next hlt (by omega) hc3 hg3
      clear HR hc3 hg3
      cases t
      · have HR3 := Lib.hid hr3
        clear hr3
        go_wp2_with fail
        refine (l02Cell_any b _ HR3.out.cur).mono ?_
        rintro e w4 ⟨y2, u2, z2, hf2, rfl, hc4, hg4⟩
        have hr4 := HR3.out.next hlt (by omega) hc4 hg4
        obtain ⟨y3, u3, z3, hh⟩ := hr4.hold
        have HP := Lib.hid (hr4.put hwx hbx hh hf2)
        have HH := Lib.hid (hh.put hf2)
        have c0 := hh.c0
        have c1 := hh.c1
        have f0 := hh.f0
        have f1 := hh.f1
        clear hr4 hh hc4 hg4 HR3 hf2
        obtain ⟨w5, hw5⟩ : ∃ w5, ((w4.setCell ⟨x, 0, none⟩ (.float .f32 y2)).setCell ⟨x, 1, none⟩ (.complex .f32 u2 z2)) = w5 := ⟨_, rfl⟩
        rw [hw5] at HP HH
        have d0 := HH.out.c0
        have d1 := HH.out.c1
        have hbase := HP.out.grown.size
        have HL := Lib.hid (row_lit w5 y2 u2 z2)
        go_wp2_with (at_builtin; refine own_append rfl (.tmp 19) (.tmp 21) rfl w.heap.size _ cs [(y2, u2, z2)] rfl (HP.out.own.alloc _) _ _ _ rfl HL.out (by simp) (by simp; omega) (by simp; omega) ?_; intro g cap w6 ho5 hg5 hor5 hlt5)
        have hfin := HP.out.app hlt HH.out _ ho5 hg5 hor5
        have HF := Lib.hid hfin
        clear hfin ho5 hg5 hor5 hlt5
        go_roundw
        case rel => exact ⟨m - 1, g, cap, cs ++ [(y2, u2, z2)], by go_num, by simp, by simp; omega, by simpa using HF.out⟩
        case measure => simp [intOf]; omega
      · have HR3 := Lib.hid hr3
        obtain ⟨y3, u3, z3, hh⟩ := hr3.hold
        have HH := Lib.hid hh
        have c0 := hh.c0
        have c1 := hh.c1
        have hbase := hr3.grown.size
        have HL := Lib.hid (row_lit w3 y3 u3 z3)
        clear hr3 hh
        go_wp2_with (at_builtin; refine own_append rfl (.tmp 19) (.tmp 21) rfl w.heap.size _ cs [(y3, u3, z3)] rfl (HR3.out.own.alloc _) _ _ _ rfl HL.out (by simp) (by simp; omega) (by simp at hbase ⊢; omega) ?_; intro g cap w5 ho5 hg5 hor5 hlt5)
        have hfin := HR3.out.app hlt HH.out _ ho5 hg5 hor5
        have HF := Lib.hid hfin
        clear hfin ho5 hg5 hor5 hlt5
        go_roundw
        case rel => exact ⟨m - 1, g, cap, cs ++ [(y3, u3, z3)], by go_num, by simp, by simp; omega, by simpa using HF.out⟩
        case measure => simp [intOf]; omega
    · have hm1 : m = 0 := by omega
      subst hm1
      have HR := Lib.hid hr
      clear hr HR0
      go_wp2
      go_ret
      exact RowsPost.mk (by omega) HR.out.fit HR.out.own.row HR.out.cur HR.out.grown

def AnyPost (b : Nat) (w : World) (e : Ending) (w' : World) : Prop := ∃ v cs, cs.length ≤ 1000 ∧ Fit cs ∧ e = .returned v ∧ RowV w' v cs ∧ Cur w' b ∧ w.grownBy w' (some b)
theorem AnyPost.mk {b : Nat} {w w' : World} {v : Value} {cs : List C3} (hl : cs.length ≤ 1000) (hf : Fit cs) (hr : RowV w' v cs) (hc : Cur w' b) (hg : w.grownBy w' (some b)) : AnyPost b w (.returned v) w' := ⟨v, cs, hl, hf, rfl, hr, hc, hg⟩
def Few (x : Int) : Prop := 0 ≤ x ∧ x ≤ 100
set_option maxHeartbeats 1000000 in
theorem l02Any_any (b : Nat) (w : World) (hc : Cur w b) :
    Calls Try.prog 118 #[.pointer (some ⟨b, 0, none⟩)] w fun e w' => AnyPost b w e w' := by
  go_enter Try.func118, Try.ntmps118
  go_wp2_with fail
  refine (l01Below_any b _ _ hc (by decide) (by decide)).mono ?_
  rintro e w1 ⟨x, hx, _, rfl, hc1, hg1⟩
  have hx := hx (by decide)
  go_wp2_with fail
  refine (l01Once_any b _ _ hc1 (by decide) (by decide)).mono ?_
  rintro e w2 ⟨t, rfl, hc2, hg2⟩
  cases t
  · have HC := Lib.hid (l02Cells_any b (1 + x) w2 hc2 (by omega))
    simp only [Int.natCast_add, Int.cast_ofNat_Int] at HC
    go_wp2_with fail
    refine HC.out.mono ?_
    rintro e w3 ⟨v, cs, hl, hf, rfl, hr, hc3, hg3⟩
    have HH := Lib.hid (And.intro hf hr)
    clear hf hr
    go_wp2
    go_ret
    exact AnyPost.mk (by omega) HH.out.1 HH.out.2 hc3 ((hg1.trans hg2).trans hg3)
  · have HN := Lib.hid (Nums.lit (P := Few) w2 3 [0, 64, 65] (by unfold Few; decide))
    go_wp2_with fail
    refine (l01PickInt_any Few b _ 3 3 _ (hc2.alloc _) (by decide) (by decide) (by have := hc2.lt; omega) (by decide) HN.out).mono ?_
    rintro e w3 ⟨z, hz, rfl, hc3, hg3⟩
    obtain ⟨m, rfl⟩ := Int.eq_ofNat_of_zero_le hz.1
    have hm : m ≤ 100 := by have := hz.2; omega
    clear hz
    have HC := Lib.hid (l02Cells_any b m w3 hc3 (by omega))
    go_wp2_with fail
    refine HC.out.mono ?_
    rintro e w4 ⟨v, cs, hl, hf, rfl, hr, hc4, hg4⟩
    have HH := Lib.hid (And.intro hf hr)
    clear hf hr
    go_wp2
    go_ret
    exact AnyPost.mk (by omega) HH.out.1 HH.out.2 hc4 ((hg1.trans hg2).trans ((World.grownBy_alloc w2 _ _).trans (hg3.trans hg4)))

def DrawRow (w : World) (e : Ending) (w' : World) : Prop := ∃ v cs, cs.length ≤ 1000 ∧ Fit cs ∧ e = .returned v ∧ RowV w' v cs ∧ Below w.heap.size w w'
theorem DrawRow.mk {w w' : World} {v : Value} {cs : List C3} (hl : cs.length ≤ 1000) (hf : Fit cs) (hr : RowV w' v cs) (hb : Below w.heap.size w w') : DrawRow w (.returned v) w' := ⟨v, cs, hl, hf, rfl, hr, hb⟩
end Go.Proofs.Ytgecclccmmcdoaa
