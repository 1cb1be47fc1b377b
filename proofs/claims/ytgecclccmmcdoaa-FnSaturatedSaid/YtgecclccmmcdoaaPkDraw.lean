/-
  What is proved: the model's Transmit answers some list of samples, of no more than it was given.
  Conditions: the samples can be read.
-/
import Derived.Test.YtgecclccmmcdoaaDraw5
import Derived.Test.YtgecclccmmcdoaaDrawF32
import Derived.Test.YtgecclccmmcdoaaSampOk
import Derived.Test.YtgecclccmmcdoaaPkDec
import Derived.Test.YtgecclccmmcdoaaPairedO
import Derived.Test.YtgecclccmmcdoaaDrawLine
import Derived.Deep.RegionHeld3
namespace Go.Proofs.Ytgecclccmmcdoaa
set_option linter.unusedVariables false
open Go.RowKit
attribute [local go_sem] run_store_float run_store_complex unary_negf neg256

def SomeB (w : World) (e : Ending) (w' : World) : Prop := ∃ t : Bool, e = .returned (.bool t) ∧ w = w'
theorem l05In_any (x m : Nat) (w : World) : Calls Try.prog 157 #[.float .f32 x, .float .f32 m] w fun e w' => SomeB w e w' := by
  go_enter Try.func157, Try.ntmps157
  go_wp2
  all_goals
    go_ret
    exact ⟨_, rfl, rfl⟩
def SomeBB (w : World) (e : Ending) (w' : World) : Prop := ∃ t : Bool, e = .returned (.bool t) ∧ Below w.heap.size w w'
set_option maxHeartbeats 2000000 in
theorem specChOk_any (A O X Y : Nat) (w : World) : Calls Try.prog 150 #[.agg #[.float .f32 A, .float .f32 O, .complex .f32 X Y]] w fun e w' => SomeBB w e w' := by
  have HI := fun x m W => Lib.hid (l05In_any x m W)
  have hb : Below w.heap.size w (w.alloc (.cells #[.float .f32 A, .float .f32 O, .complex .f32 X Y] 29)) := (Below.refl _ _).alloc (Nat.le_refl _) _
  have HH := Lib.hid (show (w.alloc (.cells #[.float .f32 A, .float .f32 O, .complex .f32 X Y] 29)).heap[w.heap.size]? = _ from heap_alloc_new w _)
  obtain ⟨t1, h1⟩ : ∃ t, (FloatKind.f32.format.order A 0 == some .gt) = t := ⟨_, rfl⟩
  obtain ⟨t2, h2⟩ : ∃ t, (FloatKind.f32.format.order A 1098907648 == some .lt || FloatKind.f32.format.order A 1098907648 == some .eq) = t := ⟨_, rfl⟩
  go_enter Try.func150, Try.ntmps150
  cases t1 <;> cases t2
  all_goals
    go_wp2_with (first | (go_at_call 157; refine (HI _ _ _).out.mono ?_; rintro e w1 ⟨t, rfl, rfl⟩; cases t))
  all_goals
    go_ret
    exact ⟨_, rfl, hb⟩
def SomeC (w : World) (e : Ending) (w' : World) : Prop := ∃ p q n, e = .returned (.complex .f32 p q) ∧ w' = w.drewN n
set_option maxHeartbeats 2000000 in
theorem specTimes_any (a b x y : Nat) (w : World) : Calls Try.prog 153 #[.complex .f32 a b, .complex .f32 x y] w fun e w' => SomeC w e w' := by
  obtain ⟨r1, n1, e1, _, _⟩ := run_res .mul (.inr (.inr (.inl rfl))) a x w
  obtain ⟨r2, n2, e2, _, _⟩ := run_res .mul (.inr (.inr (.inl rfl))) b y (w.drewN n1)
  rw [drewN_addD] at e2
  obtain ⟨r3, n3, e3, _, _⟩ := run_res .sub (.inr (.inl rfl)) r1 r2 (w.drewN (n1 + n2))
  rw [drewN_addD] at e3
  obtain ⟨r4, n4, e4, _, _⟩ := run_res .mul (.inr (.inr (.inl rfl))) a y (w.drewN (n1 + n2 + n3))
  rw [drewN_addD] at e4
  obtain ⟨r5, n5, e5, _, _⟩ := run_res .mul (.inr (.inr (.inl rfl))) b x (w.drewN (n1 + n2 + n3 + n4))
  rw [drewN_addD] at e5
  obtain ⟨r6, n6, e6, _, _⟩ := run_res .add (.inl rfl) r4 r5 (w.drewN (n1 + n2 + n3 + n4 + n5))
  rw [drewN_addD] at e6
  go_enter Try.func153, Try.ntmps153
  go_wp2
  go_ret
  exact ⟨_, _, _, rfl, rfl⟩
/-- Some samples, and whether they are any. -/
def TxA (N : Nat) (w : World) (e : Ending) (w' : World) : Prop := ∃ v ys ok, e = .returned (.tuple #[v, .bool ok]) ∧ ys.length ≤ N ∧ FNew w' w.heap.size v ys ∧ Below w.heap.size w w'
/-- What stands at the head of a round. -/
structure TxRnd (w wr : World) (A O X Y gg cc n : Nat) (ys : List Nat) : Prop where
  own : OwnF wr (w.heap.size + 1) (.slice (some ⟨gg, 0, none⟩) n cc) ys
  len : ys.length = n
  chan : wr.heap[w.heap.size]? = some (.cells #[.float .f32 A, .float .f32 O, .complex .f32 X Y] 29 (0, 0))
  below : Below w.heap.size w wr
theorem TxRnd.next {w wr w' : World} {A O X Y gg cc n : Nat} {ys : List Nat} (h : TxRnd w wr A O X Y gg cc n ys) (hb : Below wr.heap.size wr w') : TxRnd w w' A O X Y gg cc n ys :=
  ⟨h.own.kept (grown_of hb) (.inr (by intro e; cases e)), h.len, (hb.block _ (Array.getElem?_eq_some_iff.1 h.chan).1).trans h.chan, below_trans h.below hb h.below.size⟩
theorem TxRnd.put {w wr w' : World} {A O X Y gg cc n g' c' m : Nat} {ys zs : List Nat} (h : TxRnd w wr A O X Y gg cc n ys) (ho : OwnF w' (w.heap.size + 1) (.slice (some ⟨g', 0, none⟩) m c') zs) (hz : zs.length = m) (hg : wr.grownBy w' (some gg)) : TxRnd w w' A O X Y g' c' m zs := by
  have hl := h.own.lt gg rfl
  refine ⟨ho, hz, ?_, h.below.grown hg h.below.size (fun k e => by have := Option.some.inj e; omega)⟩
  exact (hg.block _ (Array.getElem?_eq_some_iff.1 h.chan).1 (by intro e; have := Option.some.inj e; omega)).trans h.chan
theorem TxRnd.cells {w wr : World} {A O X Y gg cc n : Nat} {ys : List Nat} (h : TxRnd w wr A O X Y gg cc n ys) : wr.cell? ⟨w.heap.size, 0, none⟩ = some (.float .f32 A) ∧ wr.cell? ⟨w.heap.size, 1, none⟩ = some (.float .f32 O) ∧ wr.cell? ⟨w.heap.size, 2, none⟩ = some (.complex .f32 X Y) := by
  have hc := h.chan
  exact ⟨by simp [World.cell?, hc], by simp [World.cell?, hc], by simp [World.cell?, hc]⟩
set_option maxRecDepth 100000 in
set_option maxHeartbeats 8000000 in
theorem specTransmit_any (A O X Y : Nat) (v : Value) (xs : List Nat) (w : World) (h : FRow w v xs) (hl : xs.length ≤ 5000) :
    Calls Try.prog 140 #[.agg #[.float .f32 A, .float .f32 O, .complex .f32 X Y], v] w fun e w' => TxA 5000 w e w' := by
  have hA : Below w.heap.size w (w.alloc (.cells #[.float .f32 A, .float .f32 O, .complex .f32 X Y] 29)) := (Below.refl _ _).alloc (Nat.le_refl _) _
  have hA2 : Below w.heap.size w ((w.alloc (.cells #[.float .f32 A, .float .f32 O, .complex .f32 X Y] 29)).alloc (.cells #[] 26)) := hA.alloc hA.size _
  have hrow := h
  obtain ⟨av, cv, rfl, hcell⟩ := h.any
  have HROW := Lib.hid hrow
  have HC := Lib.hid hcell
  have HCH := fun W => Lib.hid (specChOk_any A O X Y W)
  have HSO := fun W hr => Lib.hid (specSamplesOk_any (.slice av xs.length cv) xs W hr (by omega))
  have hTX : TxRnd w ((w.alloc (.cells #[.float .f32 A, .float .f32 O, .complex .f32 X Y] 29)).alloc (.cells #[] 26)) A O X Y (w.heap.size + 1) 0 0 [] := by
    refine ⟨?_, rfl, ?_, hA2⟩
    · have := OwnF.made0 (w.alloc (.cells #[.float .f32 A, .float .f32 O, .complex .f32 X Y] 29))
      rw [World.size_alloc] at this
      exact this
    · exact (Below.heap_alloc _ _ _ (by simp)).trans (heap_alloc_new w _)
  have HTX := Lib.hid hTX
  have hcc : ((w.alloc (.cells #[.float .f32 A, .float .f32 O, .complex .f32 X Y] 29)).alloc (.cells #[] 26)).heap[w.heap.size]? = _ := hTX.chan
  have c0 : ((w.alloc (.cells #[.float .f32 A, .float .f32 O, .complex .f32 X Y] 29)).alloc (.cells #[] 26)).cell? ⟨w.heap.size, 0, none⟩ = some (.float .f32 A) := by simp [World.cell?, hcc]
  have c1 : ((w.alloc (.cells #[.float .f32 A, .float .f32 O, .complex .f32 X Y] 29)).alloc (.cells #[] 26)).cell? ⟨w.heap.size, 1, none⟩ = some (.float .f32 O) := by simp [World.cell?, hcc]
  have c2 : ((w.alloc (.cells #[.float .f32 A, .float .f32 O, .complex .f32 X Y] 29)).alloc (.cells #[] 26)).cell? ⟨w.heap.size, 2, none⟩ = some (.complex .f32 X Y) := by simp [World.cell?, hcc]
  clear h hrow hcell hTX hcc hA
  go_enter Try.func140, Try.ntmps140
  go_wp2_with fail
  refine (HCH _).out.mono ?_
  rintro e w1 ⟨t, rfl, hb1⟩
  have HT1 := Lib.hid (HTX.out.next hb1)
  clear c0 c1 c2 HTX hA2 HCH hb1
  cases t with
  | false =>
    have hbw := HT1.out.below
    have hnw := HT1.out.own.new
    have HN := Lib.hid (hnw.mono (Nat.le_succ _))
    clear HT1 HSO hnw
    go_wp2
    go_ret2
    exact ⟨_, [], false, rfl, Nat.zero_le _, HN.out, hbw⟩
  | true =>
    go_wp2_with fail
    refine (HSO w1 (HROW.out.below HT1.out.below)).out.mono ?_
    rintro e w2 ⟨rfl, rfl⟩
    cases hs : sampOk xs with
    | false =>
      have hbw := HT1.out.below
      have hnw := HT1.out.own.new
      have HN := Lib.hid (hnw.mono (Nat.le_succ _))
      clear HT1 HSO hnw hs
      go_wp2
      go_ret2
      exact ⟨_, [], false, rfl, Nat.zero_le _, HN.out, hbw⟩
    | true =>
      have hm4 := (sampOk_len hs).1
      clear hs HSO
      go_wp2
      go_loopw [6, 7] (fun out i wr => ∃ (I gg cc : Nat) (ys : List Nat), I % 4 = 0 ∧ I ≤ xs.length ∧ i = .int .i64 (I : Int) ∧ out = .slice (some ⟨gg, 0, none⟩) I cc ∧ TxRnd w wr A O X Y gg cc I ys) (fun _ i _ => xs.length - (intOf i).toNat)
      case atStart => exact ⟨0, _, _, _, rfl, Nat.zero_le _, rfl, rfl, HT1.out⟩
      case round =>
        obtain ⟨I, gg, cc, ys, hI4, hI, rfl, rfl, hr⟩ := hrel
        have HR := Lib.hid hr
        clear hr HT1
        by_cases hlt : I < xs.length
        · have h4 : I + 4 ≤ xs.length := by omega
          obtain ⟨g, o, rfl, hcap, m0⟩ := HC.out I hlt
          obtain ⟨_, _, e1, _, m1⟩ := HC.out (I + 1) (by omega)
          cases e1
          obtain ⟨_, _, e2, _, m2⟩ := HC.out (I + 2) (by omega)
          cases e2
          obtain ⟨_, _, e3, _, m3⟩ := HC.out (I + 3) (by omega)
          cases e3
          have hgo := grown_of HR.out.below
          have HTK := Lib.hid (l03Take_any g o xs.length cv I _ _ _ _ wr h4 hcap (by omega) (hgo.cell m0 (by simp)) (hgo.cell m1 (by simp)) (hgo.cell m2 (by simp)) (hgo.cell m3 (by simp)))
          clear m0 m1 m2 m3 hgo
          go_wp2_with fail
          refine HTK.out.mono ?_
          rintro e w4 ⟨⟨cy, cu, cz⟩, rfl, _, hb4⟩
          have hr4 := HR.out.next hb4
          have HR5 := Lib.hid (hr4.next ((Below.refl w4.heap.size w4).alloc (Nat.le_refl _) (.cells #[.float .f32 cy, .complex .f32 cu cz] 40)))
          have hl5 := heap_alloc_new w4 (.cells #[.float .f32 cy, .complex .f32 cu cz] 40)
          have x0 : (w4.alloc (.cells #[.float .f32 cy, .complex .f32 cu cz] 40)).cell? ⟨w4.heap.size, 0, none⟩ = some (.float .f32 cy) := (cell_of_row _ _ 0 _ _ _ hl5).trans rfl
          have x1 : (w4.alloc (.cells #[.float .f32 cy, .complex .f32 cu cz] 40)).cell? ⟨w4.heap.size, 1, none⟩ = some (.complex .f32 cu cz) := (cell_of_row _ _ 1 _ _ _ hl5).trans rfl
          obtain ⟨q0, q1, q2⟩ := HR5.out.cells
          clear hr4 hb4 HTK hl5 HR
          obtain ⟨r1, n1, a1, _, _⟩ := run_res .mul (.inr (.inr (.inl rfl))) A cy (w4.alloc (.cells #[.float .f32 cy, .complex .f32 cu cz] 40))
          obtain ⟨r2, n2, a2, _, _⟩ := run_res .add (.inl rfl) r1 O ((w4.alloc (.cells #[.float .f32 cy, .complex .f32 cu cz] 40)).drewN n1)
          rw [drewN_addD] at a2
          have HTM := fun W => Lib.hid (specTimes_any cu cz X Y W)
          have HR6 := Lib.hid (HR5.out.next (belowDN (Below.refl _ _) (n1 + n2)))
          go_wp2_with fail
          refine (HTM _).out.mono ?_
          rintro e w6 ⟨p, q, n3, rfl, rfl⟩
          have HR7 := Lib.hid (HR6.out.next (belowDN (Below.refl _ _) n3))
          clear a1 a2 x0 x1 q0 q1 q2 HTM HR6 HR5
          generalize (((w4.alloc (.cells #[.float .f32 cy, .complex .f32 cu cz] 40)).drewN (n1 + n2)).drewN n3) = w7 at *
          have HPT := Lib.hid (specPut_any (w.heap.size + 1) gg I cc ys r2 p q w7 HR7.out.own HR7.out.len (by omega) (by
            have h2 := (HR7.out.own.lt gg rfl).2
            have h3 := (HR7.out.own.lt gg rfl).1
            omega))
          go_wp2_with fail
          refine HPT.out.mono ?_
          rintro e w8 ⟨g8, c8, y8, rfl, hl8, ho8, hg8⟩
          have HR8 := Lib.hid (HR7.out.put ho8 hl8 hg8)
          clear ho8 hl8 hg8 HPT HR7
          go_wp2
          go_roundw
          case rel => exact ⟨I + 4, g8, c8, y8, by omega, by omega, by go_num, rfl, HR8.out⟩
          case measure => simp [intOf]; omega
        · have hII : I = xs.length := by omega
          have HSF := Lib.hid (specSamplesOk_any (.slice (some ⟨gg, 0, none⟩) I cc) ys wr HR.out.own.new.row (by have := HR.out.len; omega))
          have HNW := Lib.hid (HR.out.own.new.mono (Nat.le_succ _))
          have HLN := Lib.hid (show ys.length ≤ 5000 by have := HR.out.len; omega)
          have hbw := HR.out.below
          clear HR
          subst hII
          go_wp2_with fail
          refine HSF.out.mono ?_
          rintro e w9 ⟨rfl, rfl⟩
          cases hsy : sampOk ys with
          | false =>
            have HE := Lib.hid (OwnF.made0 wr).new
            have hsz := hbw.size
            have HBE := Lib.hid (hbw.alloc hbw.size (.cells #[] 26))
            clear hsy hbw
            go_wp2
            go_ret2
            exact ⟨_, [], false, rfl, Nat.zero_le _, HE.out.mono hsz, HBE.out⟩
          | true =>
            clear hsy
            go_wp2
            go_ret2
            exact ⟨_, ys, true, rfl, HLN.out, HNW.out, hbw⟩
end Go.Proofs.Ytgecclccmmcdoaa

/-
  What is proved: the pairs of lines that the model draws can be read.
  Conditions: the cursor's block holds a cursor.
-/
namespace Go.Proofs.Ytgecclccmmcdoaa
set_option linter.unusedVariables false
open Go.RowKit
attribute [local go_sem] run_store_float run_store_complex unary_negf neg256

theorem PO.row {w w' : World} {b W g cap : Nat} {rs : List (List C3)} {ss : List SV} (h : PO w w' b W g cap rs ss) (hW : 1 ≤ W) {r : Nat} (hr : r < rs.length) : rs.length ≤ cap ∧ ∃ g0 c0, w'.cell? ⟨g, r, none⟩ = some (.slice (some ⟨g0, 0, none⟩) rs[r].length c0) ∧ RowV w' (.slice (some ⟨g0, 0, none⟩) rs[r].length c0) rs[r] := by
  have hw := h.wide rs[r] (List.getElem_mem hr)
  have hi : 0 < rs[r].length := by omega
  obtain ⟨gr, cr, h1, _⟩ := h.grid.cell hr hi
  have hs : r < ss.length := by rw [h.grid.len]; exact hr
  obtain ⟨a, c, e, hk⟩ := rowsC_any h.grid.own.row
  obtain ⟨g1, o1, e1, h3, h2⟩ := hk r hs
  subst e1
  have hl := h.grid.len
  have e2 : (g = g1 ∧ 0 = o1) ∧ cap = c := by injection e with x1 x2 x3; injection x1 with x1; injection x1 with x1 x2; exact ⟨⟨x1, x2⟩, x3⟩
  obtain ⟨⟨rfl, rfl⟩, rfl⟩ := e2
  rw [Nat.zero_add] at h2
  have hv := (h.grid.row r hs hr).row
  rw [h1] at h2
  have e3 := Option.some.inj h2
  rw [← e3] at hv
  exact ⟨by omega, gr, cr, h1, hv⟩
/-- What a pair of lines is made of. -/
structure PairW (w4 : World) (b B g r0 c0 r2 c2 A O X Y : Nat) (cs ds : List C3) : Prop where
  chan : w4.heap[B]? = some (.cells #[.float .f32 A, .float .f32 O, .complex .f32 X Y] 29 (0, 0))
  row0 : w4.cell? ⟨g, 0, none⟩ = some (.slice (some ⟨r0, 0, none⟩) cs.length c0)
  row2 : w4.cell? ⟨g, 2, none⟩ = some (.slice (some ⟨r2, 0, none⟩) ds.length c2)
  v0 : RowV w4 (.slice (some ⟨r0, 0, none⟩) cs.length c0) cs
  v2 : RowV w4 (.slice (some ⟨r2, 0, none⟩) ds.length c2) ds
  cur : Cur w4 b
  ne : B ≠ b ∧ g ≠ b
theorem PairW.cells {w4 V : World} {b B g r0 c0 r2 c2 A O X Y : Nat} {cs ds : List C3} (h : PairW w4 b B g r0 c0 r2 c2 A O X Y cs ds) (hg : w4.grownBy V (some b)) :
    V.cell? ⟨B, 0, none⟩ = some (.float .f32 A) ∧ V.cell? ⟨B, 1, none⟩ = some (.float .f32 O) ∧ V.cell? ⟨B, 2, none⟩ = some (.complex .f32 X Y) ∧ V.cell? ⟨g, 0, none⟩ = some (.slice (some ⟨r0, 0, none⟩) cs.length c0) ∧ V.cell? ⟨g, 2, none⟩ = some (.slice (some ⟨r2, 0, none⟩) ds.length c2) := by
  have hB : V.heap[B]? = _ := (hg.block B (Array.getElem?_eq_some_iff.1 h.chan).1 (by intro e; exact h.ne.1 (Option.some.inj e))).trans h.chan
  exact ⟨by simp [World.cell?, hB], by simp [World.cell?, hB], by simp [World.cell?, hB], hg.cell h.row0 (by intro e; exact h.ne.2 (Option.some.inj e)), hg.cell h.row2 (by intro e; exact h.ne.2 (Option.some.inj e))⟩
theorem grown_bel {w4 V V' : World} {b : Nat} (hg : w4.grownBy V (some b)) (hb : Below V.heap.size V V') : w4.grownBy V' (some b) := hg.trans ⟨hb.os, hb.tape, hb.output, hb.size, fun k hk _ => hb.block k hk⟩
theorem cur_bel {V V' : World} {b : Nat} (hc : Cur V b) (hb : Below V.heap.size V V') : Cur V' b := hc.grown (grown_of hb) (fun r e => by cases e)
theorem gdr {w w' : World} {row : Option Nat} (h : w.grownBy w' row) : w.grownBy w'.drew row := grownN h 1
def PairP (b : Nat) (w : World) (e : Ending) (w' : World) : Prop := ∃ v v' xs ys, (xs.length ≤ 5000 ∧ ys.length ≤ 5000) ∧ e = .returned (.tuple #[v, v']) ∧ (FNew w' w.heap.size v xs ∧ FNew w' w.heap.size v' ys) ∧ Cur w' b ∧ w.grownBy w' (some b)
theorem FNew.curB {w w' : World} {base b : Nat} {v : Value} {xs : List Nat} (h : FNew w base v xs) (hg : w.grownBy w' (some b)) (hb : b < base) : FNew w' base v xs :=
  h.far hg (fun k hk e => by have := (h.lt k hk).1; have e2 := Option.some.inj e; omega)
set_option maxRecDepth 100000 in
set_option maxHeartbeats 8000000 in
theorem l07Pair_any (b : Nat) (w : World) (hc : Cur w b) :
    Calls Try.prog 112 #[.pointer (some ⟨b, 0, none⟩)] w fun e w' => PairP b w e w' := by
  have hlt := hc.lt
  go_enter Try.func112, Try.ntmps112
  go_wp2_with fail
  refine (l01Once_any b _ _ hc (by decide) (by decide)).mono ?_
  rintro e w1 ⟨t, rfl, hc1, hg1⟩
  cases t
  · go_wp2_with fail
    refine (l02PairedO_any _ _ hc1).mono ?_
    rintro e w2 ⟨W, g, cap, rs, ss, h1, h2, rfl, hp⟩
    have hr0n : 0 < rs.length := by omega
    have hr2n : 2 < rs.length := by omega
    have hr0 : (0 : Int) < (rs.length : Int) := by omega
    have hr2 : (2 : Int) < (rs.length : Int) := by omega
    obtain ⟨hcap, r0, c0, k0, v0⟩ := hp.row h1.1 hr0n
    obtain ⟨_, r2, c2, k2, v2⟩ := hp.row h1.1 hr2n
    have wl0 := hp.wide _ (List.getElem_mem hr0n)
    have wl2 := hp.wide _ (List.getElem_mem hr2n)
    have hl0 : rs[0].length ≤ 4 := by omega
    have hl2 : rs[2].length ≤ 4 := by omega
    have hgne : g ≠ b := by have := (hp.grid.own.lt g rfl).1; have := hg1.size; omega
    have hg2 := hg1.trans hp.grown
    have HCA := Lib.hid (l05Any_any b w2 hp.cur)
    have hc2 := hp.cur
    clear wl0 wl2 hp h2 hg1
    generalize rs[0] = cs at *
    generalize rs[2] = ds at *
    go_wp2_with fail
    refine HCA.out.mono ?_
    rintro e w3 ⟨A, O, X, Y, _, rfl, hc3, hg3⟩
    have hch := heap_alloc_new w3 (.cells #[.float .f32 A, .float .f32 O, .complex .f32 X Y] 29)
    have hAl := World.grownBy_alloc w3 (.cells #[.float .f32 A, .float .f32 O, .complex .f32 X Y] 29) (some b)
    have hg34 := hg3.trans hAl
    have HW := Lib.hid (show PairW (w3.alloc (.cells #[.float .f32 A, .float .f32 O, .complex .f32 X Y] 29)) b w3.heap.size g r0 c0 r2 c2 A O X Y cs ds from
      ⟨hch, hg34.cell k0 (by intro e; exact hgne (Option.some.inj e)), hg34.cell k2 (by intro e; exact hgne (Option.some.inj e)), v0.curF hg34 hc2, v2.curF hg34 hc2, hc3.alloc _, by have := hc3.lt; omega, hgne⟩)
    have hg4 := hg2.trans hg34
    have hc4 := hc3.alloc (.cells #[.float .f32 A, .float .f32 O, .complex .f32 X Y] 29)
    have HOC := Lib.hid (l01Once_any b 3 _ hc4 (by decide) (by decide))
    clear HCA hch hAl hg34 k0 k2 v0 v2 hg2 hg3 hc1 hc2
    go_wp2_with fail
    generalize hw4 : w3.alloc (.cells #[.float .f32 A, .float .f32 O, .complex .f32 X Y] 29) = w4 at *
    clear hw4
    refine HOC.out.mono ?_
    rintro e w5 ⟨t2, rfl, hc5, hg5⟩
    clear HOC
    have hg45 := hg5
    obtain ⟨m0, m1, m2, m3, m4⟩ := HW.out.cells hg45
    have HM0 := fun V (hV : w4.grownBy V (some b)) => Lib.hid (specMake_any (.slice (some ⟨r0, 0, none⟩) cs.length c0) cs t2 V (HW.out.v0.curF hV HW.out.cur) (by omega))
    have HT0 := fun v ys V (hl : ys.length ≤ 4100) (hr : FRow V v ys) => Lib.hid (specTransmit_any A O X Y v ys V hr (by omega))
    go_wp2
    go_region_held3 (fun V => V.cell? ⟨w3.heap.size, 0, none⟩ = some (.float .f32 A) ∧ V.cell? ⟨w3.heap.size, 1, none⟩ = some (.float .f32 O) ∧ V.cell? ⟨w3.heap.size, 2, none⟩ = some (.complex .f32 X Y) ∧ V.cell? ⟨g, 0, none⟩ = some (.slice (some ⟨r0, 0, none⟩) cs.length c0)) (go_keep)
      (first
        | (go_at_call 141; refine (HM0 _ (by first | exact gdr hg45 | exact hg45)).out.mono ?_; rintro e w6 ⟨g6, n6, cap6, y6, rfl, hy6, hn6, ho6, hb6⟩; have hg46 := grown_bel (gdr hg45) hb6; have hc6 := cur_bel (show Cur w5.drew b from hc5) hb6; have HN6 := Lib.hid ho6.new.row; clear ho6; obtain ⟨n0, n1, n2, n3, n4⟩ := HW.out.cells hg46)
        | (go_at_call 140; refine (HT0 _ _ _ (by first | exact (show y6.length ≤ 4100 by omega)) (by first | exact HN6.out)).out.mono ?_; rintro e w7 ⟨v7, y7, ok7, rfl, hl7, hn7, hb7⟩; have hg47 := grown_bel hg46 hb7; have hc7 := cur_bel hc6 hb7; have hs7 := Nat.le_trans hg46.size (Nat.le_refl w6.heap.size); have HN7 := Lib.hid hn7; clear hn7; obtain ⟨q0, q1, q2, q3, q4⟩ := HW.out.cells hg47))
    clear m0 m1 m2 m3 m4 n0 n1 n2 n3 n4 HM0 hb6 hb7 HN6 hg5 hg45 hg46 hc5 hc6
    have HM2 := fun z V (hV : w4.grownBy V (some b)) => Lib.hid (specMake_any (.slice (some ⟨r2, 0, none⟩) ds.length c2) ds z V (HW.out.v2.curF hV HW.out.cur) (by omega))
    go_wp2
    go_region_held3 (fun V => V.cell? ⟨w3.heap.size, 0, none⟩ = some (.float .f32 A) ∧ V.cell? ⟨w3.heap.size, 1, none⟩ = some (.float .f32 O) ∧ V.cell? ⟨w3.heap.size, 2, none⟩ = some (.complex .f32 X Y) ∧ V.cell? ⟨g, 2, none⟩ = some (.slice (some ⟨r2, 0, none⟩) ds.length c2)) (go_keep)
      (first
        | (go_at_call 141; refine (HM2 _ _ (by first | exact gdr hg47 | exact hg47)).out.mono ?_; rintro e w8 ⟨g8, n8, cap8, y8, rfl, hy8, hn8, ho8, hb8⟩; have hg48 := grown_bel (gdr hg47) hb8; have hc8 := cur_bel (show Cur w7.drew b from hc7) hb8; have HN8 := Lib.hid ho8.new.row; have HN78 := Lib.hid (show FNew w8 _ v7 y7 from (show FNew w7.drew _ v7 y7 from HN7.out).below hb8); clear ho8; obtain ⟨n0, n1, n2, n3, n4⟩ := HW.out.cells hg48)
        | (go_at_call 140; refine (HT0 _ _ _ (by first | exact (show y8.length ≤ 4100 by omega)) (by first | exact HN8.out)).out.mono ?_; rintro e w9 ⟨v9, y9, ok9, rfl, hl9, hn9, hb9⟩; have hg49 := grown_bel hg48 hb9; have hc9 := cur_bel hc8 hb9; have hs9 := Nat.le_trans hg48.size (Nat.le_refl w8.heap.size); have HN9 := Lib.hid hn9; have HN79 := Lib.hid (HN78.out.below hb9); clear hn9; obtain ⟨m0, m1, m2, m3, m4⟩ := HW.out.cells hg49))
    clear q0 q1 q2 q3 q4 n0 n1 n2 n3 n4 m0 m1 m2 m3 m4 hb8 hb9 HN8 HN78 HN7 hg47 hg48 hc7 hc8
    have HA := Lib.hid (HN79.out.mono (base' := w.heap.size) (Nat.le_trans hg4.size hs7))
    have HB := Lib.hid (HN9.out.mono (base' := w.heap.size) (Nat.le_trans hg4.size hs9))
    clear HN79 HN9 hs7 hs9
    have hc9b := hc9
    have HO2 := Lib.hid (l01Once_any b 10 _ hc9b (by decide) (by decide))
    go_wp2_with fail
    refine HO2.out.mono ?_
    rintro e w10 ⟨t3, rfl, hc10, hg10⟩
    have hg410 := hg49.trans hg10
    have HA10 := Lib.hid (HA.out.curB hg10 hlt)
    have HB10 := Lib.hid (HB.out.curB hg10 hlt)
    clear HO2 HA HB hc9 hc9b hg49 hg10
    cases t3
    · go_wp2
      go_ret2
      exact ⟨_, _, _, _, ⟨hl7, hl9⟩, rfl, ⟨HA10.out, HB10.out⟩, hc10, hg4.trans hg410⟩
    · have hs10 := hg410.size
      obtain ⟨m0, m1, m2, m3, m4⟩ := HW.out.cells hg410
      go_wp2
      go_region_held3 (fun V => V.cell? ⟨w3.heap.size, 0, none⟩ = some (.float .f32 A) ∧ V.cell? ⟨w3.heap.size, 1, none⟩ = some (.float .f32 O) ∧ V.cell? ⟨w3.heap.size, 2, none⟩ = some (.complex .f32 X Y) ∧ V.cell? ⟨g, 2, none⟩ = some (.slice (some ⟨r2, 0, none⟩) ds.length c2)) (go_keep)
        (first
          | (go_at_call 141; refine (HM2 _ _ (by first | exact gdr hg410 | exact hg410)).out.mono ?_; rintro e w11 ⟨g11, n11, cap11, y11, rfl, hy11, hn11, ho11, hb11⟩; have hg411 := grown_bel (gdr hg410) hb11; have hc11 := cur_bel (show Cur w10.drew b from hc10) hb11; have HN11 := Lib.hid ho11.new.row; have HA11 := Lib.hid (show FNew w11 _ v7 y7 from (show FNew w10.drew _ v7 y7 from HA10.out).below hb11); clear ho11; obtain ⟨n0, n1, n2, n3, n4⟩ := HW.out.cells hg411)
          | (go_at_call 140; refine (HT0 _ _ _ (by first | exact (show y11.length ≤ 4100 by omega)) (by first | exact HN11.out)).out.mono ?_; rintro e w12 ⟨v12, y12, ok12, rfl, hl12, hn12, hb12⟩; have hg412 := grown_bel hg411 hb12; have hc12 := cur_bel hc11 hb12; have HB12 := Lib.hid (hn12.mono (base' := w.heap.size) (Nat.le_trans hg4.size hg411.size)); have HA12 := Lib.hid (HA11.out.below hb12); clear hn12; obtain ⟨q0, q1, q2, q3, q4⟩ := HW.out.cells hg412))
      go_wp2
      go_ret2
      exact ⟨_, _, _, _, ⟨hl7, hl12⟩, rfl, ⟨HA12.out, HB12.out⟩, hc12, hg4.trans hg412⟩
  · go_wp2_with fail
    refine (l04Line_any _ _ hc1).mono ?_
    rintro e w2 ⟨v, ys, rfl, hyl, ho2, hc2, hg2⟩
    have HO2 := Lib.hid (ho2.mono hg1.size)
    clear ho2
    go_wp2_with fail
    refine (l04Line_any _ _ hc2).mono ?_
    rintro e w3 ⟨v', zs, rfl, hzl, ho3, hc3, hg3⟩
    have HO3 := Lib.hid (HO2.out.curB hg3 hlt)
    have HP3 := Lib.hid (ho3.mono (Nat.le_trans hg1.size hg2.size))
    have hg := hg1.trans (hg2.trans hg3)
    clear ho3 HO2
    go_wp2
    go_ret2
    exact ⟨_, _, ys, zs, ⟨hyl, hzl⟩, rfl, ⟨HO3.out, HP3.out⟩, hc3, hg⟩
end Go.Proofs.Ytgecclccmmcdoaa

/-
  What is proved: the pairs of lines, and the numbers beside them, that the model draws for IsKilled and TakePair can be read.
  Conditions: the bytes can be read.
-/
namespace Go.Proofs.Ytgecclccmmcdoaa
set_option linter.unusedVariables false
open Go.RowKit
attribute [local go_sem] run_store_float run_store_complex unary_negf neg256

/-- Two lists that are new, and a number. -/
def KillD (w : World) (e : Ending) (w' : World) : Prop := ∃ v v' xs ys x, (xs.length ≤ 5000 ∧ ys.length ≤ 5000) ∧ e = .returned (.tuple #[v, v', .float .f32 x]) ∧ (FNew w' w.heap.size v xs ∧ FNew w' w.heap.size v' ys) ∧ Below w.heap.size w w'
def TakeDr (w : World) (e : Ending) (w' : World) : Prop := ∃ v v' xs ys x k, (xs.length ≤ 5000 ∧ ys.length ≤ 5000) ∧ e = .returned (.tuple #[v, v', .float .f32 x, .float .f32 k]) ∧ (FNew w' w.heap.size v xs ∧ FNew w' w.heap.size v' ys) ∧ Below w.heap.size w w'
set_option maxHeartbeats 2000000 in
theorem drawKilled_any (a : Option Addr) (len cap : Nat) (w : World) (hs : Src w w.heap.size a len cap) :
    Calls Try.prog 63 #[.slice a len cap] w fun e w' => KillD w e w' := by
  have HN := Lib.hid (l01New_any a len cap w hs)
  clear hs
  go_enter Try.func63, Try.ntmps63
  go_wp2_with fail
  refine HN.out.mono ?_
  rintro e w1 ⟨rfl, hc1, hg1⟩
  go_wp2_with fail
  refine (l07Pair_any _ _ hc1).mono ?_
  rintro e w2 ⟨v, v', xs, ys, hl, rfl, ⟨hv, hv'⟩, hc2, hg2⟩
  have hlt1 := hc1.lt
  have HA := Lib.hid hv
  have HB := Lib.hid hv'
  clear hv hv' hc1
  go_wp2_with fail
  refine (l01Below_any _ _ _ hc2 (by decide) (by decide)).mono ?_
  rintro e w3 ⟨x, hx, _, rfl, hc3, hg3⟩
  have hx := hx (by decide)
  have hg := hg2.trans hg3
  have HA3 := Lib.hid (HA.out.curB hg3 hlt1)
  have HB3 := Lib.hid (HB.out.curB hg3 hlt1)
  obtain ⟨q, n, e1, R1, B1⟩ := run_res .quo (.inr (.inr (.inr rfl))) (floatOfInt .f32 ((x : Int) - 1)) 1082130432 w3
  clear hg2 hg3 hc2 HA HB
  go_wp2
  go_ret3
  exact ⟨v, v', xs, ys, q, hl, rfl, ⟨(HA3.out.mono hg1.size).below (belowDN (Below.refl _ _) n), (HB3.out.mono hg1.size).below (belowDN (Below.refl _ _) n)⟩, belowDN (drawn hg1 hg) n⟩
set_option maxHeartbeats 2000000 in
theorem drawTake_any (a : Option Addr) (len cap : Nat) (w : World) (hs : Src w w.heap.size a len cap) :
    Calls Try.prog 22 #[.slice a len cap] w fun e w' => TakeDr w e w' := by
  have HS := Lib.hid hs
  have HD := Lib.hid (drawKilled_any a len cap w hs)
  clear hs
  go_enter Try.func22, Try.ntmps22
  go_wp2_with fail
  refine HD.out.mono ?_
  rintro e w1 ⟨v, v', xs, ys, x, hl, rfl, ⟨hv, hv'⟩, hb1⟩
  have HA := Lib.hid hv
  have HB := Lib.hid hv'
  have HN := Lib.hid (l01New_any a len cap w1 (HS.out.below hb1 hb1.size))
  clear hv hv' HD HS
  go_wp2_with fail
  refine HN.out.mono ?_
  rintro e w2 ⟨rfl, hc2, hg2⟩
  have hlt2 := hc2.lt
  clear HN
  go_wp2_with fail
  refine (l01Below_any _ _ _ hc2 (by decide) (by decide)).mono ?_
  rintro e w3 ⟨y, hy, _, rfl, hc3, hg3⟩
  have hy := hy (by decide)
  obtain ⟨k, n, e1, R1, B1⟩ := run_res .quo (.inr (.inr (.inr rfl))) (floatOfInt .f32 (y : Int)) 1090519040 w3
  have hc3n := hc3.drewN n
  have hg3n := grownN hg3 n
  clear hg3 hc3 hc2 hy
  go_wp2_with fail
  generalize w3.drewN n = w4 at *
  have HO := Lib.hid (l01Once_any _ 20 _ hc3n (by decide) (by decide))
  refine HO.out.mono ?_
  rintro e w5 ⟨t, rfl, hc5, hg5⟩
  have hg35 := hg3n.trans hg5
  clear HO hg5 hg3n hc3n
  cases t
  · have hb5 := drawn hg2 hg35
    have hb05 := below_trans hb1 hb5 hb1.size
    have HA5 := Lib.hid (HA.out.below hb5)
    have HB5 := Lib.hid (HB.out.below hb5)
    obtain ⟨q, m, e2, R2, B2⟩ := run_res .quo (.inr (.inr (.inr rfl))) x 1082130432 w5
    go_wp2
    refine bodyPost_ret (v := .tuple #[v, v', .float .f32 q, .float .f32 k]) (by simp [results, Try.results22, go_sem]) rfl ⟨v, v', xs, ys, q, k, hl, rfl, ⟨HA5.out.below (belowDN (Below.refl _ _) m), HB5.out.below (belowDN (Below.refl _ _) m)⟩, belowDN hb05 m⟩
  · go_wp2_with fail
    refine (l01Odd_any _ _ hc5).mono ?_
    rintro e w6 ⟨r, rfl, hc6, hg6⟩
    have hb6 := drawn hg2 (hg35.trans hg6)
    have hb06 := below_trans hb1 hb6 hb1.size
    have HA6 := Lib.hid (HA.out.below hb6)
    have HB6 := Lib.hid (HB.out.below hb6)
    obtain ⟨z, n6, e6, B6⟩ := conv32 r w6
    obtain ⟨q, m, e2, R2, B2⟩ := run_res .quo (.inr (.inr (.inr rfl))) x 1082130432 (w6.drewN n6)
    go_wp2
    refine bodyPost_ret (v := .tuple #[v, v', .float .f32 q, .float .f32 z]) (by simp [results, Try.results22, go_sem]) rfl ⟨v, v', xs, ys, q, z, hl, rfl, ⟨HA6.out.below (belowDN (Below.refl _ _) (n6 + m)), HB6.out.below (belowDN (Below.refl _ _) (n6 + m))⟩, belowDN hb06 (n6 + m)⟩
end Go.Proofs.Ytgecclccmmcdoaa
