/-
  What is proved: what the program takes of two lines of a pair.
  Conditions: the lines can be read.
-/
import Derived.Test.YtobpnoiienpipaaGreatPz28
import Derived.Test.YtobpnoiienpipaaGreatPz40
import Derived.Test.YtobpnoiienpipaaGreatRows
import Derived.WalkKit
import Derived.WalkSpells
import Derived.WalkLawsBesides
import Derived.Lib.ItoaNum
import Derived.Lib.ItoaLen
import Derived.Deep.AppendLies
import Derived.Deep.RegionWith
import Derived.Deep.QuietTactic
import Derived.BigQuiet
import Derived.Laws.AppendOwn
import Derived.Lib.BufferWrite
import Derived.Lib.BufferOwn
import Derived.Lib.Hide
import Derived.Below
import Derived.Laws.OwnMore
import Derived.Test.YtobpnoiienpipaaGreatPz14
import Derived.Test.YtobpnoiienpipaaGreatPz04
import Derived.Test.YtobpnoiienpipaaGreatPz29
namespace Go.Proofs.YtobpnoiienpipaaGreat
set_option linter.unusedVariables false
open Go.RowKit
attribute [local go_sem] run_store_float run_store_complex unary_negf neg256

set_option maxRecDepth 100000 in
set_option maxHeartbeats 4000000 in
theorem take_any (v v' : Value) (xs ys : List Nat) (l k : Nat) (w : World) (h : FRow w v xs) (h' : FRow w v' ys) (hl : xs.length ≤ 4000000) (hl' : ys.length ≤ 4000000) :
    Calls Tryz.prog 98 #[v, v', .float .f32 l, .float .f32 k] w fun e w' => TakeA xs ys l k w e w' := by
  have HP := Lib.hid (decodePair_any v v' xs ys w h h' hl hl')
  have HK := fun W hr hr' => Lib.hid (killed_any v v' xs ys l W hr hr' hl hl')
  have HH := fun W hr hr' => Lib.hid (hueGain_any v v' xs ys W hr hr' hl hl')
  have HR := Lib.hid h
  have HR' := Lib.hid h'
  obtain ⟨n, c, o, rfl⟩ := h.lenv2
  obtain ⟨n', c', o', rfl⟩ := h'.lenv2
  clear h h'
  go_enter Tryz.func98, Tryz.ntmps98
  go_wp2_with fail
  refine HP.out.mono ?_
  rintro e w1 ⟨vp, rows, sp, ok, rfl, hp, hg, hb1⟩
  obtain ⟨ap, cp, rfl, _⟩ := hg.rows.any
  have hok := hp.ok
  have hrl : rows.length ≤ 1000000 := Nat.le_trans hok.1 (by decide)
  have hrr : ∀ r ∈ rows, r.length ≤ 1000000 := fun r hr => Nat.le_trans (hok.2.1 r hr).1 (by decide)
  have HPR := Lib.hid hp
  have HGR := Lib.hid hg
  have HRR := Lib.hid hrr
  clear hok hrr
  cases ok with
  | false =>
    clear hp hg HP HK HH
    go_wp2
    go_ret2
    exact ⟨_, [], [], false, rfl, ⟨rows, false, HPR.out, .inl ⟨rfl, rfl, rfl⟩⟩, GridN.nil0 _ _, hb1⟩
  | true =>
    have HNE := Lib.hid hp.ne
    clear hp hg HP
    go_wp2_with fail
    refine (HK w1 (HR.out.below hb1) (HR'.out.below hb1)).out.mono ?_
    rintro e w2 ⟨b, rfl, hk, hb2⟩
    have HKL := Lib.hid hk
    have hb02 := below_trans hb1 hb2 hb1.size
    have HG2 := Lib.hid (HGR.out.below hb2)
    clear hk HK hb2
    cases b with
    | true =>
      have HGY := Lib.hid (greyed_rows (.slice ap sp.length cp) rows sp w2 HG2.out.rows hrl HRR.out HNE.out)
      clear HH
      go_wp2_with fail
      refine HGY.out.mono ?_
      rintro e w3 ⟨v3, so, rfl, hg3, hb3⟩
      have HG3 := Lib.hid (hg3.mono hb02.size)
      have hb03 := below_trans hb02 hb3 hb02.size
      clear hg3 HGY hb3
      go_wp2
      go_ret2
      exact ⟨_, _, so, true, rfl, ⟨rows, true, HPR.out, .inr ⟨rfl, true, HKL.out, .inl ⟨rfl, rfl, rfl⟩⟩⟩, HG3.out, hb03⟩
    | false =>
      go_wp2_with fail
      refine (HH w2 (HR.out.below hb02) (HR'.out.below hb02)).out.mono ?_
      rintro e w3 ⟨u, z, f, rfl, hu, hb3⟩
      have HU := Lib.hid hu
      have hb03 := below_trans hb02 hb3 hb02.size
      have HSZ := Lib.hid (toSize_any (.slice ap sp.length cp) rows sp u z w3 (HG2.out.below hb3).rows hrl HRR.out)
      clear hu HH hb3
      go_wp2_with fail
      refine HSZ.out.mono ?_
      rintro e w4 ⟨v4, sz, ssz, o2, rfl, hsz, hg4, hb4⟩
      obtain ⟨a4, c4, rfl, _⟩ := hg4.rows.any
      have htw := hsz.two (Nat.le_trans HPR.out.ok.1 (Nat.le_refl _))
      have HSR := Lib.hid hsz
      have hb04 := below_trans hb03 hb4 hb03.size
      cases o2 with
      | false =>
        clear hsz hg4 hb4 HSZ htw
        go_wp2
        go_ret2
        exact ⟨_, [], [], false, rfl, ⟨rows, true, HPR.out, .inr ⟨rfl, false, HKL.out, .inr ⟨rfl, u, z, f, HU.out, sz, false, HSR.out, .inl ⟨rfl, rfl, rfl⟩⟩⟩⟩, GridN.nil0 _ _, hb04⟩
      | true =>
        have HST := Lib.hid (saturate_any (.slice a4 ssz.length c4) sz ssz k w4 hg4.rows (Nat.le_trans htw.1 (by decide)) (fun r hr => Nat.le_trans (htw.2.1 r hr).1 (by decide)))
        clear hsz hg4 hb4 HSZ htw
        go_wp2_with fail
        refine HST.out.mono ?_
        rintro e w5 ⟨v5, out, so, ok, rfl, h5, hg5, hb5⟩
        have H5 := Lib.hid h5
        have HG5 := Lib.hid (hg5.mono hb04.size)
        have hb05 := below_trans hb04 hb5 hb04.size
        clear h5 hg5 hb5 HST
        go_wp2
        go_ret2
        exact ⟨_, out, so, ok, rfl, ⟨rows, true, HPR.out, .inr ⟨rfl, false, HKL.out, .inr ⟨rfl, u, z, f, HU.out, sz, true, HSR.out, .inr ⟨rfl, H5.out⟩⟩⟩⟩, HG5.out, hb05⟩
end Go.Proofs.YtobpnoiienpipaaGreat

/-
  What is proved: the walks of the functions of chapter 1 that write and read whole numbers.
  Conditions: the arguments are numbers of 64 bits, or strings of at most 1048576 bytes.
-/
namespace Go.Proofs.YtobpnoiienpipaaGreat
set_option linter.unusedVariables false
open Go.RowKit

/-- A slice of one byte, just made, as a string. -/
@[go_sem] theorem conv_one (wx : World) (z : Int) : (convert 22 9 (.slice (some ⟨wx.heap.size, 0, none⟩) 1 1)).run Tryz.prog (wx.alloc (.cells #[.int .u8 z] 5)) = .ok (.string ⟨[UInt8.ofNat z.toNat].toArray⟩) (wx.alloc (.cells #[.int .u8 z] 5)) :=
  run_convert_bytes_arg _ _ _ Tryz.underlying22 Tryz.underlying5 _ 0 1 1 [z] rfl (fun i hi => by
    obtain rfl : i = 0 := by omega
    exact World.cell?_alloc_mark _ _ _ _ _) _ Tryz.underlying9
/-- The digits that are still to come of m. -/
def pre (m : Int) : List UInt8 := if m = 0 then [] else Lib.decDigits m.natAbs
def FR (n m : Int) (l : List UInt8) : Prop := Lib.decDigits n.natAbs = pre m ++ l
theorem decDigits_step (u : Nat) (h : u ≠ 0) : Lib.decDigits u = (if u / 10 = 0 then [] else Lib.decDigits (u / 10)) ++ [UInt8.ofNat (48 + u % 10)] := by
  rw [Lib.decDigits]
  by_cases h10 : u < 10
  · rw [dif_pos h10, if_pos (by omega), Nat.mod_eq_of_lt h10]; rfl
  · rw [dif_neg h10, if_neg (by omega)]
theorem FR.start (n : Int) (h : ¬ n = 0) : FR n n [] := by unfold FR pre; rw [if_neg h]; simp
theorem FR.step {n m : Int} {l : List UInt8} (h : FR n m l) (hm : ¬ m = 0) : FR n (m.tdiv 10) (UInt8.ofNat (48 + m.natAbs % 10) :: l) := by
  unfold FR at h ⊢
  rw [h]
  have e : (m.tdiv 10).natAbs = m.natAbs / 10 := by rw [Int.natAbs_tdiv]; rfl
  have hz : (m.tdiv 10 = 0) ↔ (m.natAbs / 10 = 0) := by omega
  unfold pre
  rw [if_neg hm, decDigits_step _ (by omega), e]
  by_cases hq : m.natAbs / 10 = 0
  · rw [if_pos hq, if_pos (hz.2 hq)]; simp
  · rw [if_neg hq, if_neg (fun h => hq (hz.1 h))]; simp
theorem FR.len {n m : Int} {l : List UInt8} (h : FR n m l) (h0 : -9223372036854775808 ≤ n) (h1 : n ≤ 9223372036854775807) : l.length ≤ 20 := by
  have h2 : (Lib.decDigits n.natAbs).length ≤ 20 := by rw [Lib.decDigits_length]; exact Lib.nDigits_le20 _ (by omega)
  unfold FR at h
  rw [h, List.length_append] at h2
  omega
theorem FR.done {n : Int} {l : List UInt8} (h : FR n 0 l) : l = Lib.decDigits n.natAbs := by
  unfold FR pre at h; rw [if_pos rfl] at h; simpa using h.symm
end Go.Proofs.YtobpnoiienpipaaGreat

/-
  What is proved: small laws on slices of texts that a call makes for itself; what the laws' own functions over them answer (comparing, marking, asking the tmarks).
  Conditions: none beyond those that each fact names.
-/
namespace Go.Proofs.YtobpnoiienpipaaGreat
set_option linter.unusedVariables false
open Go.RowKit

def strV (l : List UInt8) : Value := .string ⟨l.toArray⟩
/-- The slice v of texts, owned from block base on, holds ls. -/
def OwnS (w : World) (base : Nat) (v : Value) (ls : List (List UInt8)) : Prop := w.ownsRow base 9 1 v ls.length (ls.map strV)
theorem OwnS.nil (w : World) (base : Nat) : OwnS w base (.slice none 0 0) [] := World.ownsRow_nil _ _ _ _
theorem OwnS.alloc {w : World} {base : Nat} {v : Value} {ls : List (List UInt8)} (h : OwnS w base v ls) (o : Obj) : OwnS (w.alloc o) base v ls := World.ownsRow.alloc h o
theorem OwnS.kept {w w' : World} {base : Nat} {v : Value} {ls : List (List UInt8)} {row : Option Nat} (h : OwnS w base v ls) (hg : w.grownBy w' row) (hne : v.ownBlock = none ∨ v.ownBlock ≠ row) : OwnS w' base v ls := World.ownsRow.kept h hg hne
theorem OwnS.lt {w : World} {base : Nat} {v : Value} {ls : List (List UInt8)} (h : OwnS w base v ls) : ∀ k, v.ownBlock = some k → base ≤ k ∧ k < w.heap.size := World.ownsRow.lt h
theorem OwnS.made0 (w : World) : OwnS (w.alloc (.cells #[] 9)) w.heap.size (.slice (some ⟨w.heap.size, 0, none⟩) 0 0) [] := World.ownsRow_made w #[] 0 (Nat.le_refl _) (by unfold maxLen; omega) rfl
theorem OwnS.below {w w' : World} {base : Nat} {v : Value} {ls : List (List UInt8)} (h : OwnS w base v ls) (hb : Below w.heap.size w w') : OwnS w' base v ls :=
  h.kept (row := none) ⟨hb.os, hb.tape, hb.output, hb.size, fun k hk _ => hb.block k hk⟩ (by cases hv : v.ownBlock <;> simp)
theorem below_grown {w w' : World} (hb : Below w.heap.size w w') : w.grownBy w' none := ⟨hb.os, hb.tape, hb.output, hb.size, fun k hk _ => hb.block k hk⟩
theorem OwnS.low {w : World} {base base' : Nat} {v : Value} {ls : List (List UInt8)} (h : OwnS w base v ls) (hb : base' ≤ base) : OwnS w base' v ls := by
  obtain ⟨h1, h2⟩ := h
  refine ⟨h1, ?_⟩
  rcases h2 with h2 | ⟨g, cap, cur, hv, hg, rest⟩
  · exact .inl h2
  · exact .inr ⟨g, cap, cur, hv, by omega, rest⟩
/-- What such a slice looks like. -/
theorem OwnS.shape {w : World} {base : Nat} {v : Value} {ls : List (List UInt8)} (h : OwnS w base v ls) :
    (v = .slice none 0 0 ∧ ls = []) ∨ ∃ g cap, v = .slice (some ⟨g, 0, none⟩) ls.length cap ∧ base ≤ g ∧ g < w.heap.size ∧ ls.length ≤ cap ∧ cap ≤ maxLen := by
  rcases h.2 with ⟨rfl, h0⟩ | ⟨g, cap, cur, rfl, hb, hg, hn, hc, _⟩
  · exact .inl ⟨rfl, List.eq_nil_of_length_eq_zero h0⟩
  · exact .inr ⟨g, cap, rfl, hb, (Array.getElem?_eq_some_iff.1 hg).1, hn, hc⟩
theorem OwnS.cell {w : World} {base g n cap : Nat} {ls : List (List UInt8)} (h : OwnS w base (.slice (some ⟨g, 0, none⟩) n cap) ls) (k : Nat) (hk : k < ls.length) : w.cell? ⟨g, k, none⟩ = some (strV ls[k]) ∧ w.frozen? ⟨g, k, none⟩ = false := by
  have hc := World.ownsRow.cells h (g := g) rfl k (strV ls[k]) (by simp [hk])
  have hadd : (⟨g, 0, none⟩ : Addr).add k = ⟨g, k, none⟩ := by unfold Addr.add; split <;> simp_all
  rw [hadd] at hc
  refine ⟨hc, ?_⟩
  obtain ⟨h1, h2⟩ := h
  rcases h2 with ⟨h2, _⟩ | ⟨g', cap', cur, hv, hb, hg, hn, hcap, hsz, htk⟩
  · cases h2
  · simp only [Value.slice.injEq, Option.some.injEq, Addr.mk.injEq] at hv
    obtain ⟨⟨rfl, _⟩, _⟩ := hv
    simp [World.frozen?, hg]
theorem heap_set_s {w : World} {b i : Nat} {c : Array Value} {t : TypeId} {v : Value} (h : w.heap[b]? = some (.cells c t (0, 0))) : (w.setCell ⟨b, i, none⟩ v).heap[b]? = some (.cells (c.setIfInBounds i v) t (0, 0)) := by
  simp [World.setCell, Array.getElem?_modify, h]
theorem OwnS.store {w : World} {base g n cap : Nat} {ls : List (List UInt8)} (h : OwnS w base (.slice (some ⟨g, 0, none⟩) n cap) ls) (k : Nat) (y : List UInt8) :
    OwnS (w.setCell ⟨g, k, none⟩ (strV y)) base (.slice (some ⟨g, 0, none⟩) n cap) (ls.set k y) := by
  obtain ⟨h1, h2⟩ := h
  rcases h2 with ⟨h2, _⟩ | ⟨g', cap', cur, hv, hb, hg, hn, hcap, hsz, htk⟩
  · cases h2
  · simp only [Value.slice.injEq, Option.some.injEq, Addr.mk.injEq] at hv
    obtain ⟨⟨rfl, _⟩, rfl, rfl⟩ := hv
    refine ⟨by simp, .inr ⟨g, cap, cur.setIfInBounds k (strV y), by rw [List.length_set], hb, heap_set_s hg, by rw [List.length_set]; exact hn, hcap, by simpa using hsz, ?_⟩⟩
    rw [List.length_set, Nat.mul_one]
    rw [Nat.mul_one] at htk
    rw [Array.toList_setIfInBounds, List.take_set, htk, List.map_set]

/-! ### Comparing -/
/-! ### Marks -/
def MK (n m : Nat) (l : List UInt8) : Prop := Lib.decDigits n = (if m = 0 then [] else Lib.decDigits m) ++ l
theorem MK.start {n : Nat} (h : 0 < n) : MK n n [] := by unfold MK; rw [if_neg (by omega)]; simp
theorem MK.step {n m : Nat} {l : List UInt8} (h : MK n m l) (hm : 0 < m) : MK n (m / 10) (UInt8.ofNat (48 + m % 10) :: l) := by
  unfold MK at h ⊢
  rw [h, if_neg (by omega), decDigits_step _ (by omega : m ≠ 0)]
  simp
theorem MK.done {n : Nat} {l : List UInt8} (h : MK n 0 l) : l = Lib.decDigits n := by unfold MK at h; rw [if_pos rfl] at h; simpa using h.symm
theorem MK.len {n m : Nat} {l : List UInt8} (h : MK n m l) (hn : n ≤ 10000000) : l.length ≤ 20 := by
  have h2 : (Lib.decDigits n).length ≤ 20 := by rw [Lib.decDigits_length]; exact Lib.nDigits_le20 _ (by omega)
  unfold MK at h
  rw [h, List.length_append] at h2
  omega
def mkT (k : Nat) : List UInt8 := 109 :: Lib.decDigits k
def tmarks (k n : Nat) : List (List UInt8) := (List.range n).map fun i => mkT (k + i)
end Go.Proofs.YtobpnoiienpipaaGreat

/-
  What is proved: lists of texts that came in: how they are read, sized and copied by the exact laws.
  Conditions: those that each fact names.
-/
namespace Go.Proofs.YtobpnoiienpipaaGreat
set_option linter.unusedVariables false
open Go.RowKit

/-- The slice v reads as the texts ls. -/
def TRow (w : World) (v : Value) (ls : List (List UInt8)) : Prop := ((∃ a c, v = .slice a 0 c) ∧ ls = []) ∨ ∃ g o cap, v = .slice (some ⟨g, o, none⟩) ls.length cap ∧ ls.length ≤ cap ∧ ∀ k (h : k < ls.length), w.cell? ⟨g, o + k, none⟩ = some (strV ls[k])
theorem TRow.lenv {w : World} {v : Value} {ls : List (List UInt8)} (h : TRow w v ls) : ∃ a c, v = .slice a ls.length c := by
  rcases h with ⟨⟨a, c, rfl⟩, rfl⟩ | ⟨g, o, cap, rfl, _⟩ <;> exact ⟨_, _, rfl⟩
theorem TRow.below {w w' : World} {v : Value} {ls : List (List UInt8)} (h : TRow w v ls) (hb : Below w.heap.size w w') : TRow w' v ls := by
  rcases h with h | ⟨g, o, cap, rfl, hc, hcell⟩
  · exact .inl h
  · exact .inr ⟨g, o, cap, rfl, hc, fun k hk => (below_grown hb).cell (hcell k hk) (by simp)⟩
theorem TRow.any {w : World} {v : Value} {ls : List (List UInt8)} (h : TRow w v ls) : ∃ a c, v = .slice a ls.length c ∧ ∀ k (hk : k < ls.length), ∃ g o, a = some ⟨g, o, none⟩ ∧ ls.length ≤ c ∧ w.cell? ⟨g, o + k, none⟩ = some (strV ls[k]) := by
  rcases h with ⟨⟨a, c, rfl⟩, rfl⟩ | ⟨g, o, cap, rfl, hc, hcell⟩
  · exact ⟨_, _, rfl, fun k hk => absurd hk (by simp)⟩
  · exact ⟨_, _, rfl, fun k hk => ⟨g, o, rfl, hc, hcell k hk⟩⟩
theorem OwnS.row {w : World} {base : Nat} {v : Value} {ls : List (List UInt8)} (h : OwnS w base v ls) : TRow w v ls := by
  rcases h.shape with ⟨rfl, rfl⟩ | ⟨g, cap, rfl, _, _, hc, _⟩
  · exact .inl ⟨⟨_, _, rfl⟩, rfl⟩
  · exact .inr ⟨g, 0, cap, rfl, hc, fun k hk => by rw [Nat.zero_add]; exact (h.cell k hk).1⟩
theorem OwnS.same {w w' : World} {base : Nat} {v : Value} {ls : List (List UInt8)} (h : OwnS w base v ls) (hk : ∀ k, base ≤ k → k < w.heap.size → w'.heap[k]? = w.heap[k]?) : OwnS w' base v ls := by
  refine ⟨h.1, h.2.imp id fun ⟨g, cap, cur, h1, h2, h3, h4⟩ => ⟨g, cap, cur, h1, h2, ?_, h4⟩⟩
  rw [hk g h2 (Array.getElem?_eq_some_iff.1 h3).1]
  exact h3
end Go.Proofs.YtobpnoiienpipaaGreat

/-
  What is proved: what the exact laws do with sets: sizing, copying, comparing, marking.
  Conditions: those that each fact names.
-/
namespace Go.Proofs.YtobpnoiienpipaaGreat
set_option linter.unusedVariables false
open Go.RowKit
attribute [local go_sem] run_store_float run_store_complex unary_negf neg256

/-- A set: what it holds but for its log. -/
structure SetC where
  c : Int
  r : Int
  s : Nat
  l : Nat
  t : Nat
def SetC.ok (x : SetC) : Prop := I64 x.c ∧ I64 x.r
/-- Its value; v is the log. -/
def SetC.val (x : SetC) (v : Value) : Value := .agg #[.int .i64 x.c, .int .i64 x.r, .float .f32 x.s, .float .f32 x.l, .float .f32 x.t, v]
def SetC.cells (x : SetC) (v : Value) : Array Value := #[.int .i64 x.c, .int .i64 x.r, .float .f32 x.s, .float .f32 x.l, .float .f32 x.t, v]
theorem alloc_keeps (W : World) (o : Obj) {k : Nat} (h : k < W.heap.size) : (W.alloc o).heap[k]? = W.heap[k]? := ((Below.refl W.heap.size W).alloc (Nat.le_refl _) o).block k h
/-- Two sets are the same, but for their logs. -/
def SetC.Same (x y : SetC) : Prop := x.c = y.c ∧ x.r = y.r ∧ Sm x.s y.s ∧ Sm x.l y.l ∧ Sm x.t y.t
theorem SetC.Same.refl (x : SetC) : x.Same x := ⟨rfl, rfl, Sm.refl _, Sm.refl _, Sm.refl _⟩
/-- A set lies at the head of block b. -/
abbrev SetAt (W : World) (b : Nat) (x : SetC) (v : Value) : Prop := W.cell? ⟨b, 0, none⟩ = some (.int .i64 x.c) ∧ W.cell? ⟨b, 1, none⟩ = some (.int .i64 x.r) ∧ W.cell? ⟨b, 2, none⟩ = some (.float .f32 x.s) ∧ W.cell? ⟨b, 3, none⟩ = some (.float .f32 x.l) ∧ W.cell? ⟨b, 4, none⟩ = some (.float .f32 x.t) ∧ W.cell? ⟨b, 5, none⟩ = some v
theorem SetAt.of {W : World} {b : Nat} {x : SetC} {v : Value} {t : TypeId} (h : W.heap[b]? = some (.cells (x.cells v) t (0, 0))) : SetAt W b x v := by
  refine ⟨?_, ?_, ?_, ?_, ?_, ?_⟩ <;> simp [World.cell?, h, SetC.cells]
theorem SetAt.new (W : World) (x : SetC) (v : Value) (t : TypeId) : SetAt (W.alloc (.cells (x.cells v) t)) W.heap.size x v := SetAt.of (heap_alloc_new W _)
theorem SetAt.keep {W W' : World} {b n : Nat} {x : SetC} {v : Value} (h : SetAt W b x v) (hb : Below n W W') (hn : b < n) : SetAt W' b x v := by
  obtain ⟨h0, h1, h2, h3, h4, h5⟩ := h
  exact ⟨(hb.cell (p := ⟨b, 0, none⟩) hn).trans h0, (hb.cell (p := ⟨b, 1, none⟩) hn).trans h1, (hb.cell (p := ⟨b, 2, none⟩) hn).trans h2, (hb.cell (p := ⟨b, 3, none⟩) hn).trans h3, (hb.cell (p := ⟨b, 4, none⟩) hn).trans h4, (hb.cell (p := ⟨b, 5, none⟩) hn).trans h5⟩
end Go.Proofs.YtobpnoiienpipaaGreat

/-
  What is proved: the walks of SetOk and NewSet, the program's and the model's.
  Conditions: the numbers are 64-bit ones; the log can be read.
-/
namespace Go.Proofs.YtobpnoiienpipaaGreat
set_option linter.unusedVariables false
open Go.RowKit
attribute [local go_sem] run_store_float run_store_complex unary_negf neg256 neg1024

def ge0 (x : Nat) : Bool := Ieee.single.order 0 x == some .lt || Ieee.single.order 0 x == some .eq
def le16 (x : Nat) : Bool := Ieee.single.order x 1098907648 == some .lt || Ieee.single.order x 1098907648 == some .eq
theorem geq_0 (x : Nat) : (FloatKind.f32.format.order x 0 == some .gt || FloatKind.f32.format.order x 0 == some .eq) = ge0 x := by
  obtain ⟨h1, h2⟩ := dorder_swap (Ieee.single.read x) (Ieee.single.read 0)
  show (Ieee.single.order x 0 == some .gt || Ieee.single.order x 0 == some .eq) = _
  unfold ge0 Ieee.Format.order
  rw [h1, h2]
theorem leq_0 (x : Nat) : (FloatKind.f32.format.order 0 x == some .lt || FloatKind.f32.format.order 0 x == some .eq) = ge0 x := rfl
theorem leq_16 (x : Nat) : (FloatKind.f32.format.order x 1098907648 == some .lt || FloatKind.f32.format.order x 1098907648 == some .eq) = le16 x := rfl
attribute [local go_sem] geq_0 leq_0 leq_16 geq_lo1 leq_lo1 leq_hi1

/-- Is the set valid? n: how many texts its log has. -/
def setB (x : SetC) (n : Nat) : Bool := decide (1 ≤ x.c) && (decide (x.c ≤ 64) && (rowCnt x.r && (fin1 x.s && (ge0 x.l && (le16 x.l && (ge0 x.t && (le16 x.t && decide (n ≤ 100))))))))
theorem isGain_any (x : Nat) (w : World) :
    Calls Tryz.prog 62 #[.float .f32 x] w fun e w' => e = .returned (.bool (ge0 x && le16 x)) ∧ w = w' := by
  cases h : ge0 x
  · go_enter Tryz.func62, Tryz.ntmps62
    go_wp2
    go_ret
    exact ⟨rfl, rfl⟩
  · go_enter Tryz.func62, Tryz.ntmps62
    go_wp2
    go_ret
    exact ⟨by simp, rfl⟩
set_option maxRecDepth 100000 in
set_option maxHeartbeats 4000000 in
theorem setOk_any (x : SetC) (v : Value) (ls : List (List UInt8)) (w : World) (hx : x.ok) (h : TRow w v ls) (hl : ls.length ≤ 3000000) :
    Calls Tryz.prog 31 #[x.val v] w fun e w' => e = .returned (.bool (setB x ls.length)) ∧ Below w.heap.size w w' := by
  have hA : ∀ o, Below w.heap.size w (w.alloc o) := fun o => (Below.refl _ _).alloc (Nat.le_refl _) o
  obtain ⟨a, c, rfl⟩ := h.lenv
  obtain ⟨xc, xr, xs, xl, xt⟩ := x
  obtain ⟨⟨i1, i2⟩, ⟨i3, i4⟩⟩ := hx
  simp only [SetC.val, setB] at *
  have H1 := fun W => Lib.hid (isRowCount_any xr i3 i4 W)
  have H2 := fun W => Lib.hid (within1_any xs W)
  have H3 := fun W => Lib.hid (isGain_any xl W)
  have H4 := fun W => Lib.hid (isGain_any xt W)
  rw [← Bool.and_assoc (ge0 xt), ← Bool.and_assoc (ge0 xl)]
  clear h i3 i4
  generalize rowCnt xr = b1 at *
  generalize fin1 xs = b2 at *
  generalize (ge0 xl && le16 xl) = b3 at *
  generalize (ge0 xt && le16 xt) = b4 at *
  by_cases q1 : 1 ≤ xc
  rotate_left
  · go_enter Tryz.func31, Tryz.ntmps31
    go_wp2_with (first | (go_at_call 55; refine (H1 _).out.mono ?_; rintro e w1 ⟨rfl, rfl⟩) | (go_at_call 61; refine (H2 _).out.mono ?_; rintro e w1 ⟨rfl, rfl⟩) | (go_at_call 62; first | (refine (H3 _).out.mono ?_; rintro e w1 ⟨rfl, rfl⟩) | (refine (H4 _).out.mono ?_; rintro e w1 ⟨rfl, rfl⟩)))
    all_goals
      go_ret
      refine ⟨?_, hA _⟩
      first | rfl | (simp_all; done) | (simp_all; omega) | (simp_all; intros; omega)
  by_cases q2 : xc ≤ 64
  rotate_left
  · go_enter Tryz.func31, Tryz.ntmps31
    go_wp2_with (first | (go_at_call 55; refine (H1 _).out.mono ?_; rintro e w1 ⟨rfl, rfl⟩) | (go_at_call 61; refine (H2 _).out.mono ?_; rintro e w1 ⟨rfl, rfl⟩) | (go_at_call 62; first | (refine (H3 _).out.mono ?_; rintro e w1 ⟨rfl, rfl⟩) | (refine (H4 _).out.mono ?_; rintro e w1 ⟨rfl, rfl⟩)))
    all_goals
      go_ret
      refine ⟨?_, hA _⟩
      first | rfl | (simp_all; done) | (simp_all; omega) | (simp_all; intros; omega)
  cases b1
  · go_enter Tryz.func31, Tryz.ntmps31
    go_wp2_with (first | (go_at_call 55; refine (H1 _).out.mono ?_; rintro e w1 ⟨rfl, rfl⟩) | (go_at_call 61; refine (H2 _).out.mono ?_; rintro e w1 ⟨rfl, rfl⟩) | (go_at_call 62; first | (refine (H3 _).out.mono ?_; rintro e w1 ⟨rfl, rfl⟩) | (refine (H4 _).out.mono ?_; rintro e w1 ⟨rfl, rfl⟩)))
    all_goals
      go_ret
      refine ⟨?_, hA _⟩
      first | rfl | (simp_all; done) | (simp_all; omega) | (simp_all; intros; omega)
  cases b2
  · go_enter Tryz.func31, Tryz.ntmps31
    go_wp2_with (first | (go_at_call 55; refine (H1 _).out.mono ?_; rintro e w1 ⟨rfl, rfl⟩) | (go_at_call 61; refine (H2 _).out.mono ?_; rintro e w1 ⟨rfl, rfl⟩) | (go_at_call 62; first | (refine (H3 _).out.mono ?_; rintro e w1 ⟨rfl, rfl⟩) | (refine (H4 _).out.mono ?_; rintro e w1 ⟨rfl, rfl⟩)))
    all_goals
      go_ret
      refine ⟨?_, hA _⟩
      first | rfl | (simp_all; done) | (simp_all; omega) | (simp_all; intros; omega)
  cases b3
  · go_enter Tryz.func31, Tryz.ntmps31
    go_wp2_with (first | (go_at_call 55; refine (H1 _).out.mono ?_; rintro e w1 ⟨rfl, rfl⟩) | (go_at_call 61; refine (H2 _).out.mono ?_; rintro e w1 ⟨rfl, rfl⟩) | (go_at_call 62; first | (refine (H3 _).out.mono ?_; rintro e w1 ⟨rfl, rfl⟩) | (refine (H4 _).out.mono ?_; rintro e w1 ⟨rfl, rfl⟩)))
    all_goals
      go_ret
      refine ⟨?_, hA _⟩
      first | rfl | (simp_all; done) | (simp_all; omega) | (simp_all; intros; omega)
  cases b4
  · go_enter Tryz.func31, Tryz.ntmps31
    go_wp2_with (first | (go_at_call 55; refine (H1 _).out.mono ?_; rintro e w1 ⟨rfl, rfl⟩) | (go_at_call 61; refine (H2 _).out.mono ?_; rintro e w1 ⟨rfl, rfl⟩) | (go_at_call 62; first | (refine (H3 _).out.mono ?_; rintro e w1 ⟨rfl, rfl⟩) | (refine (H4 _).out.mono ?_; rintro e w1 ⟨rfl, rfl⟩)))
    all_goals
      go_ret
      refine ⟨?_, hA _⟩
      first | rfl | (simp_all; done) | (simp_all; omega) | (simp_all; intros; omega)
  go_enter Tryz.func31, Tryz.ntmps31
  go_wp2_with (first | (go_at_call 55; refine (H1 _).out.mono ?_; rintro e w1 ⟨rfl, rfl⟩) | (go_at_call 61; refine (H2 _).out.mono ?_; rintro e w1 ⟨rfl, rfl⟩) | (go_at_call 62; first | (refine (H3 _).out.mono ?_; rintro e w1 ⟨rfl, rfl⟩) | (refine (H4 _).out.mono ?_; rintro e w1 ⟨rfl, rfl⟩)))
  all_goals
    go_ret
    refine ⟨?_, hA _⟩
    first | rfl | (simp_all; done) | (simp_all; omega) | (simp_all; intros; omega)
theorem setB_parts (x : SetC) (n : Nat) : setB x n = ((decide (1 ≤ x.c) && decide (x.c ≤ 64)) && ((decide (4 ≤ x.r) && decide (x.r ≤ 64)) && (decide (x.r % 4 = 0) && (fin1 x.s && (ge0 x.l && (le16 x.l && (ge0 x.t && (le16 x.t && decide (n ≤ 100))))))))) := by
  unfold setB rowCnt
  cases decide (1 ≤ x.c) <;> cases decide (x.c ≤ 64) <;> cases decide (4 ≤ x.r) <;> cases decide (x.r ≤ 64) <;> cases decide (x.r % 4 = 0) <;> rfl
end Go.Proofs.YtobpnoiienpipaaGreat
