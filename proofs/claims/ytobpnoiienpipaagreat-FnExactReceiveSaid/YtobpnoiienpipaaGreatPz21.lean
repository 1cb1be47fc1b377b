/-
  What is proved: the walks of the model's Brightness and Colouring.
  Conditions: the list can be read; at most 4000000 numbers.
-/
import Derived.Test.YtobpnoiienpipaaGreatPz20
import Derived.Test.YtobpnoiienpipaaGreatPz19
import Derived.Test.YtobpnoiienpipaaGreatPz05
import Derived.Test.YtobpnoiienpipaaGreatPz10
namespace Go.Proofs.YtobpnoiienpipaaGreat
set_option linter.unusedVariables false
open Go.RowKit
attribute [local go_sem] run_store_float run_store_complex unary_negf neg256

theorem RNew.lenv {w : World} {base : Nat} {v : Value} {cs : List C3} (h : RNew w base v cs) : ∃ a c, v = .slice a cs.length c := by
  rcases h with ⟨rfl, rfl⟩ | ⟨g, cap, cur, rfl, _⟩
  · exact ⟨none, 0, rfl⟩
  · exact ⟨_, _, rfl⟩
/-- What stands at the head of a round. -/
structure SB (w w1 wr : World) (g o : Nat) (cs : List C3) (gg n cc : Nat) (rs : List Nat) : Prop where
  own : OwnF wr w.heap.size (.slice (some ⟨gg, 0, none⟩) n cc) rs
  num : rs.length = n
  below : Below w.heap.size w wr
  glt : g < wr.heap.size
  ne : gg ≠ g
  cell : ∀ i (h : i < cs.length), wr.cell? ⟨g, o + i * 2, none⟩ = some (.float .f32 cs[i].1)
theorem SB.snoc {w w1 wr w6 : World} {g o gg n cc g6 cap6 z : Nat} {cs : List C3} {rs : List Nat} (x : Obj) (h : SB w w1 wr g o cs gg n cc rs)
    (ho : OwnF w6 w.heap.size (.slice (some ⟨g6, 0, none⟩) (n + 1) cap6) (rs ++ [z])) (hg : (wr.alloc x).grownBy w6 (Value.slice (some ⟨gg, 0, none⟩) n cc).ownBlock) (hor : (Value.slice (some ⟨gg, 0, none⟩) n cc).ownBlock = some g6 ∨ g6 = (wr.alloc x).heap.size) :
    SB w w1 w6 g o cs g6 (n + 1) cap6 (rs ++ [z]) := by
  have hg' : (wr.alloc x).grownBy w6 (some gg) := hg
  refine ⟨ho, by simp [h.num], snoc_below h.below h.own x hg, Nat.lt_of_lt_of_le h.glt (Nat.le_trans (by simp) hg.size), ?_, fun i hi => ?_⟩
  · rcases hor with e | e
    · have e2 : gg = g6 := Option.some.inj e
      rw [← e2]; exact h.ne
    · have := h.glt
      simp at e
      omega
  · have c1 := (World.grownBy_alloc wr x none).cell (h.cell i hi) (by simp)
    exact hg'.cell c1 (by intro e; first | exact h.ne (Option.some.inj e) | exact h.ne (Option.some.inj e).symm)
theorem SB.new {w w1 wr : World} {g o gg n cc : Nat} {cs : List C3} {rs : List Nat} (h : SB w w1 wr g o cs gg n cc rs) (hk : rs = spread cs) : FNew wr w.heap.size (.slice (some ⟨gg, 0, none⟩) n cc) (spread cs) := hk ▸ h.own.new
/-- The same, of Colouring. -/
structure SC (w wr : World) (g : Nat) (xs bs : List Nat) (gg n cc : Nat) (rs : List Nat) : Prop where
  own : OwnF wr w.heap.size (.slice (some ⟨gg, 0, none⟩) n cc) rs
  num : rs.length = n
  below : Below w.heap.size w wr
  glt : g < wr.heap.size
  ne : gg ≠ g
  cell : ∀ i (h : i < bs.length), wr.cell? ⟨g, i, none⟩ = some (.float .f32 bs[i])
  res : ResL .sub xs bs rs
theorem SC.snoc {w wr w6 : World} {g gg n cc g6 cap6 z : Nat} {xs bs rs : List Nat} (x : Obj) (h : SC w wr g xs bs gg n cc rs)
    (ho : OwnF w6 w.heap.size (.slice (some ⟨g6, 0, none⟩) (n + 1) cap6) (rs ++ [z])) (hg : (wr.alloc x).grownBy w6 (Value.slice (some ⟨gg, 0, none⟩) n cc).ownBlock) (hor : (Value.slice (some ⟨gg, 0, none⟩) n cc).ownBlock = some g6 ∨ g6 = (wr.alloc x).heap.size)
    (hlt : n < bs.length) (hlt' : n < xs.length) (hr : Res .sub xs[n] bs[n] z) : SC w w6 g xs bs g6 (n + 1) cap6 (rs ++ [z]) := by
  have hg' : (wr.alloc x).grownBy w6 (some gg) := hg
  refine ⟨ho, by simp [h.num], snoc_below h.below h.own x hg, Nat.lt_of_lt_of_le h.glt (Nat.le_trans (by simp) hg.size), ?_, fun i hi => ?_, h.res.snoc h.num hlt' hlt hr⟩
  · rcases hor with e | e
    · have e2 : gg = g6 := Option.some.inj e
      rw [← e2]; exact h.ne
    · have := h.glt
      simp at e
      omega
  · have c1 := (World.grownBy_alloc wr x none).cell (h.cell i hi) (by simp)
    exact hg'.cell c1 (by intro e; first | exact h.ne (Option.some.inj e) | exact h.ne (Option.some.inj e).symm)
end Go.Proofs.YtobpnoiienpipaaGreat

/-
  What is proved: two answers of DecodeCells to one list are the same but for the NaNs' bits.
  Conditions: none.
-/
namespace Go.Proofs.YtobpnoiienpipaaGreat
set_option linter.unusedVariables false
open Go.RowKit

theorem fin_nan {x : Nat} (h : isN x = true) : Flt.fin x = false := by
  unfold isN at h
  unfold Flt.fin Flt.lo Flt.hi Ieee.Format.order
  cases hx : Ieee.single.read x with
  | number s m e => rw [hx] at h; simp [Ieee.Datum.isNaN] at h
  | infinity s => rw [hx] at h; simp [Ieee.Datum.isNaN] at h
  | nan => simp [Ieee.Datum.order]
theorem Sm.fin {x y : Nat} (h : Sm x y) : Flt.fin x = Flt.fin y := by
  rcases h with rfl | ⟨h1, h2⟩
  · rfl
  · rw [fin_nan h1, fin_nan h2]
def CSameL (cs ds : List C3) : Prop := cs.length = ds.length ∧ ∀ i (h : i < cs.length) (h' : i < ds.length), CSame cs[i] ds[i]
theorem CSame.symm {c d : C3} (h : CSame c d) : CSame d c := ⟨h.1.symm, h.2.1.symm, h.2.2.symm⟩
theorem CSameL.symm {cs ds : List C3} (h : CSameL cs ds) : CSameL ds cs := ⟨h.1.symm, fun i hi hi' => (h.2 i hi' hi).symm⟩
theorem DecL.same {xs : List Nat} {cs ds : List C3} (h : DecL xs cs) (h' : DecL xs ds) : CSameL cs ds :=
  ⟨by have h1 := h.1; have h2 := h'.1; omega, fun i hi hi' => DecR.same (h.2 i hi) (h'.2 i hi')⟩
theorem CSameL.rok1 {cs ds : List C3} (h : CSameL cs ds) (hr : rok cs = true) : rok ds = true := by
  obtain ⟨h1, h2⟩ := rok_iff.1 hr
  refine rok_iff.2 ⟨by rw [← h.1]; exact h1, fun d hd => ?_⟩
  obtain ⟨i, hi, rfl⟩ := List.getElem_of_mem hd
  have hi' : i < cs.length := by rw [h.1]; exact hi
  obtain ⟨a, b, c⟩ := h.2 i hi' hi
  obtain ⟨e, f, g⟩ := h2 cs[i] (List.getElem_mem hi')
  exact ⟨a.fin ▸ e, b.fin ▸ f, c.fin ▸ g⟩
theorem CSameL.rok {cs ds : List C3} (h : CSameL cs ds) : rok cs = Proofs.YtobpnoiienpipaaGreat.rok ds := by
  cases h1 : Proofs.YtobpnoiienpipaaGreat.rok cs with
  | true => exact (h.rok1 h1).symm
  | false =>
    cases h2 : Proofs.YtobpnoiienpipaaGreat.rok ds with
    | false => rfl
    | true => rw [h.symm.rok1 h2] at h1; cases h1
theorem dec_same {xs : List Nat} {cs ds : List C3} (h1 : xs.length % 4 = 0 → DecL xs cs) (h2 : xs.length % 4 ≠ 0 → cs = []) (h3 : xs.length % 4 = 0 → DecL xs ds) (h4 : xs.length % 4 ≠ 0 → ds = []) : CSameL cs ds := by
  by_cases h : xs.length % 4 = 0
  · exact (h1 h).same (h3 h)
  · rw [h2 h, h4 h]
    exact ⟨rfl, fun i hi => absurd hi (by simp)⟩
end Go.Proofs.YtobpnoiienpipaaGreat

/-
  What is proved: two answers of DecodeCells, of Brightness, of Colouring to one list are the same but for the NaNs' bits.
  Conditions: none.
-/
namespace Go.Proofs.YtobpnoiienpipaaGreat
set_option linter.unusedVariables false
open Go.RowKit

end Go.Proofs.YtobpnoiienpipaaGreat

/-
  What is proved: the exact laws' comparing, marking of lists of cells.
  Conditions: those that each fact names.
-/
namespace Go.Proofs.YtobpnoiienpipaaGreat
set_option linter.unusedVariables false
open Go.RowKit
attribute [local go_sem] run_store_float run_store_complex unary_negf neg256

theorem sameComplex_self (a b : Nat) (w : World) (ha : (Ieee.double.read a).isNaN = false) (hb : (Ieee.double.read b).isNaN = false) :
    Calls Tryz.prog 111 #[.complex .f64 a b, .complex .f64 a b] w fun e w' => e = .returned (.bool true) ∧ w = w' := by
  have H1 := fun W => Lib.hid (sameFloat_self a W ha)
  have H2 := fun W => Lib.hid (sameFloat_self b W hb)
  clear ha hb
  go_enter Tryz.func111, Tryz.ntmps111
  go_wp2_with fail
  refine (H1 _).out.mono ?_
  rintro e w1 ⟨rfl, rfl⟩
  go_wp2_with fail
  refine (H2 _).out.mono ?_
  rintro e w1 ⟨rfl, rfl⟩
  go_wp2
  go_ret
  exact ⟨rfl, rfl⟩
/-- complex64(complex(float64(k), 1)): the first part's bits. -/
def c32 (k : Nat) : Nat := (floatToFloatBits .f64 (floatOfInt .f64 (k : Int)) .f32).getD 0
end Go.Proofs.YtobpnoiienpipaaGreat

/-
  What is proved: the exact laws' marking of a list of cells, and the look whether the marks still stand.
  Conditions: at most 64 cells.
-/
namespace Go.Proofs.YtobpnoiienpipaaGreat
set_option linter.unusedVariables false
open Go.RowKit
attribute [local go_sem] run_store_float run_store_complex unary_negf neg256

/-- Block b has at least n cells; the first k are those of cs. -/
def MadeC (w : World) (b n k : Nat) (cs : List C3) : Prop :=
  ∃ cur : Array Value, w.heap[b]? = some (.cells cur 61 (0, 0)) ∧ n * 2 ≤ cur.size ∧ ∀ i (h : i < cs.length), i < k → cur[i * 2]? = some (.float .f32 cs[i].1) ∧ cur[i * 2 + 1]? = some (.complex .f32 cs[i].2.1 cs[i].2.2)
theorem MadeC.step {w : World} {b n k : Nat} {cs : List C3} (h : MadeC w b n k cs) (hn : k < cs.length) (hk : cs.length ≤ n) :
    MadeC ((w.setCell ⟨b, k * 2, none⟩ (.float .f32 cs[k].1)).setCell ⟨b, k * 2 + 1, none⟩ (.complex .f32 cs[k].2.1 cs[k].2.2)) b n (k + 1) cs := by
  obtain ⟨cur, h1, h2, h3⟩ := h
  refine ⟨(cur.setIfInBounds (k * 2) (.float .f32 cs[k].1)).setIfInBounds (k * 2 + 1) (.complex .f32 cs[k].2.1 cs[k].2.2), heap_put (heap_put h1), by simp [h2], fun i hi hik => ?_⟩
  by_cases e : i = k
  · subst e
    constructor
    · rw [Array.getElem?_setIfInBounds, if_neg (by omega), Array.getElem?_setIfInBounds, if_pos rfl, if_pos (by omega)]
    · rw [Array.getElem?_setIfInBounds, if_pos rfl, if_pos (by simp; omega)]
  · obtain ⟨g1, g2⟩ := h3 i hi (by omega)
    constructor
    · rw [Array.getElem?_setIfInBounds, if_neg (by omega), Array.getElem?_setIfInBounds, if_neg (by omega)]; exact g1
    · rw [Array.getElem?_setIfInBounds, if_neg (by omega), Array.getElem?_setIfInBounds, if_neg (by omega)]; exact g2
theorem MadeC.at {w : World} {b n k : Nat} {cs : List C3} (h : MadeC w b n k cs) (i : Nat) (hi : i < n) (v : Value) : (∃ x, w.cell? ⟨b, i * 2, none⟩ = some x) ∧ w.frozen? ⟨b, i * 2, none⟩ = false ∧ (∃ x, (w.setCell ⟨b, i * 2, none⟩ v).cell? ⟨b, i * 2 + 1, none⟩ = some x) ∧ (w.setCell ⟨b, i * 2, none⟩ v).frozen? ⟨b, i * 2 + 1, none⟩ = false := by
  obtain ⟨cur, h1, h2, _⟩ := h
  have h3 := heap_put (i := i * 2) (v := v) h1
  refine ⟨⟨cur[i * 2]'(by omega), ?_⟩, ?_, ⟨cur[i * 2 + 1]'(by omega), ?_⟩, ?_⟩
  · simp [World.cell?, h1, Array.getElem?_eq_getElem (show i * 2 < cur.size by omega)]
  · simp [World.frozen?, h1]
  · simp [World.cell?, h3, Array.getElem?_setIfInBounds, Array.getElem?_eq_getElem (show i * 2 + 1 < cur.size by omega)]
  · simp [World.frozen?, h3]
/-- Are two complex numbers different? -/
theorem neq_colour (u v u' v' : Nat) (W : World) : (binOp .neq 26 (.complex .f32 u v) (.complex .f32 u' v')).run Tryz.prog W = .ok (.bool (!(FloatKind.f32.format.order u u' == some .eq && FloatKind.f32.format.order v v' == some .eq))) W := by
  have u2 := Tryz.underlying26
  simp [binOp, Op.complexOp, Op.Complex.cmp, Op.floatCmp, asBool]
end Go.Proofs.YtobpnoiienpipaaGreat

/-
  What is proved: what a decoding of samples may answer is one list and one bool.
  Conditions: those that each fact names.
-/
namespace Go.Proofs.YtobpnoiienpipaaGreat
set_option linter.unusedVariables false
open Go.RowKit

/-- What DecodeCells may answer. -/
def DecRR (xs : List Nat) (odd : Bool) (l : List C3) (ok : Bool) : Prop := ∃ cs, (xs.length % 4 = 0 → DecL xs cs) ∧ (xs.length % 4 ≠ 0 → cs = []) ∧ Fit cs ∧ ok = rok cs ∧ l = if rok cs = true then (if odd = true then cs.map cj else cs) else []
def DecAns (xs : List Nat) (odd : Bool) (w : World) (e : Ending) (w' : World) : Prop := ∃ v l ok, e = .returned (.tuple #[v, .bool ok]) ∧ DecRR xs odd l ok ∧ RNew w' w.heap.size v l ∧ Below w.heap.size w w'
theorem DecPost.ans {xs : List Nat} {odd : Bool} {w w' : World} {e : Ending} (h : DecPost xs odd w e w') : DecAns xs odd w e w' := by
  obtain ⟨v, cs, h1, h2, h3, h4, h5, h6⟩ := h
  exact ⟨v, _, _, h4, ⟨cs, h1, h2, h3, rfl, rfl⟩, h5, h6⟩
theorem sm_finD {x y : Nat} (h : Sm x y) (hf : Flt.fin x = true) : x = y := by
  rcases h with h | h
  · exact h
  · rw [fin_nan h.1] at hf; cases hf
theorem same_eq {cs ds : List C3} (h : CSameL cs ds) (hr : rok cs = true) : cs = ds := by
  obtain ⟨_, hf⟩ := rok_iff.1 hr
  refine List.ext_getElem h.1 fun i hi hi' => ?_
  obtain ⟨a, b, c⟩ := h.2 i hi hi'
  obtain ⟨e, f, g⟩ := hf cs[i] (List.getElem_mem hi)
  exact Prod.ext (sm_finD a e) (Prod.ext (sm_finD b f) (sm_finD c g))
theorem decRR_same {xs : List Nat} {odd : Bool} {l l' : List C3} {a b : Bool} (h : DecRR xs odd l a) (h' : DecRR xs odd l' b) : a = b ∧ l = l' := by
  obtain ⟨cs, h1, h2, _, rfl, rfl⟩ := h
  obtain ⟨ds, h3, h4, _, rfl, rfl⟩ := h'
  have hs := dec_same h1 h2 h3 h4
  refine ⟨hs.rok, ?_⟩
  cases hr : rok cs with
  | true =>
    have e := same_eq hs hr
    subst e
    rw [hr]
  | false =>
    rw [hs.rok] at hr
    rw [hr]; rfl
end Go.Proofs.YtobpnoiienpipaaGreat

/-
  What is proved: what the model answers of one line that is decoded by itself.
  Conditions: the line can be read.
-/
namespace Go.Proofs.YtobpnoiienpipaaGreat
set_option linter.unusedVariables false
open Go.RowKit
attribute [local go_sem] run_store_float run_store_complex unary_negf neg256

/-- What is answered of one line: what its cells tell, or nothing. -/
def AloneRR (xs : List Nat) (odd : Bool) (l : List C3) (ok : Bool) : Prop := (lineOk xs = true ∧ DecRR (lpart xs 24 (xs.length - 24)) odd l ok) ∨ (lineOk xs = false ∧ l = [] ∧ ok = false)
def AloneAns (xs : List Nat) (odd : Bool) (w : World) (e : Ending) (w' : World) : Prop := ∃ v l ok, e = .returned (.tuple #[v, .bool ok]) ∧ AloneRR xs odd l ok ∧ RNew w' w.heap.size v l ∧ Below w.heap.size w w'
theorem aloneRR_same {xs : List Nat} {odd : Bool} {l l' : List C3} {a b : Bool} (h : AloneRR xs odd l a) (h' : AloneRR xs odd l' b) : a = b ∧ l = l' := by
  rcases h with ⟨h1, h2⟩ | ⟨h1, h2, h3⟩ <;> rcases h' with ⟨k1, k2⟩ | ⟨k1, k2, k3⟩
  · exact decRR_same h2 k2
  · rw [h1] at k1; cases k1
  · rw [h1] at k1; cases k1
  · exact ⟨h3.trans k3.symm, h2.trans k2.symm⟩
set_option maxHeartbeats 1000000 in
theorem specAlone_any (v : Value) (xs : List Nat) (odd : Bool) (w : World) (h : FRow w v xs) (hl : xs.length ≤ 4000000) :
    Calls Tryz.prog 104 #[v, .bool odd] w fun e w' => AloneAns xs odd w e w' := by
  have HO := Lib.hid (specLineOk_any v xs w h hl)
  have HC := Lib.hid (specCells_any v xs w h hl)
  have hll : (lpart xs 24 (xs.length - 24)).length ≤ 4000000 := by unfold lpart; split <;> simp [part] <;> omega
  cases ho : lineOk xs with
  | false =>
    rw [ho] at HO
    clear h HC hll
    have HNO := Lib.hid ho
    clear ho
    go_enter Tryz.func104, Tryz.ntmps104
    go_wp2_with fail
    refine HO.out.mono ?_
    rintro e w1 ⟨rfl, rfl⟩
    go_wp2
    go_ret2
    exact ⟨_, [], false, rfl, .inr ⟨HNO.out, rfl, rfl⟩, (OwnC.made0 w).rnew, (Below.refl _ _).alloc (Nat.le_refl _) _⟩
  | true =>
    rw [ho] at HO
    clear h
    have HNO := Lib.hid ho
    clear ho
    go_enter Tryz.func104, Tryz.ntmps104
    go_wp2_with fail
    refine HO.out.mono ?_
    rintro e w1 ⟨rfl, rfl⟩
    go_wp2_with fail
    refine HC.out.mono ?_
    rintro e w2 ⟨v2, rfl, hn2, hb2⟩
    have HD := Lib.hid (specDecode_any v2 _ odd w2 hn2.row hll)
    clear hn2 HC hll
    go_wp2_with fail
    refine HD.out.mono ?_
    intro e w3 hd
    obtain ⟨v3, l, ok, rfl, hr3, hn3, hb3⟩ := hd.ans
    have HR := Lib.hid hr3
    have HN3 := Lib.hid (hn3.mono hb2.size)
    have hb := below_trans hb2 hb3 hb2.size
    clear hd hr3 hn3
    go_wp2
    go_ret2
    exact ⟨v3, l, ok, rfl, .inl ⟨HNO.out, HR.out⟩, HN3.out, hb⟩
end Go.Proofs.YtobpnoiienpipaaGreat

/-
  What is proved: what the program answers of one line that is decoded by itself.
  Conditions: the line can be read.
-/
namespace Go.Proofs.YtobpnoiienpipaaGreat
set_option linter.unusedVariables false
open Go.RowKit
attribute [local go_sem] run_store_float run_store_complex unary_negf neg256

theorem rok_empty : rok [] = false := by
  cases h : rok [] with
  | false => rfl
  | true => exact absurd (rok_iff.1 h).1 (by simp)
theorem decRR_empty {odd : Bool} {l : List C3} {ok : Bool} (h : DecRR [] odd l ok) : l = [] ∧ ok = false := by
  obtain ⟨cs, h1, _, _, rfl, rfl⟩ := h
  have hc : cs = [] := List.eq_nil_of_length_eq_zero (by have h := (h1 rfl).1; have h2 : 4 * cs.length = 0 := h; omega)
  subst hc
  rw [rok_empty]
  exact ⟨rfl, rfl⟩
theorem alone_of {xs : List Nat} {odd : Bool} {l : List C3} {ok : Bool} (h : DecRR (lpart xs 24 (xs.length - 24)) odd l ok) : AloneRR xs odd l ok := by
  cases ho : lineOk xs with
  | true => exact .inl ⟨ho, h⟩
  | false =>
    rw [lpart_no ho] at h
    exact .inr ⟨ho, decRR_empty h⟩
set_option maxHeartbeats 1000000 in
theorem alone_any (v : Value) (xs : List Nat) (odd : Bool) (w : World) (h : FRow w v xs) (hl : xs.length ≤ 4000000) :
    Calls Tryz.prog 163 #[v, .bool odd] w fun e w' => AloneAns xs odd w e w' := by
  have HC := Lib.hid (cellsOf_any v xs w h hl)
  have hll : (lpart xs 24 (xs.length - 24)).length ≤ 4000000 := Nat.le_trans (lpart_le _ _ _) hl
  clear h
  go_enter Tryz.func163, Tryz.ntmps163
  go_wp2_with fail
  refine HC.out.mono ?_
  rintro e w2 ⟨v2, rfl, hn2, hb2⟩
  have HD := Lib.hid (decode_any v2 _ odd w2 hn2.row hll)
  clear hn2 HC hll
  go_wp2_with fail
  refine HD.out.mono ?_
  intro e w3 hd
  obtain ⟨v3, l, ok, rfl, hr3, hn3, hb3⟩ := hd.ans
  have HR := Lib.hid (alone_of hr3)
  have HN3 := Lib.hid (hn3.mono hb2.size)
  have hb := below_trans hb2 hb3 hb2.size
  clear hd hr3 hn3
  go_wp2
  go_ret2
  exact ⟨v3, l, ok, rfl, HR.out, HN3.out, hb⟩
end Go.Proofs.YtobpnoiienpipaaGreat
