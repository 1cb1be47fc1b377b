/-
  What is proved: what the model answers of one line that is decoded by itself.
  Conditions: the line can be read.
-/
import Derived.Test.YtgecclccmmcdoaaDecAns
import Derived.Test.YtgecclccmmcdoaaPkDec
import Derived.Test.YtgecclccmmcdoaaPkLine
import Derived.Test.YtgecclccmmcdoaaPlain
import Derived.ChangeKeysEq
namespace Go.Proofs.Ytgecclccmmcdoaa
set_option linter.unusedVariables false
open Go.RowKit
attribute [local go_sem] run_store_float run_store_complex unary_negf neg256

/-- What is answered of one line: what its cells tell, or nothing. -/
def AloneRR (xs : List Nat) (odd : Bool) (l : List C3) (ok : Bool) : Prop := (lineOk xs = true ∧ DecRR (lpart xs 24 (xs.length - 24)) odd l ok) ∨ (lineOk xs = false ∧ l = [] ∧ ok = false)
def AloneAns (xs : List Nat) (odd : Bool) (w : World) (e : Ending) (w' : World) : Prop := ∃ v l ok, e = .returned (.tuple #[v, .bool ok]) ∧ AloneRR xs odd l ok ∧ RNew w' w.heap.size v l ∧ Below w.heap.size w w'
theorem aloneRR_same {xs : List Nat} {odd : Bool} {l l' : List C3} {a b : Bool} (h : AloneRR xs odd l a) (h' : AloneRR xs odd l' b) : a = b ∧ l = l' := by
  rcases h with ⟨h1, h2⟩ | ⟨h1, h2, h3⟩ <;> rcases h' with ⟨k1, k2⟩ | ⟨k1, k2, k3⟩
  · exact decRR_same h2 k2
  · rw [h1] at k1; cases k1
  · rw [h1] at k1; cases k1
  · exact ⟨h3.trans k3.symm, h2.trans k2.symm⟩
theorem aloneRR_ok {xs : List Nat} {odd : Bool} {l : List C3} {a : Bool} (h : AloneRR xs odd l a) : l.length ≤ 64 ∧ FinL l := by
  rcases h with ⟨_, h2⟩ | ⟨_, rfl, _⟩
  · exact decRR_ok h2
  · exact ⟨Nat.zero_le _, fun c hc => by cases hc⟩
set_option maxHeartbeats 1000000 in
theorem specAlone_any (v : Value) (xs : List Nat) (odd : Bool) (w : World) (h : FRow w v xs) (hl : xs.length ≤ 4000000) :
    Calls Try.prog 37 #[v, .bool odd] w fun e w' => AloneAns xs odd w e w' := by
  have HO := Lib.hid (specLineOk_any v xs w h hl)
  have HC := Lib.hid (specCells_any v xs w h hl)
  have hll : (lpart xs 24 (xs.length - 24)).length ≤ 4000000 := by unfold lpart; split <;> simp [part] <;> omega
  cases ho : lineOk xs with
  | false =>
    rw [ho] at HO
    clear h HC hll
    have HNO := Lib.hid ho
    clear ho
    go_enter Try.func37, Try.ntmps37
    go_wp2_with fail
    refine HO.out.mono ?_
    rintro e w1 ⟨rfl, rfl⟩
    go_wp2
    go_ret2
    exact ⟨_, [], false, rfl, .inr ⟨HNO.out, rfl, rfl⟩, (OwnC.made0 w).rnew, (Below.refl _ _).alloc (Nat.le_refl _) _⟩
  | true =>
    rw [ho] at HO
    clear h
    have HNO := Lib.hid ho
    clear ho
    go_enter Try.func37, Try.ntmps37
    go_wp2_with fail
    refine HO.out.mono ?_
    rintro e w1 ⟨rfl, rfl⟩
    go_wp2_with fail
    refine HC.out.mono ?_
    rintro e w2 ⟨v2, rfl, hn2, hb2⟩
    have HD := Lib.hid (specDecode_any v2 _ odd w2 hn2.row hll)
    clear hn2 HC hll
    go_wp2_with fail
    refine HD.out.mono ?_
    intro e w3 hd
    obtain ⟨v3, l, ok, rfl, hr3, hn3, hb3⟩ := hd.ans
    have HR := Lib.hid hr3
    have HN3 := Lib.hid (hn3.mono hb2.size)
    have hb := below_trans hb2 hb3 hb2.size
    clear hd hr3 hn3
    go_wp2
    go_ret2
    exact ⟨v3, l, ok, rfl, .inl ⟨HNO.out, HR.out⟩, HN3.out, hb⟩
end Go.Proofs.Ytgecclccmmcdoaa

/-
  What is proved: what the program answers of one line that is decoded by itself.
  Conditions: the line can be read.
-/
namespace Go.Proofs.Ytgecclccmmcdoaa
set_option linter.unusedVariables false
open Go.RowKit
attribute [local go_sem] run_store_float run_store_complex unary_negf neg256

theorem rok_empty : rok [] = false := by
  cases h : rok [] with
  | false => rfl
  | true => exact absurd (rok_iff.1 h).1 (by simp)
theorem decRR_empty {odd : Bool} {l : List C3} {ok : Bool} (h : DecRR [] odd l ok) : l = [] ∧ ok = false := by
  obtain ⟨cs, h1, _, _, rfl, rfl⟩ := h
  have hc : cs = [] := List.eq_nil_of_length_eq_zero (by have h := (h1 rfl).1; have h2 : 4 * cs.length = 0 := h; omega)
  subst hc
  rw [rok_empty]
  exact ⟨rfl, rfl⟩
theorem alone_of {xs : List Nat} {odd : Bool} {l : List C3} {ok : Bool} (h : DecRR (lpart xs 24 (xs.length - 24)) odd l ok) : AloneRR xs odd l ok := by
  cases ho : lineOk xs with
  | true => exact .inl ⟨ho, h⟩
  | false =>
    rw [lpart_no ho] at h
    exact .inr ⟨ho, decRR_empty h⟩
set_option maxHeartbeats 1000000 in
theorem alone_any (v : Value) (xs : List Nat) (odd : Bool) (w : World) (h : FRow w v xs) (hl : xs.length ≤ 4000000) :
    Calls Try.prog 20 #[v, .bool odd] w fun e w' => AloneAns xs odd w e w' := by
  have HC := Lib.hid (cellsOf_any v xs w h hl)
  have hll : (lpart xs 24 (xs.length - 24)).length ≤ 4000000 := Nat.le_trans (lpart_le _ _ _) hl
  clear h
  go_enter Try.func20, Try.ntmps20
  go_wp2_with fail
  refine HC.out.mono ?_
  rintro e w2 ⟨v2, rfl, hn2, hb2⟩
  have HD := Lib.hid (decode_any v2 _ odd w2 hn2.row hll)
  clear hn2 HC hll
  go_wp2_with fail
  refine HD.out.mono ?_
  intro e w3 hd
  obtain ⟨v3, l, ok, rfl, hr3, hn3, hb3⟩ := hd.ans
  have HR := Lib.hid (alone_of hr3)
  have HN3 := Lib.hid (hn3.mono hb2.size)
  have hb := below_trans hb2 hb3 hb2.size
  clear hd hr3 hn3
  go_wp2
  go_ret2
  exact ⟨v3, l, ok, rfl, HR.out, HN3.out, hb⟩
end Go.Proofs.Ytgecclccmmcdoaa

/-
  What is proved: both lines of a pair, each decoded by itself.
  Conditions: the lines can be read.
-/
namespace Go.Proofs.Ytgecclccmmcdoaa
set_option linter.unusedVariables false
open Go.RowKit
attribute [local go_sem] run_store_float run_store_complex unary_negf neg256

/-- A block of two cells. -/
def Two (w : World) (b : Nat) (t : TypeId) (x y : Value) : Prop := w.heap[b]? = some (.cells #[x, y] t (0, 0))
theorem Two.lt {w : World} {b : Nat} {t : TypeId} {x y : Value} (h : Two w b t x y) : b < w.heap.size := (Array.getElem?_eq_some_iff.1 h).1
theorem Two.below {w w' : World} {b : Nat} {t : TypeId} {x y : Value} (h : Two w b t x y) (hb : Below w.heap.size w w') : Two w' b t x y := (hb.block b h.lt).trans h
theorem Two.c0 {w : World} {b : Nat} {t : TypeId} {x y : Value} (h : Two w b t x y) : w.cell? ⟨b, 0, none⟩ = some x := by simp [World.cell?, show w.heap[b]? = _ from h]
theorem Two.c1 {w : World} {b : Nat} {t : TypeId} {x y : Value} (h : Two w b t x y) : w.cell? ⟨b, 1, none⟩ = some y := by simp [World.cell?, show w.heap[b]? = _ from h]
theorem Two.f0 {w : World} {b : Nat} {t : TypeId} {x y : Value} (h : Two w b t x y) : w.frozen? ⟨b, 0, none⟩ = false := by simp [World.frozen?, show w.heap[b]? = _ from h]
theorem Two.f1 {w : World} {b : Nat} {t : TypeId} {x y : Value} (h : Two w b t x y) : w.frozen? ⟨b, 1, none⟩ = false := by simp [World.frozen?, show w.heap[b]? = _ from h]
theorem Two.put0 {w : World} {b : Nat} {t : TypeId} {x y : Value} (h : Two w b t x y) (z : Value) : Two (w.setCell ⟨b, 0, none⟩ z) b t z y := heap_put (i := 0) h
theorem Two.put1 {w : World} {b : Nat} {t : TypeId} {x y : Value} (h : Two w b t x y) (z : Value) : Two (w.setCell ⟨b, 1, none⟩ z) b t x z := heap_put (i := 1) h
theorem Two.far {w : World} {b c : Nat} {i : Nat} {t : TypeId} {x y z : Value} (h : Two w b t x y) (hne : b ≠ c) : Two (w.setCell ⟨c, i, none⟩ z) b t x y := (Below.heap_setCell w ⟨c, i, none⟩ z b hne).trans h
theorem Two.drew {w : World} {b : Nat} {t : TypeId} {x y : Value} (h : Two w b t x y) : Two w.drew b t x y := h
/-- Are both true? -/
theorem eql_two (a b : Bool) (W : World) : (binOp .eql 127 (.agg #[.bool a, .bool b]) (.agg #[.bool true, .bool true])).run Try.prog W = .ok (.bool (a && b)) W := by
  have hu : Try.prog.underlying 127 = some (.array 2 4) := by kernel_rfl
  have hb : Try.prog.underlying 4 = some .bool := by kernel_rfl
  obtain ⟨i, hi⟩ : ∃ i, Try.prog.info? 4 = some i := Option.isSome_iff_exists.1 (show (Try.prog.info? 4).isSome = true by kernel_rfl)
  have hc : Try.prog.cellsOf 4 = 1 := by kernel_rfl
  have z1 := Try.sizeOf4
  have a1 := Try.isAgg4
  rw [run_eql_struct, show (10000 : Nat) = 9999 + 1 from rfl, run_equalIn_array W 9999 _ _ hu hi, hc]
  have e1 := fun x y => run_equalIn_bool' W 9998 4 x y hb
  simp only [show (9998 + 1 : Nat) = 9999 from rfl] at e1
  simp only [show List.range 2 = [0, 1] from rfl, Op.eqItems]
  go_simp
  cases a <;> cases b <;> simp
theorem guard_two (op : BinOp) (x y : Operand) (xs ys : Array Value) (W : World) : (eqGuard op 127 x y (.agg xs) (.agg ys)).run Try.prog W = .ok () W := run_eqGuard_agg W op _ x y xs ys (by kernel_rfl)
attribute [local go_sem high] eql_two guard_two
theorem index_two0 (a b : Option Addr) (n c n' c' : Nat) (W : World) : (Instr.index 87 (.agg #[.slice a n c, .slice b n' c']) (.int .i64 0)).run Try.prog W = .ok (.slice a n c) W := by
  have hu : Try.prog.underlying 87 = some (.array 2 32) := by kernel_rfl
  have z1 := Try.sizeOf32
  have a1 := Try.isAgg32
  unfold Instr.index
  simp only [Sem.run_bind, run_underlying hu, Result.andThen_ok]
  go_simp
theorem index_two1 (a b : Option Addr) (n c n' c' : Nat) (W : World) : (Instr.index 87 (.agg #[.slice a n c, .slice b n' c']) (.int .i64 1)).run Try.prog W = .ok (.slice b n' c') W := by
  have hu : Try.prog.underlying 87 = some (.array 2 32) := by kernel_rfl
  have z1 := Try.sizeOf32
  have a1 := Try.isAgg32
  unfold Instr.index
  simp only [Sem.run_bind, run_underlying hu, Result.andThen_ok]
  go_simp
attribute [local go_sem high] index_two0 index_two1
/-- What holds when k lines have been decoded. -/
structure Both (xs ys : List Nat) (w : World) (k : Nat) (wr : World) (x y : Value) (o o' : Bool) : Prop where
  below : Below w.heap.size w wr
  rows : Two wr (w.heap.size + 1) 84 x y
  oks : Two wr (w.heap.size + 1 + 1) 127 (.bool o) (.bool o')
  one : 1 ≤ k → ∃ l, AloneRR xs false l o ∧ RNew wr (w.heap.size + 3) x l
  two : 2 ≤ k → ∃ l, AloneRR ys false l o' ∧ RNew wr (w.heap.size + 3) y l ∧ ∀ j, x.ownBlock = some j → y.ownBlock ≠ some j
theorem Both.start (xs ys : List Nat) (w : World) (a b x y : Value) (t : TypeId) (o o' : Bool) : Both xs ys w 0 (((w.alloc (.cells #[a, b] t)).alloc (.cells #[x, y] 84)).alloc (.cells #[.bool o, .bool o'] 127)) x y o o' := by
  refine ⟨?_, ?_, ?_, fun h => by omega, fun h => by omega⟩
  · have h1 := (Below.refl w.heap.size w).alloc (Nat.le_refl _) (.cells #[a, b] t)
    have h2 := h1.alloc h1.size (.cells #[x, y] 84)
    exact h2.alloc h2.size _
  · have h := heap_alloc_new (w.alloc (.cells #[a, b] t)) (.cells #[x, y] 84)
    rw [World.size_alloc] at h
    exact (Below.heap_alloc _ _ _ (by simp)).trans h
  · have h := heap_alloc_new ((w.alloc (.cells #[a, b] t)).alloc (.cells #[x, y] 84)) (.cells #[.bool o, .bool o'] 127)
    rw [World.size_alloc, World.size_alloc] at h
    exact h
theorem Both.next1 {xs ys : List Nat} {w wr w2 : World} {x y r : Value} {o o' p : Bool} {l : List C3} (h : Both xs ys w 0 wr x y o o') (hb : Below wr.heap.size wr w2) (ha : AloneRR xs false l p) (hr : RNew w2 wr.heap.size r l) :
    Both xs ys w 1 ((w2.setCell ⟨w.heap.size + 1, 0, none⟩ r).setCell ⟨w.heap.size + 1 + 1, 0, none⟩ (.bool p)) r y p o' := by
  have hlt := h.oks.lt
  have hr2 : RNew w2 (w.heap.size + 3) r l := hr.mono (by omega)
  refine ⟨?_, ?_, ?_, fun _ => ⟨l, ha, ?_⟩, fun h => by omega⟩
  · exact ((below_trans h.below hb h.below.size).setCell (by show w.heap.size ≤ w.heap.size + 1; omega) _).setCell (by show w.heap.size ≤ w.heap.size + 1 + 1; omega) _
  · exact ((h.rows.below hb).put0 r).far (by omega)
  · exact ((h.oks.below hb).far (by omega)).put0 _
  · exact (hr2.far (Lib.grownBy_setCell _ _ _ _) (fun k hk e => by have := (hr2.lt k hk).1; have e2 := Option.some.inj e; omega)).far (Lib.grownBy_setCell _ _ _ _) (fun k hk e => by have := (hr2.lt k hk).1; have e2 := Option.some.inj e; omega)
theorem Both.next2 {xs ys : List Nat} {w wr w2 : World} {x y r : Value} {o o' p : Bool} {l : List C3} (h : Both xs ys w 1 wr x y o o') (hb : Below wr.heap.size wr w2) (ha : AloneRR ys false l p) (hr : RNew w2 wr.heap.size r l) :
    Both xs ys w 2 ((w2.setCell ⟨w.heap.size + 1, 1, none⟩ r).setCell ⟨w.heap.size + 1 + 1, 1, none⟩ (.bool p)) x r o p := by
  have hlt := h.oks.lt
  have hr2 : RNew w2 (w.heap.size + 3) r l := hr.mono (by omega)
  obtain ⟨l0, ha0, hr0⟩ := h.one (by decide)
  have hr1 := hr0.below hb
  refine ⟨?_, ?_, ?_, fun _ => ⟨l0, ha0, ?_⟩, fun _ => ⟨l, ha, ?_, fun j hj e => ?_⟩⟩
  · exact ((below_trans h.below hb h.below.size).setCell (by show w.heap.size ≤ w.heap.size + 1; omega) _).setCell (by show w.heap.size ≤ w.heap.size + 1 + 1; omega) _
  · exact ((h.rows.below hb).put1 r).far (by omega)
  · exact ((h.oks.below hb).far (by omega)).put1 _
  · exact (hr1.far (Lib.grownBy_setCell _ _ _ _) (fun k hk e => by have := (hr1.lt k hk).1; have e2 := Option.some.inj e; omega)).far (Lib.grownBy_setCell _ _ _ _) (fun k hk e => by have := (hr1.lt k hk).1; have e2 := Option.some.inj e; omega)
  · exact (hr2.far (Lib.grownBy_setCell _ _ _ _) (fun k hk e => by have := (hr2.lt k hk).1; have e2 := Option.some.inj e; omega)).far (Lib.grownBy_setCell _ _ _ _) (fun k hk e => by have := (hr2.lt k hk).1; have e2 := Option.some.inj e; omega)
  · have := (hr0.lt j hj).2
    have := (hr.lt j e).1
    omega
theorem RNew.lenv2 {w : World} {base : Nat} {v : Value} {cs : List C3} (h : RNew w base v cs) : ∃ a n c, v = .slice a n c := by
  rcases h with ⟨rfl, _⟩ | ⟨g, cap, cur, rfl, _⟩
  · exact ⟨none, 0, 0, rfl⟩
  · exact ⟨_, _, _, rfl⟩
/-- The rows are stored again as they are. -/
theorem Both.again {xs ys : List Nat} {w wr : World} {x y : Value} {o o' : Bool} {k : Nat} (h : Both xs ys w k wr x y o o') : Both xs ys w k ((wr.drew.setCell ⟨w.heap.size + 1, 0, none⟩ x).setCell ⟨w.heap.size + 1, 1, none⟩ y) x y o o' := by
  have hf : ∀ {v : Value} {l : List C3}, RNew wr (w.heap.size + 3) v l → RNew ((wr.drew.setCell ⟨w.heap.size + 1, 0, none⟩ x).setCell ⟨w.heap.size + 1, 1, none⟩ y) (w.heap.size + 3) v l := by
    intro v l hr
    have hr : RNew wr.drew (w.heap.size + 3) v l := hr
    exact (hr.far (Lib.grownBy_setCell _ _ _ _) (fun k hk e => by have := (hr.lt k hk).1; have e2 := Option.some.inj e; omega)).far (Lib.grownBy_setCell _ _ _ _) (fun k hk e => by have := (hr.lt k hk).1; have e2 := Option.some.inj e; omega)
  refine ⟨?_, ?_, ?_, fun hk => ?_, fun hk => ?_⟩
  · exact (h.below.drew.setCell (by show w.heap.size ≤ w.heap.size + 1; omega) _).setCell (by show w.heap.size ≤ w.heap.size + 1; omega) _
  · exact (h.rows.drew.put0 x).put1 y
  · exact (h.oks.drew.far (by omega)).far (by omega)
  · obtain ⟨l, h1, h2⟩ := h.one hk
    exact ⟨l, h1, hf h2⟩
  · obtain ⟨l, h1, h2, h3⟩ := h.two hk
    exact ⟨l, h1, hf h2, h3⟩
def BothPost (xs ys : List Nat) (w : World) (e : Ending) (w' : World) : Prop := ∃ x y l l' o o', e = .returned (.tuple #[.agg #[x, y], .bool (o && o')]) ∧ AloneRR xs false l o ∧ AloneRR ys false l' o' ∧ RNew w' w.heap.size x l ∧ RNew w' w.heap.size y l' ∧ (∀ j, x.ownBlock = some j → y.ownBlock ≠ some j) ∧ Below w.heap.size w w'
theorem FRow.lenv2 {w : World} {v : Value} {xs : List Nat} (h : FRow w v xs) : ∃ a n c, v = .slice a n c := by
  obtain ⟨a, c, rfl⟩ := h.lenv
  exact ⟨_, _, _, rfl⟩
set_option maxHeartbeats 2000000 in
set_option maxRecDepth 100000 in
theorem decodedAlone_any (v v' : Value) (xs ys : List Nat) (w : World) (h : FRow w v xs) (h' : FRow w v' ys) (hl : xs.length ≤ 4000000) (hl' : ys.length ≤ 4000000) :
    Calls Try.prog 57 #[.agg #[v, v']] w fun e w' => BothPost xs ys w e w' := by
  have H1 := fun W hW => Lib.hid (alone_any v xs false W hW hl)
  have H2 := fun W hW => Lib.hid (alone_any v' ys false W hW hl')
  have HR := Lib.hid h
  have HR' := Lib.hid h'
  obtain ⟨n, c, o, rfl⟩ := h.lenv2
  obtain ⟨n', c', o', rfl⟩ := h'.lenv2
  clear h h'
  have HST := Lib.hid (Both.start xs ys w (.slice n c o) (.slice n' c' o') (.slice none 0 0) (.slice none 0 0) 87 false false)
  go_enter Try.func57, Try.ntmps57
  go_wp2
  go_loopw [8] (fun i wr => ∃ (k : Nat) (x y : Value) (p p' : Bool), (k = 0 ∨ k = 1 ∨ k = 2) ∧ i = .int .i64 (k : Int) ∧ Both xs ys w k wr x y p p') (fun i _ => 2 - (intOf i).toNat)
  case atStart => exact ⟨0, _, _, _, _, .inl rfl, rfl, HST.out⟩
  case round =>
    clear HST
    obtain ⟨k, x, y, p, p', hk, rfl, hm⟩ := hrel
    have HM := Lib.hid hm
    clear hm
    rcases hk with rfl | rfl | rfl
    · have HA := H1 wr (HR.out.below HM.out.below)
      go_wp2_with fail
      refine HA.out.mono ?_
      rintro e w2 ⟨r, l, ok, rfl, hr, hn, hb2⟩
      obtain ⟨ra, rn, rc, rfl⟩ := hn.lenv2
      have HN := Lib.hid (HM.out.next1 hb2 hr hn)
      have t1 := HM.out.rows.below hb2
      have t2 := (HM.out.oks.below hb2).far (c := w.heap.size + 1) (i := 0) (z := .slice ra rn rc) (by omega)
      have c1 := t1.c0
      have f1 := t1.f0
      have c2 := t2.c0
      have f2 := t2.f0
      clear t1 t2 hr hn HA hb2
      go_wp2
      go_roundw
      case rel => exact ⟨1, _, _, _, _, .inr (.inl rfl), rfl, HN.out⟩
      case measure => simp [intOf]
    · have HA := H2 wr (HR'.out.below HM.out.below)
      go_wp2_with fail
      refine HA.out.mono ?_
      rintro e w2 ⟨r, l, ok, rfl, hr, hn, hb2⟩
      obtain ⟨ra, rn, rc, rfl⟩ := hn.lenv2
      have HN := Lib.hid (HM.out.next2 hb2 hr hn)
      have t1 := HM.out.rows.below hb2
      have t2 := (HM.out.oks.below hb2).far (c := w.heap.size + 1) (i := 1) (z := .slice ra rn rc) (by omega)
      have c1 := t1.c1
      have f1 := t1.f1
      have c2 := t2.c1
      have f2 := t2.f1
      clear t1 t2 hr hn HA hb2
      go_wp2
      go_roundw
      case rel => exact ⟨2, _, _, _, _, .inr (.inr rfl), rfl, HN.out⟩
      case measure => simp [intOf]
    · obtain ⟨lx, ax, nx⟩ := HM.out.one (by decide)
      obtain ⟨ly, ay, ny, hap⟩ := HM.out.two (Nat.le_refl _)
      obtain ⟨xa, xn, xc, rfl⟩ := nx.lenv2
      obtain ⟨ya, yn, yc, rfl⟩ := ny.lenv2
      have HF := Lib.hid (show Both xs ys w 2 ((wr.setCell ⟨w.heap.size + 1, 0, none⟩ (.slice xa xn xc)).setCell ⟨w.heap.size + 1, 1, none⟩ (.slice ya yn yc)).drew _ _ p p' from HM.out.again)
      have c1 := HM.out.rows.c0
      have c2 := HM.out.rows.c1
      have c3 := HM.out.oks.c0
      have c4 := HM.out.oks.c1
      have f1 := HM.out.rows.f0
      have f2 := HM.out.rows.f1
      clear ax nx ay ny hap
      go_wp2
      go_region
      all_goals
        go_wp2
        generalize ((wr.setCell ⟨w.heap.size + 1, 0, none⟩ (.slice xa xn xc)).setCell ⟨w.heap.size + 1, 1, none⟩ (.slice ya yn yc)).drew = w9 at *
        have r0 := HF.out.rows.c0
        have r1 := HF.out.rows.c1
        obtain ⟨lx, ax, nx⟩ := HF.out.one (by decide)
        obtain ⟨ly, ay, ny, hap⟩ := HF.out.two (Nat.le_refl _)
        refine bodyPost_ret (v := .tuple #[.agg #[.slice xa xn xc, .slice ya yn yc], .bool (p && p')]) ?_ rfl ⟨_, _, lx, ly, p, p', rfl, ax, ay, nx.mono (by omega), ny.mono (by omega), hap, HF.out.below⟩
        simp [results, Try.results57, go_sem, r0, r1]
end Go.Proofs.Ytgecclccmmcdoaa
