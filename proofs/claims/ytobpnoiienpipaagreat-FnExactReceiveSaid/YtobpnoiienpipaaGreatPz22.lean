/-
  What is proved: both lines of a pair, each decoded by itself.
  Conditions: the lines can be read.
-/
import Derived.Test.YtobpnoiienpipaaGreatPz21
import Derived.ChangeKeysEq
import Derived.Test.YtobpnoiienpipaaGreatPz02
import Derived.StillTailTactics
import Derived.Deep.AppendLies
import Derived.Test.YtobpnoiienpipaaGreatPz20
namespace Go.Proofs.YtobpnoiienpipaaGreat
set_option linter.unusedVariables false
open Go.RowKit
attribute [local go_sem] run_store_float run_store_complex unary_negf neg256

/-- A block of two cells. -/
def Two (w : World) (b : Nat) (t : TypeId) (x y : Value) : Prop := w.heap[b]? = some (.cells #[x, y] t (0, 0))
theorem Two.lt {w : World} {b : Nat} {t : TypeId} {x y : Value} (h : Two w b t x y) : b < w.heap.size := (Array.getElem?_eq_some_iff.1 h).1
theorem Two.below {w w' : World} {b : Nat} {t : TypeId} {x y : Value} (h : Two w b t x y) (hb : Below w.heap.size w w') : Two w' b t x y := (hb.block b h.lt).trans h
theorem Two.c0 {w : World} {b : Nat} {t : TypeId} {x y : Value} (h : Two w b t x y) : w.cell? ⟨b, 0, none⟩ = some x := by simp [World.cell?, show w.heap[b]? = _ from h]
theorem Two.c1 {w : World} {b : Nat} {t : TypeId} {x y : Value} (h : Two w b t x y) : w.cell? ⟨b, 1, none⟩ = some y := by simp [World.cell?, show w.heap[b]? = _ from h]
theorem Two.f0 {w : World} {b : Nat} {t : TypeId} {x y : Value} (h : Two w b t x y) : w.frozen? ⟨b, 0, none⟩ = false := by simp [World.frozen?, show w.heap[b]? = _ from h]
theorem Two.f1 {w : World} {b : Nat} {t : TypeId} {x y : Value} (h : Two w b t x y) : w.frozen? ⟨b, 1, none⟩ = false := by simp [World.frozen?, show w.heap[b]? = _ from h]
theorem Two.put0 {w : World} {b : Nat} {t : TypeId} {x y : Value} (h : Two w b t x y) (z : Value) : Two (w.setCell ⟨b, 0, none⟩ z) b t z y := heap_put (i := 0) h
theorem Two.put1 {w : World} {b : Nat} {t : TypeId} {x y : Value} (h : Two w b t x y) (z : Value) : Two (w.setCell ⟨b, 1, none⟩ z) b t x z := heap_put (i := 1) h
theorem Two.far {w : World} {b c : Nat} {i : Nat} {t : TypeId} {x y z : Value} (h : Two w b t x y) (hne : b ≠ c) : Two (w.setCell ⟨c, i, none⟩ z) b t x y := (Below.heap_setCell w ⟨c, i, none⟩ z b hne).trans h
theorem Two.drew {w : World} {b : Nat} {t : TypeId} {x y : Value} (h : Two w b t x y) : Two w.drew b t x y := h
/-- Are both true? -/
theorem eql_two (a b : Bool) (W : World) : (binOp .eql 187 (.agg #[.bool a, .bool b]) (.agg #[.bool true, .bool true])).run Tryz.prog W = .ok (.bool (a && b)) W := by
  have hu : Tryz.prog.underlying 187 = some (.array 2 4) := by kernel_rfl
  have hb : Tryz.prog.underlying 4 = some .bool := by kernel_rfl
  obtain ⟨i, hi⟩ : ∃ i, Tryz.prog.info? 4 = some i := Option.isSome_iff_exists.1 (show (Tryz.prog.info? 4).isSome = true by kernel_rfl)
  have hc : Tryz.prog.cellsOf 4 = 1 := by kernel_rfl
  have z1 := Tryz.sizeOf4
  have a1 := Tryz.isAgg4
  rw [run_eql_struct, show (10000 : Nat) = 9999 + 1 from rfl, run_equalIn_array W 9999 _ _ hu hi, hc]
  have e1 := fun x y => run_equalIn_bool' W 9998 4 x y hb
  simp only [show (9998 + 1 : Nat) = 9999 from rfl] at e1
  simp only [show List.range 2 = [0, 1] from rfl, Op.eqItems]
  go_simp
  cases a <;> cases b <;> simp
theorem guard_two (op : BinOp) (x y : Operand) (xs ys : Array Value) (W : World) : (eqGuard op 187 x y (.agg xs) (.agg ys)).run Tryz.prog W = .ok () W := run_eqGuard_agg W op _ x y xs ys (by kernel_rfl)
attribute [local go_sem high] eql_two guard_two
theorem index_two0 (a b : Option Addr) (n c n' c' : Nat) (W : World) : (Instr.index 169 (.agg #[.slice a n c, .slice b n' c']) (.int .i64 0)).run Tryz.prog W = .ok (.slice a n c) W := by
  have hu : Tryz.prog.underlying 169 = some (.array 2 31) := by kernel_rfl
  have z1 := Tryz.sizeOf31
  have a1 := Tryz.isAgg31
  unfold Instr.index
  simp only [Sem.run_bind, run_underlying hu, Result.andThen_ok]
  go_simp
theorem index_two1 (a b : Option Addr) (n c n' c' : Nat) (W : World) : (Instr.index 169 (.agg #[.slice a n c, .slice b n' c']) (.int .i64 1)).run Tryz.prog W = .ok (.slice b n' c') W := by
  have hu : Tryz.prog.underlying 169 = some (.array 2 31) := by kernel_rfl
  have z1 := Tryz.sizeOf31
  have a1 := Tryz.isAgg31
  unfold Instr.index
  simp only [Sem.run_bind, run_underlying hu, Result.andThen_ok]
  go_simp
attribute [local go_sem high] index_two0 index_two1
/-- What holds when k lines have been decoded. -/
structure Both (xs ys : List Nat) (w : World) (k : Nat) (wr : World) (x y : Value) (o o' : Bool) : Prop where
  below : Below w.heap.size w wr
  rows : Two wr (w.heap.size + 1) 166 x y
  oks : Two wr (w.heap.size + 1 + 1) 187 (.bool o) (.bool o')
  one : 1 ≤ k → ∃ l, AloneRR xs false l o ∧ RNew wr (w.heap.size + 3) x l
  two : 2 ≤ k → ∃ l, AloneRR ys false l o' ∧ RNew wr (w.heap.size + 3) y l ∧ ∀ j, x.ownBlock = some j → y.ownBlock ≠ some j
theorem Both.start (xs ys : List Nat) (w : World) (a b x y : Value) (t : TypeId) (o o' : Bool) : Both xs ys w 0 (((w.alloc (.cells #[a, b] t)).alloc (.cells #[x, y] 166)).alloc (.cells #[.bool o, .bool o'] 187)) x y o o' := by
  refine ⟨?_, ?_, ?_, fun h => by omega, fun h => by omega⟩
  · have h1 := (Below.refl w.heap.size w).alloc (Nat.le_refl _) (.cells #[a, b] t)
    have h2 := h1.alloc h1.size (.cells #[x, y] 166)
    exact h2.alloc h2.size _
  · have h := heap_alloc_new (w.alloc (.cells #[a, b] t)) (.cells #[x, y] 166)
    rw [World.size_alloc] at h
    exact (Below.heap_alloc _ _ _ (by simp)).trans h
  · have h := heap_alloc_new ((w.alloc (.cells #[a, b] t)).alloc (.cells #[x, y] 166)) (.cells #[.bool o, .bool o'] 187)
    rw [World.size_alloc, World.size_alloc] at h
    exact h
theorem Both.next1 {xs ys : List Nat} {w wr w2 : World} {x y r : Value} {o o' p : Bool} {l : List C3} (h : Both xs ys w 0 wr x y o o') (hb : Below wr.heap.size wr w2) (ha : AloneRR xs false l p) (hr : RNew w2 wr.heap.size r l) :
    Both xs ys w 1 ((w2.setCell ⟨w.heap.size + 1, 0, none⟩ r).setCell ⟨w.heap.size + 1 + 1, 0, none⟩ (.bool p)) r y p o' := by
  have hlt := h.oks.lt
  have hr2 : RNew w2 (w.heap.size + 3) r l := hr.mono (by omega)
  refine ⟨?_, ?_, ?_, fun _ => ⟨l, ha, ?_⟩, fun h => by omega⟩
  · exact ((below_trans h.below hb h.below.size).setCell (by show w.heap.size ≤ w.heap.size + 1; omega) _).setCell (by show w.heap.size ≤ w.heap.size + 1 + 1; omega) _
  · exact ((h.rows.below hb).put0 r).far (by omega)
  · exact ((h.oks.below hb).far (by omega)).put0 _
  · exact (hr2.far (Lib.grownBy_setCell _ _ _ _) (fun k hk e => by have := (hr2.lt k hk).1; have e2 := Option.some.inj e; omega)).far (Lib.grownBy_setCell _ _ _ _) (fun k hk e => by have := (hr2.lt k hk).1; have e2 := Option.some.inj e; omega)
theorem Both.next2 {xs ys : List Nat} {w wr w2 : World} {x y r : Value} {o o' p : Bool} {l : List C3} (h : Both xs ys w 1 wr x y o o') (hb : Below wr.heap.size wr w2) (ha : AloneRR ys false l p) (hr : RNew w2 wr.heap.size r l) :
    Both xs ys w 2 ((w2.setCell ⟨w.heap.size + 1, 1, none⟩ r).setCell ⟨w.heap.size + 1 + 1, 1, none⟩ (.bool p)) x r o p := by
  have hlt := h.oks.lt
  have hr2 : RNew w2 (w.heap.size + 3) r l := hr.mono (by omega)
  obtain ⟨l0, ha0, hr0⟩ := h.one (by decide)
  have hr1 := hr0.below hb
  refine ⟨?_, ?_, ?_, fun _ => ⟨l0, ha0, ?_⟩, fun _ => ⟨l, ha, ?_, fun j hj e => ?_⟩⟩
  · exact ((below_trans h.below hb h.below.size).setCell (by show w.heap.size ≤ w.heap.size + 1; omega) _).setCell (by show w.heap.size ≤ w.heap.size + 1 + 1; omega) _
  · exact ((h.rows.below hb).put1 r).far (by omega)
  · exact ((h.oks.below hb).far (by omega)).put1 _
  · exact (hr1.far (Lib.grownBy_setCell _ _ _ _) (fun k hk e => by have := (hr1.lt k hk).1; have e2 := Option.some.inj e; omega)).far (Lib.grownBy_setCell _ _ _ _) (fun k hk e => by have := (hr1.lt k hk).1; have e2 := Option.some.inj e; omega)
  · exact (hr2.far (Lib.grownBy_setCell _ _ _ _) (fun k hk e => by have := (hr2.lt k hk).1; have e2 := Option.some.inj e; omega)).far (Lib.grownBy_setCell _ _ _ _) (fun k hk e => by have := (hr2.lt k hk).1; have e2 := Option.some.inj e; omega)
  · have := (hr0.lt j hj).2
    have := (hr.lt j e).1
    omega
theorem RNew.lenv2 {w : World} {base : Nat} {v : Value} {cs : List C3} (h : RNew w base v cs) : ∃ a n c, v = .slice a n c := by
  rcases h with ⟨rfl, _⟩ | ⟨g, cap, cur, rfl, _⟩
  · exact ⟨none, 0, 0, rfl⟩
  · exact ⟨_, _, _, rfl⟩
/-- The rows are stored again as they are. -/
theorem Both.again {xs ys : List Nat} {w wr : World} {x y : Value} {o o' : Bool} {k : Nat} (h : Both xs ys w k wr x y o o') : Both xs ys w k ((wr.drew.setCell ⟨w.heap.size + 1, 0, none⟩ x).setCell ⟨w.heap.size + 1, 1, none⟩ y) x y o o' := by
  have hf : ∀ {v : Value} {l : List C3}, RNew wr (w.heap.size + 3) v l → RNew ((wr.drew.setCell ⟨w.heap.size + 1, 0, none⟩ x).setCell ⟨w.heap.size + 1, 1, none⟩ y) (w.heap.size + 3) v l := by
    intro v l hr
    have hr : RNew wr.drew (w.heap.size + 3) v l := hr
    exact (hr.far (Lib.grownBy_setCell _ _ _ _) (fun k hk e => by have := (hr.lt k hk).1; have e2 := Option.some.inj e; omega)).far (Lib.grownBy_setCell _ _ _ _) (fun k hk e => by have := (hr.lt k hk).1; have e2 := Option.some.inj e; omega)
  refine ⟨?_, ?_, ?_, fun hk => ?_, fun hk => ?_⟩
  · exact (h.below.drew.setCell (by show w.heap.size ≤ w.heap.size + 1; omega) _).setCell (by show w.heap.size ≤ w.heap.size + 1; omega) _
  · exact (h.rows.drew.put0 x).put1 y
  · exact (h.oks.drew.far (by omega)).far (by omega)
  · obtain ⟨l, h1, h2⟩ := h.one hk
    exact ⟨l, h1, hf h2⟩
  · obtain ⟨l, h1, h2, h3⟩ := h.two hk
    exact ⟨l, h1, hf h2, h3⟩
def BothPost (xs ys : List Nat) (w : World) (e : Ending) (w' : World) : Prop := ∃ x y l l' o o', e = .returned (.tuple #[.agg #[x, y], .bool (o && o')]) ∧ AloneRR xs false l o ∧ AloneRR ys false l' o' ∧ RNew w' w.heap.size x l ∧ RNew w' w.heap.size y l' ∧ (∀ j, x.ownBlock = some j → y.ownBlock ≠ some j) ∧ Below w.heap.size w w'
theorem FRow.lenv2 {w : World} {v : Value} {xs : List Nat} (h : FRow w v xs) : ∃ a n c, v = .slice a n c := by
  obtain ⟨a, c, rfl⟩ := h.lenv
  exact ⟨_, _, _, rfl⟩
set_option maxHeartbeats 2000000 in
set_option maxRecDepth 100000 in
theorem decodedAlone_any (v v' : Value) (xs ys : List Nat) (w : World) (h : FRow w v xs) (h' : FRow w v' ys) (hl : xs.length ≤ 4000000) (hl' : ys.length ≤ 4000000) :
    Calls Tryz.prog 147 #[.agg #[v, v']] w fun e w' => BothPost xs ys w e w' := by
  have H1 := fun W hW => Lib.hid (alone_any v xs false W hW hl)
  have H2 := fun W hW => Lib.hid (alone_any v' ys false W hW hl')
  have HR := Lib.hid h
  have HR' := Lib.hid h'
  obtain ⟨n, c, o, rfl⟩ := h.lenv2
  obtain ⟨n', c', o', rfl⟩ := h'.lenv2
  clear h h'
  have HST := Lib.hid (Both.start xs ys w (.slice n c o) (.slice n' c' o') (.slice none 0 0) (.slice none 0 0) 169 false false)
  go_enter Tryz.func147, Tryz.ntmps147
  go_wp2
  go_loopw [8] (fun i wr => ∃ (k : Nat) (x y : Value) (p p' : Bool), (k = 0 ∨ k = 1 ∨ k = 2) ∧ i = .int .i64 (k : Int) ∧ Both xs ys w k wr x y p p') (fun i _ => 2 - (intOf i).toNat)
  case atStart => exact ⟨0, _, _, _, _, .inl rfl, rfl, HST.out⟩
  case round =>
    clear HST
    obtain ⟨k, x, y, p, p', hk, rfl, hm⟩ := hrel
    have HM := Lib.hid hm
    clear hm
    rcases hk with rfl | rfl | rfl
    · have HA := H1 wr (HR.out.below HM.out.below)
      go_wp2_with fail
      refine HA.out.mono ?_
      rintro e w2 ⟨r, l, ok, rfl, hr, hn, hb2⟩
      obtain ⟨ra, rn, rc, rfl⟩ := hn.lenv2
      have HN := Lib.hid (HM.out.next1 hb2 hr hn)
      have t1 := HM.out.rows.below hb2
      have t2 := (HM.out.oks.below hb2).far (c := w.heap.size + 1) (i := 0) (z := .slice ra rn rc) (by omega)
      have c1 := t1.c0
      have f1 := t1.f0
      have c2 := t2.c0
      have f2 := t2.f0
      clear t1 t2 hr hn HA hb2
      go_wp2
      go_roundw
      case rel => exact ⟨1, _, _, _, _, .inr (.inl rfl), rfl, HN.out⟩
      case measure => simp [intOf]
    · have HA := H2 wr (HR'.out.below HM.out.below)
      go_wp2_with fail
      refine HA.out.mono ?_
      rintro e w2 ⟨r, l, ok, rfl, hr, hn, hb2⟩
      obtain ⟨ra, rn, rc, rfl⟩ := hn.lenv2
      have HN := Lib.hid (HM.out.next2 hb2 hr hn)
      have t1 := HM.out.rows.below hb2
      have t2 := (HM.out.oks.below hb2).far (c := w.heap.size + 1) (i := 1) (z := .slice ra rn rc) (by omega)
      have c1 := t1.c1
      have f1 := t1.f1
      have c2 := t2.c1
      have f2 := t2.f1
      clear t1 t2 hr hn HA hb2
      go_wp2
      go_roundw
      case rel => exact ⟨2, _, _, _, _, .inr (.inr rfl), rfl, HN.out⟩
      case measure => simp [intOf]
    · obtain ⟨lx, ax, nx⟩ := HM.out.one (by decide)
      obtain ⟨ly, ay, ny, hap⟩ := HM.out.two (Nat.le_refl _)
      obtain ⟨xa, xn, xc, rfl⟩ := nx.lenv2
      obtain ⟨ya, yn, yc, rfl⟩ := ny.lenv2
      have HF := Lib.hid (show Both xs ys w 2 ((wr.setCell ⟨w.heap.size + 1, 0, none⟩ (.slice xa xn xc)).setCell ⟨w.heap.size + 1, 1, none⟩ (.slice ya yn yc)).drew _ _ p p' from HM.out.again)
      have c1 := HM.out.rows.c0
      have c2 := HM.out.rows.c1
      have c3 := HM.out.oks.c0
      have c4 := HM.out.oks.c1
      have f1 := HM.out.rows.f0
      have f2 := HM.out.rows.f1
      clear ax nx ay ny hap
      go_wp2
      go_region
      all_goals
        go_wp2
        generalize ((wr.setCell ⟨w.heap.size + 1, 0, none⟩ (.slice xa xn xc)).setCell ⟨w.heap.size + 1, 1, none⟩ (.slice ya yn yc)).drew = w9 at *
        have r0 := HF.out.rows.c0
        have r1 := HF.out.rows.c1
        obtain ⟨lx, ax, nx⟩ := HF.out.one (by decide)
        obtain ⟨ly, ay, ny, hap⟩ := HF.out.two (Nat.le_refl _)
        refine bodyPost_ret (v := .tuple #[.agg #[.slice xa xn xc, .slice ya yn yc], .bool (p && p')]) ?_ rfl ⟨_, _, lx, ly, p, p', rfl, ax, ay, nx.mono (by omega), ny.mono (by omega), hap, HF.out.below⟩
        simp [results, Tryz.results147, go_sem, r0, r1]
end Go.Proofs.YtobpnoiienpipaaGreat

/-
  What is proved: the walk of MeanRow.
  Conditions: both rows can be read.
-/
namespace Go.Proofs.YtobpnoiienpipaaGreat
set_option linter.unusedVariables false
open Go.RowKit
attribute [local go_sem] run_store_float run_store_complex unary_negf neg256

theorem halfSum_any (x y : Nat) (w : World) (hx : Flt.fin x = true) (hy : Flt.fin y = true) :
    Calls Tryz.prog 175 #[.float .f32 x, .float .f32 y] w fun e w' => e = .returned (.float .f32 (Flt.half x y)) ∧ w = w' := by
  obtain ⟨r, hr, hq, _⟩ := Flt.half_fin hx hy
  have h1 := fun W => run_float_arith (P := Tryz.prog) W .add 25 .f32 _ _ _ hr
  have h2 := fun W => run_float_arith (P := Tryz.prog) W .quo 25 .f32 _ _ _ hq
  clear hr hq hx hy
  go_enter Tryz.func175, Tryz.ntmps175
  go_wp2
  go_ret
  exact ⟨rfl, rfl⟩
theorem l02Half_any (x y : Nat) (w : World) (hx : Flt.fin x = true) (hy : Flt.fin y = true) :
    Calls Tryz.prog 107 #[.float .f32 x, .float .f32 y] w fun e w' => e = .returned (.float .f32 (Flt.half x y)) ∧ w = w' := by
  obtain ⟨r, hr, hq, _⟩ := Flt.half_fin hx hy
  have h1 := fun W => run_float_arith (P := Tryz.prog) W .add 25 .f32 _ _ _ hr
  have h2 := fun W => run_float_arith (P := Tryz.prog) W .quo 25 .f32 _ _ _ hq
  clear hr hq hx hy
  go_enter Tryz.func107, Tryz.ntmps107
  go_wp2
  go_ret
  exact ⟨rfl, rfl⟩
theorem halfColour_any (u v u' v' : Nat) (w : World) (hu : Flt.fin u = true) (hv : Flt.fin v = true) (hu' : Flt.fin u' = true) (hv' : Flt.fin v' = true) :
    Calls Tryz.prog 165 #[.complex .f32 u v, .complex .f32 u' v'] w fun e w' => e = .returned (.complex .f32 (Flt.half u u') (Flt.half v v')) ∧ w = w' := by
  have HU := fun W => Lib.hid (halfSum_any u u' W hu hu')
  have HV := fun W => Lib.hid (halfSum_any v v' W hv hv')
  clear hu hv hu' hv'
  go_enter Tryz.func165, Tryz.ntmps165
  go_wp2_with fail
  refine (HU _).out.mono ?_
  rintro e w1 ⟨rfl, rfl⟩
  go_wp2_with fail
  refine (HV _).out.mono ?_
  rintro e w1 ⟨rfl, rfl⟩
  go_wp2
  go_ret
  exact ⟨rfl, rfl⟩
/-- The cell halfway between two. -/
def mid (c d : C3) : C3 := (Flt.half c.1 d.1, Flt.half c.2.1 d.2.1, Flt.half c.2.2 d.2.2)
def Finc (c : C3) : Prop := Flt.fin c.1 = true ∧ Flt.fin c.2.1 = true ∧ Flt.fin c.2.2 = true
end Go.Proofs.YtobpnoiienpipaaGreat

/-
  What is proved: the closure that makes the one colour of two lines.
  Conditions: the parts of both colours are finite.
-/
namespace Go.Proofs.YtobpnoiienpipaaGreat
set_option linter.unusedVariables false
open Go.RowKit
attribute [local go_sem] run_store_float run_store_complex unary_negf neg256

/-- The colour of two lines that swing so. -/
def sh (n : Int) (p q : Nat × Nat) : Nat × Nat :=
  if n = 1 then (Flt.half p.1 q.1, Flt.half p.2 (Op.negFloat .f32 q.2)) else if n = -1 then (Flt.half p.1 q.1, Flt.half (Op.negFloat .f32 p.2) q.2) else (0, 0)
theorem conjP_any (u v : Nat) (w : World) :
    Calls Tryz.prog 166 #[.complex .f32 u v] w fun e w' => e = .returned (.complex .f32 u (Op.negFloat .f32 v)) ∧ w = w' := by
  go_enter Tryz.func166, Tryz.ntmps166
  go_wp2
  go_ret
  exact ⟨rfl, rfl⟩
/-- A function that makes the colour. -/
def MixF (k : FuncId) (n : Int) : Prop := ∀ (u v u' v' : Nat) (W : World), Flt.fin u = true → Flt.fin v = true → Flt.fin u' = true → Flt.fin v' = true → v < 2 ^ 32 → v' < 2 ^ 32 →
  Calls Tryz.prog k #[.complex .f32 u v, .complex .f32 u' v'] W fun e w' => e = .returned (.complex .f32 (sh n (u, v) (u', v')).1 (sh n (u, v) (u', v')).2) ∧ W = w'
theorem MixF.at {k : FuncId} {n : Int} (h : MixF k n) (c d : Nat × Nat × Nat) (W : World) (h1 : Flt.fin c.2.1 = true) (h2 : Flt.fin c.2.2 = true) (h3 : Flt.fin d.2.1 = true) (h4 : Flt.fin d.2.2 = true) (h5 : c.2.2 < 2 ^ 32) (h6 : d.2.2 < 2 ^ 32) :
    Calls Tryz.prog k #[.complex .f32 c.2.1 c.2.2, .complex .f32 d.2.1 d.2.2] W fun e w' => e = .returned (.complex .f32 (sh n c.2 d.2).1 (sh n c.2 d.2).2) ∧ W = w' := h _ _ _ _ W h1 h2 h3 h4 h5 h6
theorem mix_one : MixF 164 1 := by
  intro u v u' v' W h1 h2 h3 h4 h5 h6
  have HC := Lib.hid (conjP_any u' v' W)
  have HH := fun W => Lib.hid (halfColour_any u v u' (Op.negFloat .f32 v') W h1 h2 h3 (Flt.fin_neg h6 h4))
  clear h1 h2 h3 h4 h5 h6
  go_enter Tryz.func164, Tryz.ntmps164
  go_wp2_with fail
  refine HC.out.mono ?_
  rintro e w1 ⟨rfl, rfl⟩
  go_wp2_with fail
  refine (HH _).out.mono ?_
  rintro e w1 ⟨rfl, rfl⟩
  go_wp2
  go_ret
  exact ⟨rfl, rfl⟩
theorem mix_less : MixF 167 (-1) := by
  intro u v u' v' W h1 h2 h3 h4 h5 h6
  have HC := Lib.hid (conjP_any u v W)
  have HH := fun W => Lib.hid (halfColour_any u (Op.negFloat .f32 v) u' v' W h1 (Flt.fin_neg h5 h2) h3 h4)
  clear h1 h2 h3 h4 h5 h6
  go_enter Tryz.func167, Tryz.ntmps167
  go_wp2_with fail
  refine HC.out.mono ?_
  rintro e w1 ⟨rfl, rfl⟩
  go_wp2_with fail
  refine (HH _).out.mono ?_
  rintro e w1 ⟨rfl, rfl⟩
  go_wp2
  go_ret
  exact ⟨rfl, rfl⟩
theorem mix_no (n : Int) (h1 : n ≠ 1) (h2 : n ≠ -1) : MixF 168 n := by
  intro u v u' v' W _ _ _ _ _ _
  have HS := Lib.hid (show sh n (u, v) (u', v') = (0, 0) by unfold sh; rw [if_neg h1, if_neg h2])
  clear h1 h2
  go_enter Tryz.func168, Tryz.ntmps168
  go_wp2
  go_ret
  exact ⟨by rw [HS.out]; rfl, rfl⟩
def MixPost (n : Int) (w : World) (e : Ending) (w' : World) : Prop := ∃ k : FuncId, (k = 164 ∨ k = 167 ∨ k = 168) ∧ e = .returned (.func (.func k) #[] #[]) ∧ MixF k n ∧ w = w'
theorem shared_any (n : Int) (w : World) :
    Calls Tryz.prog 148 #[.int .i64 n] w fun e w' => MixPost n w e w' := by
  by_cases h1 : n = 1
  · subst h1
    go_enter Tryz.func148, Tryz.ntmps148
    go_wp2
    go_ret
    exact ⟨_, .inl rfl, rfl, mix_one, rfl⟩
  · have d1 : decide (n = 1) = false := decide_eq_false h1
    by_cases h2 : n = -1
    · subst h2
      go_enter Tryz.func148, Tryz.ntmps148
      go_wp2
      go_ret
      exact ⟨_, .inr (.inl rfl), rfl, mix_less, rfl⟩
    · have d2 : decide (n = -1) = false := decide_eq_false h2
      have HN := Lib.hid (mix_no n h1 h2)
      go_enter Tryz.func148, Tryz.ntmps148
      go_wp2
      go_ret
      exact ⟨_, .inr (.inr rfl), rfl, HN.out, rfl⟩
end Go.Proofs.YtobpnoiienpipaaGreat
