/-
  What is proved: what two lines of a pair tell together is determined; rows of cells that may be written.
  Conditions: those that each fact names.
-/
import Derived.Test.YtobpnoiienpipaaGreatPz22
import Derived.Test.YtobpnoiienpipaaGreatPz24
import Derived.Test.YtobpnoiienpipaaGreatPz25
namespace Go.Proofs.YtobpnoiienpipaaGreat
set_option linter.unusedVariables false
open Go.RowKit
attribute [local go_sem] run_store_float run_store_complex unary_negf neg256

def mixA (n : Int) (p q : C3) : C3 := (p.1, sh n p.2 q.2)
def mixB (n : Int) (p q : C3) : C3 := (q.1, sh n p.2 q.2)
def rowA (n : Int) (ps qs : List C3) : List C3 := List.zipWith (mixA n) ps qs
def rowB (n : Int) (ps qs : List C3) : List C3 := List.zipWith (mixB n) ps qs
def PairR (xs ys : List Nat) (rows : List (List C3)) (ok : Bool) : Prop := ∃ ps qs o1 o2, AloneRR xs false ps o1 ∧ AloneRR ys false qs o2 ∧ ok = (o1 && (o2 && decide (ps.length = qs.length))) ∧ (ok = true → ∃ n, SwingR xs ys n ∧ rows = [rowA n ps qs, rowB n ps qs]) ∧ (ok = false → rows = [])
theorem PairR.same {xs ys : List Nat} {rows rows' : List (List C3)} {ok ok' : Bool} (h : PairR xs ys rows ok) (h' : PairR xs ys rows' ok') : ok = ok' ∧ rows = rows' := by
  obtain ⟨ps, qs, o1, o2, a1, a2, rfl, a3, a4⟩ := h
  obtain ⟨ps', qs', o1', o2', b1, b2, rfl, b3, b4⟩ := h'
  obtain ⟨rfl, rfl⟩ := aloneRR_same a1 b1
  obtain ⟨rfl, rfl⟩ := aloneRR_same a2 b2
  refine ⟨rfl, ?_⟩
  cases ho : (o1 && (o2 && decide (ps.length = qs.length))) with
  | false => rw [a4 ho, b4 ho]
  | true =>
    obtain ⟨n, c1, rfl⟩ := a3 ho
    obtain ⟨n', c2, rfl⟩ := b3 ho
    rw [c1.same c2]
theorem aloneRR_fit {xs : List Nat} {l : List C3} {a : Bool} (h : AloneRR xs false l a) : Fit l := by
  rcases h with ⟨_, cs, _, _, hf, _, rfl⟩ | ⟨_, rfl, _⟩
  · split
    · simpa using hf
    · intro c hc; cases hc
  · intro c hc; cases hc
theorem aloneRR_rok {xs : List Nat} {l : List C3} {a : Bool} (h : AloneRR xs false l a) (ha : a = true) : rok l = true := by
  subst ha
  rcases h with ⟨_, cs, _, _, hf, h4, rfl⟩ | ⟨_, _, h⟩
  · rw [if_pos h4.symm]; simpa using h4.symm
  · cases h
theorem fin_isN {x : Nat} (h : Flt.fin x = true) : isN x = false := Flt.fin_ok h
theorem sh_num {n : Int} {c d : C3} (hc : Finc c) (hd : Finc d) (fc : c.2.2 < 2 ^ 32) (fd : d.2.2 < 2 ^ 32) : isN (sh n c.2 d.2).1 = false ∧ isN (sh n c.2 d.2).2 = false := by
  unfold sh
  split
  · obtain ⟨_, _, _, h1⟩ := Flt.half_fin hc.2.1 hd.2.1
    obtain ⟨_, _, _, h2⟩ := Flt.half_fin hc.2.2 (Flt.fin_neg fd hd.2.2)
    exact ⟨h1, h2⟩
  · split
    · obtain ⟨_, _, _, h1⟩ := Flt.half_fin hc.2.1 hd.2.1
      obtain ⟨_, _, _, h2⟩ := Flt.half_fin (Flt.fin_neg fc hc.2.2) hd.2.2
      exact ⟨h1, h2⟩
    · exact ⟨by decide +kernel, by decide +kernel⟩
theorem PairR.ok {xs ys : List Nat} {rows : List (List C3)} {ok : Bool} (h : PairR xs ys rows ok) : rows.length ≤ 2 ∧ (∀ r ∈ rows, r.length ≤ 64 ∧ NumL r) ∧ csum rows ≤ 128 ∧ ∀ k, k < rows.length → 2 * csum (rows.take k) ≤ 128 := by
  obtain ⟨ps, qs, o1, o2, a1, a2, rfl, a3, a4⟩ := h
  cases ho : (o1 && (o2 && decide (ps.length = qs.length))) with
  | false =>
    obtain rfl := a4 ho
    exact ⟨Nat.zero_le _, (fun r hr => by cases hr), Nat.zero_le _, fun k hk => absurd hk (Nat.not_lt_zero _)⟩
  | true =>
    obtain ⟨n, _, rfl⟩ := a3 ho
    rw [Bool.and_eq_true, Bool.and_eq_true, decide_eq_true_iff] at ho
    obtain ⟨h1, h2, h3⟩ := ho
    have r1 := rok_iff.1 (aloneRR_rok a1 h1)
    have r2 := rok_iff.1 (aloneRR_rok a2 h2)
    have f1 := aloneRR_fit a1
    have f2 := aloneRR_fit a2
    have la : (rowA n ps qs).length ≤ 64 := by unfold rowA; rw [List.length_zipWith]; have := r1.1.2; omega
    have lb : (rowB n ps qs).length ≤ 64 := by unfold rowB; rw [List.length_zipWith]; have := r1.1.2; omega
    have na : NumL (rowA n ps qs) := by
      intro c hc
      obtain ⟨i, hi, rfl⟩ := List.mem_iff_getElem.1 hc
      unfold rowA at hi ⊢
      rw [List.getElem_zipWith]
      rw [List.length_zipWith] at hi
      have ha := r1.2 _ (List.getElem_mem (show i < ps.length by omega))
      have hb := r2.2 _ (List.getElem_mem (show i < qs.length by omega))
      have hs := sh_num (n := n) ha hb (f1 _ (List.getElem_mem (show i < ps.length by omega))).2.2 (f2 _ (List.getElem_mem (show i < qs.length by omega))).2.2
      exact ⟨fin_isN ha.1, hs.1, hs.2⟩
    have nb : NumL (rowB n ps qs) := by
      intro c hc
      obtain ⟨i, hi, rfl⟩ := List.mem_iff_getElem.1 hc
      unfold rowB at hi ⊢
      rw [List.getElem_zipWith]
      rw [List.length_zipWith] at hi
      have ha := r1.2 _ (List.getElem_mem (show i < ps.length by omega))
      have hb := r2.2 _ (List.getElem_mem (show i < qs.length by omega))
      have hs := sh_num (n := n) ha hb (f1 _ (List.getElem_mem (show i < ps.length by omega))).2.2 (f2 _ (List.getElem_mem (show i < qs.length by omega))).2.2
      exact ⟨fin_isN hb.1, hs.1, hs.2⟩
    refine ⟨Nat.le_refl _, fun r hr => ?_, ?_, fun k hk => ?_⟩
    · rcases List.mem_cons.1 hr with rfl | hr
      · exact ⟨la, na⟩
      · obtain rfl := List.mem_singleton.1 hr
        exact ⟨lb, nb⟩
    · show (rowA n ps qs).length + ((rowB n ps qs).length + 0) ≤ 128
      omega
    · have hk : k < 2 := hk
      rcases (by omega : k = 0 ∨ k = 1) with rfl | rfl
      · show 2 * 0 ≤ 128; decide
      · show 2 * ((rowA n ps qs).length + 0) ≤ 128
        omega
/-- The answer of two lines. -/
def PairA (xs ys : List Nat) (w : World) (e : Ending) (w' : World) : Prop := ∃ v rows ss ok, e = .returned (.tuple #[v, .bool ok]) ∧ PairR xs ys rows ok ∧ GridN w' w.heap.size v rows ss ∧ Below w.heap.size w w'

/-! Cells of a row. -/
theorem RNew.rd {w : World} {base g n cap i : Nat} {cs : List C3} (h : RNew w base (.slice (some ⟨g, 0, none⟩) n cap) cs) (hi : i < cs.length) :
    w.cell? ⟨g, i * 2, none⟩ = some (.float .f32 cs[i].1) ∧ w.cell? ⟨g, i * 2 + 1, none⟩ = some (.complex .f32 cs[i].2.1 cs[i].2.2) ∧ w.frozen? ⟨g, i * 2, none⟩ = false ∧ w.frozen? ⟨g, i * 2 + 1, none⟩ = false := by
  rcases h with ⟨e, _⟩ | ⟨g', cap', cur, e, _, _, h3, _, h5⟩
  · cases e
  · cases e
    obtain ⟨c0, c1⟩ := h5 i hi
    exact ⟨by simp [World.cell?, h3, c0], by simp [World.cell?, h3, c1], by simp [World.frozen?, h3], by simp [World.frozen?, h3]⟩
theorem RNew.putC {w : World} {base g n cap i : Nat} {cs : List C3} (h : RNew w base (.slice (some ⟨g, 0, none⟩) n cap) cs) (hi : i < cs.length) (u v : Nat) : RNew (w.setCell ⟨g, i * 2 + 1, none⟩ (.complex .f32 u v)) base (.slice (some ⟨g, 0, none⟩) n cap) (cs.set i (cs[i].1, u, v)) := by
  rcases h with ⟨e, _⟩ | ⟨g', cap', cur, e, h1, h2, h3, h4, h5⟩
  · cases e
  · cases e
    refine .inr ⟨g, cap, cur.setIfInBounds (i * 2 + 1) (.complex .f32 u v), by rw [List.length_set], h1, by rw [List.length_set]; exact h2, heap_put h3, by rw [List.length_set, Array.size_setIfInBounds]; exact h4, fun j hj => ?_⟩
    rw [List.length_set] at hj
    obtain ⟨c0, c1⟩ := h5 j hj
    by_cases e : i = j
    · subst e
      rw [List.getElem_set_self]
      exact ⟨by rw [Array.getElem?_setIfInBounds, if_neg (by omega)]; exact c0, by rw [Array.getElem?_setIfInBounds, if_pos rfl, if_pos (by omega)]⟩
    · rw [List.getElem_set_ne (by omega)]
      exact ⟨by rw [Array.getElem?_setIfInBounds, if_neg (by omega)]; exact c0, by rw [Array.getElem?_setIfInBounds, if_neg (by omega)]; exact c1⟩
theorem RNew.someD {w : World} {base : Nat} {v : Value} {cs : List C3} (h : RNew w base v cs) (h0 : cs ≠ []) : ∃ g cap, v = .slice (some ⟨g, 0, none⟩) cs.length cap ∧ cs.length ≤ cap ∧ base ≤ g ∧ g < w.heap.size := by
  rcases h with ⟨_, e⟩ | ⟨g, cap, cur, rfl, h1, h2, h3, _⟩
  · exact absurd e h0
  · exact ⟨g, cap, rfl, h2, h1, (Array.getElem?_eq_some_iff.1 h3).1⟩
/-- Two rows whose first k cells have their one colour. -/
structure PairK (w : World) (n : Int) (gx cx gy cy : Nat) (ps qs : List C3) (k : Nat) (wr : World) : Prop where
  below : Below w.heap.size w wr
  px : RNew wr w.heap.size (.slice (some ⟨gx, 0, none⟩) ps.length cx) ((rowA n ps qs).take k ++ ps.drop k)
  py : RNew wr w.heap.size (.slice (some ⟨gy, 0, none⟩) ps.length cy) ((rowB n ps qs).take k ++ qs.drop k)
theorem PairK.drew {w : World} {n : Int} {gx cx gy cy k : Nat} {ps qs : List C3} {wr : World} (h : PairK w n gx cx gy cy ps qs k wr) : PairK w n gx cx gy cy ps qs k wr.drew := ⟨h.below.drew, h.px, h.py⟩
theorem PairK.rd {w : World} {n : Int} {gx cx gy cy k : Nat} {ps qs : List C3} {wr : World} (h : PairK w n gx cx gy cy ps qs k wr) (hl : ps.length = qs.length) (hk : k < ps.length) (hkq : k < qs.length) :
    (wr.cell? ⟨gx, k * 2 + 1, none⟩ = some (.complex .f32 ps[k].2.1 ps[k].2.2) ∧ wr.frozen? ⟨gx, k * 2 + 1, none⟩ = false) ∧ (wr.cell? ⟨gy, k * 2 + 1, none⟩ = some (.complex .f32 qs[k].2.1 qs[k].2.2) ∧ wr.frozen? ⟨gy, k * 2 + 1, none⟩ = false) := by
  have la : (rowA n ps qs).length = ps.length := by unfold rowA; rw [List.length_zipWith]; omega
  have lb : (rowB n ps qs).length = qs.length := by unfold rowB; rw [List.length_zipWith]; omega
  have ta : k < ((rowA n ps qs).take k ++ ps.drop k).length := by rw [take_drop_len la (by omega)]; exact hk
  have tb : k < ((rowB n ps qs).take k ++ qs.drop k).length := by rw [take_drop_len lb (by omega)]; exact hkq
  obtain ⟨_, x1, _, x2⟩ := h.px.rd ta
  obtain ⟨_, y1, _, y2⟩ := h.py.rd tb
  rw [take_drop_at la hk ta] at x1
  rw [take_drop_at lb hkq tb] at y1
  exact ⟨⟨x1, x2⟩, y1, y2⟩
theorem PairK.next {w : World} {n : Int} {gx cx gy cy k : Nat} {ps qs : List C3} {wr : World} (h : PairK w n gx cx gy cy ps qs k wr) (hl : ps.length = qs.length) (hk : k < ps.length) (hkq : k < qs.length) (hne : gx ≠ gy) :
    PairK w n gx cx gy cy ps qs (k + 1) ((wr.setCell ⟨gx, k * 2 + 1, none⟩ (.complex .f32 (sh n ps[k].2 qs[k].2).1 (sh n ps[k].2 qs[k].2).2)).setCell ⟨gy, k * 2 + 1, none⟩ (.complex .f32 (sh n ps[k].2 qs[k].2).1 (sh n ps[k].2 qs[k].2).2)) := by
  have la : (rowA n ps qs).length = ps.length := by unfold rowA; rw [List.length_zipWith]; omega
  have lb : (rowB n ps qs).length = qs.length := by unfold rowB; rw [List.length_zipWith]; omega
  have ha : (rowA n ps qs)[k]'(by omega) = (ps[k].1, (sh n ps[k].2 qs[k].2).1, (sh n ps[k].2 qs[k].2).2) := by unfold rowA; rw [List.getElem_zipWith]; rfl
  have hb : (rowB n ps qs)[k]'(by omega) = (qs[k].1, (sh n ps[k].2 qs[k].2).1, (sh n ps[k].2 qs[k].2).2) := by unfold rowB; rw [List.getElem_zipWith]; rfl
  have ta : k < ((rowA n ps qs).take k ++ ps.drop k).length := by rw [take_drop_len la (by omega)]; exact hk
  have tb : k < ((rowB n ps qs).take k ++ qs.drop k).length := by rw [take_drop_len lb (by omega)]; exact hkq
  have hx := h.px.putC ta (sh n ps[k].2 qs[k].2).1 (sh n ps[k].2 qs[k].2).2
  rw [take_drop_at la hk ta, set_take_drop (by omega) hk ha] at hx
  have hy := (h.py.far (Lib.grownBy_setCell wr gx (k * 2 + 1) (.complex .f32 (sh n ps[k].2 qs[k].2).1 (sh n ps[k].2 qs[k].2).2)) (fun j hj e => by have e1 : gy = j := Option.some.inj hj; have e2 := Option.some.inj e; omega)).putC tb (sh n ps[k].2 qs[k].2).1 (sh n ps[k].2 qs[k].2).2
  rw [take_drop_at lb hkq tb, set_take_drop (by omega) hkq hb] at hy
  refine ⟨?_, ?_, hy⟩
  · exact (h.below.setCell (h.px.lt gx rfl).1 _).setCell (h.py.lt gy rfl).1 _
  · exact hx.far (Lib.grownBy_setCell _ _ _ _) (fun j hj e => by have e1 : gx = j := Option.some.inj hj; have e2 := Option.some.inj e; omega)
theorem PairK.last {w : World} {n : Int} {gx cx gy cy : Nat} {ps qs : List C3} {wr : World} (h : PairK w n gx cx gy cy ps qs ps.length wr) (hl : ps.length = qs.length) : RNew wr w.heap.size (.slice (some ⟨gx, 0, none⟩) ps.length cx) (rowA n ps qs) ∧ RNew wr w.heap.size (.slice (some ⟨gy, 0, none⟩) ps.length cy) (rowB n ps qs) := by
  have la : (rowA n ps qs).length = ps.length := by unfold rowA; rw [List.length_zipWith]; omega
  have lb : (rowB n ps qs).length = qs.length := by unfold rowB; rw [List.length_zipWith]; omega
  have h1 := h.px
  have h2 := h.py
  rw [List.take_of_length_le (by omega), List.drop_length, List.append_nil] at h1
  rw [List.take_of_length_le (by omega), hl, List.drop_length, List.append_nil, ← hl] at h2
  exact ⟨h1, h2⟩
theorem PairK.drewN {w : World} {n : Int} {gx cx gy cy k : Nat} {ps qs : List C3} {wr : World} (h : PairK w n gx cx gy cy ps qs k wr) (N : Nat) : PairK w n gx cx gy cy ps qs k (wr.drewN N) := ⟨belowDN h.below N, h.px, h.py⟩
/-- Both rows stand in a list of their own. -/
theorem PairK.done {w wr w6 : World} {n : Int} {gx cx gy cy g6 cap6 : Nat} {ps qs : List C3} (h : PairK w n gx cx gy cy ps qs ps.length wr) (hl : ps.length = qs.length) (hne : gx ≠ gy)
    (ho : LSc.Own w6 w.heap.size (.slice (some ⟨g6, 0, none⟩) 2 cap6) [(some ⟨gx, 0, none⟩, ps.length, cx), (some ⟨gy, 0, none⟩, ps.length, cy)]) (o : Obj) (hg : (wr.alloc o).grownBy w6 (some wr.heap.size)) (hor : g6 = wr.heap.size ∨ g6 = wr.heap.size + 1) :
    GridN w6 w.heap.size (.slice (some ⟨g6, 0, none⟩) 2 cap6) [rowA n ps qs, rowB n ps qs] [(some ⟨gx, 0, none⟩, ps.length, cx), (some ⟨gy, 0, none⟩, ps.length, cy)] ∧ Below w.heap.size w w6 := by
  obtain ⟨hx, hy⟩ := h.last hl
  have lx := (hx.lt gx rfl).2
  have ly := (hy.lt gy rfl).2
  have hx6 := (hx.below ((Below.refl wr.heap.size wr).alloc (Nat.le_refl _) o)).far hg (fun k hk e => by have e1 : gx = k := Option.some.inj hk; have e2 := Option.some.inj e; omega)
  have hy6 := (hy.below ((Below.refl wr.heap.size wr).alloc (Nat.le_refl _) o)).far hg (fun k hk e => by have e1 : gy = k := Option.some.inj hk; have e2 := Option.some.inj e; omega)
  have hsz := h.below.size
  refine ⟨⟨ho, rfl, fun i h1 h2 => ?_, fun i j h1 h2 hij k hk e => ?_, fun i h1 k hk e => ?_⟩, (h.below.alloc hsz o).grown hg (by simp; omega) (fun k e => by have := Option.some.inj e; omega)⟩
  · have h1 : i < 2 := h1
    rcases (by omega : i = 0 ∨ i = 1) with rfl | rfl
    · exact hx6
    · exact hy6
  · have h1 : i < 2 := h1
    have h2 : j < 2 := h2
    rcases (by omega : (i = 0 ∧ j = 1) ∨ (i = 1 ∧ j = 0)) with ⟨rfl, rfl⟩ | ⟨rfl, rfl⟩
    · have e1 : gx = k := Option.some.inj hk
      have e2 : gy = k := Option.some.inj e
      omega
    · have e1 : gy = k := Option.some.inj hk
      have e2 : gx = k := Option.some.inj e
      omega
  · have h1 : i < 2 := h1
    have e2 : g6 = k := Option.some.inj e
    rcases (by omega : i = 0 ∨ i = 1) with rfl | rfl
    · have e1 : gx = k := Option.some.inj hk
      omega
    · have e1 : gy = k := Option.some.inj hk
      omega
end Go.Proofs.YtobpnoiienpipaaGreat

/-
  What is proved: lists of rows of cells to which rows are appended one by one.
  Conditions: those that each fact names.
-/
namespace Go.Proofs.YtobpnoiienpipaaGreat
set_option linter.unusedVariables false
open Go.RowKit

/-- A list of rows that can be read. -/
structure RowsV (w : World) (v : Value) (rows : List (List C3)) (ss : List SV) : Prop where
  row : LSc.Row w v ss
  len : ss.length = rows.length
  each : ∀ i (h : i < ss.length) (h' : i < rows.length), RowV w ss[i].v rows[i]
theorem GridN.rows {w : World} {base : Nat} {v : Value} {rows : List (List C3)} {ss : List SV} (h : GridN w base v rows ss) : RowsV w v rows ss :=
  ⟨h.own.row, h.len, fun i h1 h2 => (h.row i h1 h2).row⟩
theorem RowsV.below {w w' : World} {v : Value} {rows : List (List C3)} {ss : List SV} (h : RowsV w v rows ss) (hb : Below w.heap.size w w') : RowsV w' v rows ss :=
  ⟨h.row.below hb, h.len, fun i h1 h2 => (h.each i h1 h2).below hb⟩
theorem RowsV.any {w : World} {v : Value} {rows : List (List C3)} {ss : List SV} (h : RowsV w v rows ss) : ∃ a c, v = .slice a ss.length c ∧ ∀ k (hk : k < ss.length), ∃ g o, a = some ⟨g, o, none⟩ ∧ ss.length ≤ c ∧ w.cell? ⟨g, o + k, none⟩ = some ss[k].v := rowsC_any h.row
theorem GridN.nil0 (w : World) (base : Nat) : GridN w base (.slice none 0 0) [] [] :=
  ⟨Lay.ownNil LSc w base, rfl, fun i h => absurd h (by simp), fun i j h => absurd h (by simp), fun i h => absurd h (by simp)⟩
/-- A row that a call has made is appended. -/
theorem GridN.step {wr w5 w6 : World} {base g6 n6 cap6 : Nat} {v : Value} {rows : List (List C3)} {ss : List SV} {s : SV} {ys : List C3} (h : GridN wr base v rows ss) (hbase : base ≤ wr.heap.size) (hb5 : Below wr.heap.size wr w5) (hn5 : RNew w5 wr.heap.size s.v ys) (o : Obj)
    (ho : LSc.Own w6 base (.slice (some ⟨g6, 0, none⟩) n6 cap6) (ss ++ [s])) (hg6 : (w5.alloc o).grownBy w6 v.ownBlock) (hor : v.ownBlock = some g6 ∨ g6 = (w5.alloc o).heap.size) :
    GridN w6 base (.slice (some ⟨g6, 0, none⟩) n6 cap6) (rows ++ [ys]) (ss ++ [s]) ∧ wr.grownBy w6 v.ownBlock := by
  have hA : Below wr.heap.size wr (w5.alloc o) := hb5.alloc hb5.size _
  have hgr : wr.grownBy w6 v.ownBlock := World.grownBy.trans ⟨hA.os, hA.tape, hA.output, hA.size, fun k hk _ => hA.block k hk⟩ hg6
  have hvl := fun k e => h.own.lt k e
  have hs6 : RNew w6 base s.v ys := ((hn5.far (World.grownBy_alloc w5 o none) (by simp)).far hg6 (fun k e e' => by
    have h1 := (hvl k e').2
    have h2 := (hn5.lt k e).1
    omega)).mono hbase
  have hlt : ∀ i (hi : i < ss.length) k, ss[i].v.ownBlock = some k → k < wr.heap.size := fun i hi k e => ((h.row i hi (by rw [← h.len]; exact hi)).lt k e).2
  have hsz5 := hb5.size
  have hg6n : ∀ k, s.v.ownBlock = some k → k ≠ g6 := fun k e e2 => by
    subst e2
    have h1 := hn5.lt k e
    rcases hor with h2 | h2
    · have := (hvl k h2).2; omega
    · rw [World.size_alloc] at h2; omega
  have hl := h.len
  refine ⟨⟨ho, by simp [hl], fun i h1 h2 => ?_, fun i j h1 h2 hij k hk => ?_, fun i h1 k hk => ?_⟩, hgr⟩
  · by_cases hi : i < ss.length
    · rw [List.getElem_append_left hi, List.getElem_append_left (by omega)]
      exact (h.row i hi (by omega)).far hgr (fun k e e' => h.out i hi k e e')
    · have e : i = ss.length := by simp at h1; omega
      subst e
      rw [List.getElem_append_right (by omega), List.getElem_append_right (by omega)]
      simpa [hl] using hs6
  · by_cases hi : i < ss.length
    · rw [List.getElem_append_left hi] at hk
      by_cases hj : j < ss.length
      · rw [List.getElem_append_left hj]; exact h.apart i j hi hj hij k hk
      · rw [List.getElem_append_right (by omega)]
        intro e
        have e0 : j - ss.length = 0 := by simp at h2; omega
        simp only [e0, List.getElem_cons_zero] at e
        have := hlt i hi k hk
        have := (hn5.lt k e).1
        omega
    · rw [List.getElem_append_right (by omega)] at hk
      have e0 : i - ss.length = 0 := by simp at h1; omega
      simp only [e0, List.getElem_cons_zero] at hk
      by_cases hj : j < ss.length
      · rw [List.getElem_append_left hj]
        intro e
        have := hlt j hj k e
        have := (hn5.lt k hk).1
        omega
      · simp at h1 h2; omega
  · by_cases hi : i < ss.length
    · rw [List.getElem_append_left hi] at hk
      have hlk := hlt i hi k hk
      intro e
      have e2 : g6 = k := Option.some.inj e
      rcases hor with h2 | h2
      · exact h.out i hi k hk (by rw [h2, e2])
      · rw [World.size_alloc] at h2; omega
    · rw [List.getElem_append_right (by omega)] at hk
      have e0 : i - ss.length = 0 := by simp at h1; omega
      simp only [e0, List.getElem_cons_zero] at hk
      intro e
      exact hg6n k hk (Option.some.inj e).symm
end Go.Proofs.YtobpnoiienpipaaGreat
