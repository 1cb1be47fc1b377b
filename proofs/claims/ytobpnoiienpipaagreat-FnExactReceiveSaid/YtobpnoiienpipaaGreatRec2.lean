/-
  What is proved: lists of rows that are joined; a pair of lines that is cleared; what has been taken of lines.
  Conditions: those that each fact names.
-/
import Derived.Test.YtobpnoiienpipaaGreatPz32
import Derived.Test.YtobpnoiienpipaaGreatChunkL
import Derived.Lib.SliceRun
namespace Go.Proofs.YtobpnoiienpipaaGreat
set_option linter.unusedVariables false
open Go.RowKit Go.Shelf

/-- Two lists of rows, one behind the other. -/
theorem gridN_join {wr w1 w6 : World} {base g6 n6 cap6 : Nat} {v v2 : Value} {rows two : List (List C3)} {ss st : List SV} (h : GridN wr base v rows ss) (hbase : base ≤ wr.heap.size) (hb1 : Below wr.heap.size wr w1) (h2 : GridN w1 wr.heap.size v2 two st)
    (ho : LSc.Own w6 base (.slice (some ⟨g6, 0, none⟩) n6 cap6) (ss ++ st)) (hg6 : w1.grownBy w6 v.ownBlock) (hor : v.ownBlock = some g6 ∨ g6 = w1.heap.size) :
    GridN w6 base (.slice (some ⟨g6, 0, none⟩) n6 cap6) (rows ++ two) (ss ++ st) := by
  have hvl := fun k e => h.own.lt k e
  have h1 := h.below hb1
  have hlt : ∀ i (hi : i < ss.length) k, ss[i].v.ownBlock = some k → k < wr.heap.size := fun i hi k e => ((h.row i hi (by rw [← h.len]; exact hi)).lt k e).2
  have hlt2 : ∀ i (hi : i < st.length) k, st[i].v.ownBlock = some k → wr.heap.size ≤ k ∧ k < w1.heap.size := fun i hi k e => (h2.row i hi (by rw [← h2.len]; exact hi)).lt k e
  have hl := h.len
  have hl2 := h2.len
  refine ⟨ho, by rw [List.length_append, List.length_append, hl, hl2], fun i k1 k2 => ?_, fun i j k1 k2 hij k hk => ?_, fun i k1 k hk => ?_⟩
  · by_cases hi : i < ss.length
    · rw [List.getElem_append_left hi, List.getElem_append_left (by omega)]
      exact (h1.row i hi (by omega)).far hg6 (fun k e e' => h.out i hi k e e')
    · rw [List.getElem_append_right (by omega), List.getElem_append_right (by omega)]
      have hi2 : i - ss.length < st.length := by simp at k1; omega
      have e0 : i - rows.length = i - ss.length := by omega
      have := (h2.row (i - ss.length) hi2 (by omega)).far hg6 (fun k e e' => by have := (hvl k e').2; have := (hlt2 _ hi2 k e).1; omega)
      simp only [e0]
      exact this.mono hbase
  · by_cases hi : i < ss.length
    · rw [List.getElem_append_left hi] at hk
      have hki := hlt i hi k hk
      by_cases hj : j < ss.length
      · rw [List.getElem_append_left hj]; exact h.apart i j hi hj hij k hk
      · rw [List.getElem_append_right (by omega)]
        intro e
        have := (hlt2 _ (by simp at k2; omega) k e).1
        omega
    · rw [List.getElem_append_right (by omega)] at hk
      have hki := (hlt2 _ (by simp at k1; omega) k hk).1
      by_cases hj : j < ss.length
      · rw [List.getElem_append_left hj]
        intro e
        have := hlt j hj k e
        omega
      · rw [List.getElem_append_right (by omega)]
        exact h2.apart _ _ (by simp at k1; omega) (by simp at k2; omega) (by omega) k hk
  · intro e
    have e2 : g6 = k := Option.some.inj e
    by_cases hi : i < ss.length
    · rw [List.getElem_append_left hi] at hk
      have hki := hlt i hi k hk
      rcases hor with h3 | h3
      · exact h.out i hi k hk (by rw [h3, e2])
      · have := hb1.size; omega
    · rw [List.getElem_append_right (by omega)] at hk
      have hki := hlt2 _ (by simp at k1; omega) k hk
      rcases hor with h3 | h3
      · have := (hvl g6 h3).2; omega
      · omega
theorem TakeRR.len2 {xs ys : List Nat} {l k : Nat} {out : List (List C3)} (h : TakeRR xs ys l k out true) : out.length = 2 := by
  obtain ⟨rows, o, h1, h⟩ := h
  obtain ⟨_, _, _, _, _, _, _, hy, _⟩ := h1
  rcases h with ⟨_, e, _⟩ | ⟨ho, b, _, ⟨_, _, rfl⟩ | ⟨_, u, z, f, _, sz, o2, h4, ⟨_, e, _⟩ | ⟨ho2, h5⟩⟩⟩
  · cases e
  · obtain ⟨n, _, rfl⟩ := hy ho
    rfl
  · cases e
  · obtain ⟨n, _, rfl⟩ := hy ho
    subst ho2
    rcases h4 with ⟨_, e, _⟩ | ⟨_, q, _, h4⟩
    · cases e
    · rcases h4 with ⟨_, l4, _⟩ | ⟨e, _⟩
      · rcases h5 with ⟨_, l5, _⟩ | ⟨e, _⟩
        · rw [l5, l4]; rfl
        · cases e
      · cases e
theorem PairS.len2 {a b : List Nat} {l k : Nat} {two : List (List C3)} (h : PairS a b l k two true) : two.length = 2 := by
  rcases h with ⟨_, e, _⟩ | ⟨_, h⟩
  · cases e
  · exact h.len2
/-- The rows that are taken of the first n pairs of lines. -/
def TakenK (L : List (List Nat)) (l k n : Nat) (out : List (List C3)) : Prop := ∃ T : Nat → List (List C3), (∀ i, i < n → PairS (L.getD (2 * i) []) (L.getD (2 * i + 1) []) l k (T i) true) ∧ out = (List.range n).flatMap T
theorem TakenK.zero (L : List (List Nat)) (l k : Nat) : TakenK L l k 0 [] := ⟨fun _ => [], fun i h => absurd h (Nat.not_lt_zero i), rfl⟩
theorem TakenK.next {L : List (List Nat)} {l k n : Nat} {out two : List (List C3)} (h : TakenK L l k n out) (hp : PairS (L.getD (2 * n) []) (L.getD (2 * n + 1) []) l k two true) : TakenK L l k (n + 1) (out ++ two) := by
  obtain ⟨T, h1, rfl⟩ := h
  refine ⟨fun i => if i < n then T i else two, fun i hi => ?_, ?_⟩
  · by_cases e : i < n
    · simp only [if_pos e]; exact h1 i e
    · obtain rfl : i = n := by omega
      simp only [if_neg e]; exact hp
  · rw [List.range_succ, List.flatMap_append]
    congr 1
    · rw [List.flatMap_def, List.flatMap_def]
      congr 1
      exact List.map_congr_left fun i hi => by simp only [if_pos (List.mem_range.1 hi)]
    · simp
theorem TakenK.same {L : List (List Nat)} {l k n : Nat} {out out' : List (List C3)} (h : TakenK L l k n out) (h' : TakenK L l k n out') : out = out' := by
  obtain ⟨T, h1, rfl⟩ := h
  obtain ⟨T', h2, rfl⟩ := h'
  rw [List.flatMap_def, List.flatMap_def]
  congr 1
  exact List.map_congr_left fun i hi => ((h1 i (List.mem_range.1 hi)).same (h2 i (List.mem_range.1 hi))).2
/-- What is taken of lines: all rows, or nothing. -/
def RowsR (L : List (List Nat)) (l k m : Nat) (out : List (List C3)) (ok : Bool) : Prop := (ok = true ∧ TakenK L l k m out) ∨ (ok = false ∧ out = [] ∧ ∃ i, i < m ∧ ∃ two, PairS (L.getD (2 * i) []) (L.getD (2 * i + 1) []) l k two false)
theorem RowsR.same {L : List (List Nat)} {l k m : Nat} {out out' : List (List C3)} {ok ok' : Bool} (h : RowsR L l k m out ok) (h' : RowsR L l k m out' ok') : ok = ok' ∧ out = out' := by
  rcases h with ⟨rfl, h1⟩ | ⟨rfl, rfl, i, hi, two, h1⟩ <;> rcases h' with ⟨rfl, k1⟩ | ⟨rfl, rfl, j, hj, two', k1⟩
  · exact ⟨rfl, h1.same k1⟩
  · obtain ⟨T, h2, _⟩ := h1
    cases ((h2 j hj).same k1).1
  · obtain ⟨T, h2, _⟩ := k1
    cases ((h2 i hi).same h1).1
  · exact ⟨rfl, rfl⟩
theorem flat2 {T : Nat → List (List C3)} : ∀ (n : Nat), (∀ i, i < n → (T i).length = 2) → ((List.range n).flatMap T).length = 2 * n
  | 0, _ => rfl
  | n + 1, h => by
    rw [List.range_succ, List.flatMap_append, List.length_append, flat2 n (fun i hi => h i (by omega))]
    have := h n (by omega)
    simp [this]
    omega
theorem TakenK.len {L : List (List Nat)} {l k n : Nat} {out : List (List C3)} (h : TakenK L l k n out) : out.length = 2 * n := by
  obtain ⟨T, h1, rfl⟩ := h
  exact flat2 n fun i hi => (h1 i hi).len2
theorem TakenK.row {L : List (List Nat)} {l k n : Nat} {out : List (List C3)} (h : TakenK L l k n out) : ∀ r ∈ out, r.length ≤ 64 ∧ NumL r := by
  obtain ⟨T, h1, rfl⟩ := h
  intro r hr
  obtain ⟨i, hi, hr⟩ := List.mem_flatMap.1 hr
  exact (h1 i (List.mem_range.1 hi)).two.2.1 r hr

theorem zero_line : ∀ w, (zeroValue 31).run Tryz.prog w = .ok (.slice none 0 0) w := by
  intro w
  have h := (show (Tryz.prog.info? 31).map (fun i => (i.zero, i.size, i.bytes)) = some (some (.slice none 0 0), 1, 24) by kernel_rfl)
  cases hq : Tryz.prog.info? 31 with
  | none => simp [hq] at h
  | some i =>
    simp [hq] at h
    simp [zeroValue, typeInfo, hq, h.1]
/-- Two elements of a list of lines are cleared. -/
theorem clear_pair {w : World} {g p : Nat} {cells : Array Value} (hg : w.heap[g]? = some (.cells cells 31 (0, 0))) (hp : p + 2 ≤ cells.size) (ty : TypeId) (c : Nat) :
    (Builtin.clear_ #[65] ty #[.slice (some ⟨g, p, none⟩) 2 c]).run Tryz.prog w = .ok (.tuple #[]) ((w.setCell ⟨g, p, none⟩ (.slice none 0 0)).setCell ⟨g, p + 1, none⟩ (.slice none 0 0)) := by
  have hin : ∀ k, k < 2 → ∃ u, cells[p + k]? = some u := fun k hk => ⟨_, Array.getElem?_eq_getElem (by omega)⟩
  have h := Lib.run_clear_slice (P := Tryz.prog) w 65 31 ty (.slice none 0 0) Tryz.underlying65 zero_line rfl rfl g p 2 c (by decide) (fun k hk => by obtain ⟨u, hu⟩ := hin k hk; simp [World.cell?, hg, hu]) (fun k hk => by simp [World.frozen?, hg])
  exact h
/-- A list of lines of which some are cleared. -/
structure CurL (W : World) (base g : Nat) (cur : List (Value × List Nat)) : Prop where
  block : ∃ cells : Array Value, W.heap[g]? = some (.cells cells 31 (0, 0)) ∧ cur.length ≤ cells.size ∧ ∀ i (h : i < cur.length), cells[i]? = some cur[i].1
  row : ∀ i (h : i < cur.length), FNew W base cur[i].1 cur[i].2 ∧ cur[i].2.length ≤ 3000000
  apart : ∀ i (h : i < cur.length) k, cur[i].1.ownBlock = some k → k ≠ g
theorem CurL.turn {W W' : World} {base g : Nat} {cur : List (Value × List Nat)} {S : Nat → Prop} (h : CurL W base g cur) (ht : Turn W W' S) (hg : ¬ S g) (hS : ∀ i (h : i < cur.length) k, cur[i].1.ownBlock = some k → ¬ S k) : CurL W' base g cur := by
  obtain ⟨cells, h1, h2, h3⟩ := h.block
  exact ⟨⟨cells, (ht.block g (Array.getElem?_eq_some_iff.1 h1).1 hg).trans h1, h2, h3⟩, fun i hi => ⟨(h.row i hi).1.turn ht (fun k hk => hS i hi k hk), (h.row i hi).2⟩, h.apart⟩
theorem CurL.below {W W' : World} {base g : Nat} {cur : List (Value × List Nat)} (h : CurL W base g cur) (hb : Below W.heap.size W W') : CurL W' base g cur :=
  h.turn (Turn.grown (row := none) (grown_of hb)) (fun e => by cases e) (fun i hi k _ e => by cases e)
theorem CurL.cell {W : World} {base g : Nat} {cur : List (Value × List Nat)} (h : CurL W base g cur) {i : Nat} (hi : i < cur.length) : W.cell? ⟨g, i, none⟩ = some cur[i].1 := by
  obtain ⟨cells, h1, h2, h3⟩ := h.block
  simp [World.cell?, h1, h3 i hi]
theorem CurL.lt {W : World} {base g : Nat} {cur : List (Value × List Nat)} (h : CurL W base g cur) : g < W.heap.size := by
  obtain ⟨cells, h1, _⟩ := h.block
  exact (Array.getElem?_eq_some_iff.1 h1).1
def nilL : Value × List Nat := (.slice none 0 0, [])
theorem CurL.wipe {W : World} {base g : Nat} {cur : List (Value × List Nat)} (h : CurL W base g cur) (p : Nat) : CurL ((W.setCell ⟨g, p, none⟩ (.slice none 0 0)).setCell ⟨g, p + 1, none⟩ (.slice none 0 0)) base g ((cur.set p nilL).set (p + 1) nilL) := by
  have hgr : W.grownBy ((W.setCell ⟨g, p, none⟩ (.slice none 0 0)).setCell ⟨g, p + 1, none⟩ (.slice none 0 0)) (some g) := (Lib.grownBy_setCell W g p _).trans (Lib.grownBy_setCell _ g (p + 1) _)
  obtain ⟨cells, h1, h2, h3⟩ := h.block
  have hget : ∀ i (hi : i < ((cur.set p nilL).set (p + 1) nilL).length), (((cur.set p nilL).set (p + 1) nilL)[i] = nilL ∧ (i = p ∨ i = p + 1)) ∨ (¬ i = p ∧ ¬ i = p + 1 ∧ ∃ h' : i < cur.length, ((cur.set p nilL).set (p + 1) nilL)[i] = cur[i]) := by
    intro i hi
    by_cases e1 : i = p + 1
    · subst e1; exact .inl ⟨by rw [List.getElem_set_self], .inr rfl⟩
    · rw [List.getElem_set_ne (by omega)]
      by_cases e2 : i = p
      · subst e2; exact .inl ⟨by rw [List.getElem_set_self], .inl rfl⟩
      · rw [List.getElem_set_ne (by omega)]; exact .inr ⟨e2, e1, by simpa using hi, rfl⟩
  refine ⟨⟨(cells.setIfInBounds p (.slice none 0 0)).setIfInBounds (p + 1) (.slice none 0 0), heapF (heapF h1), by simpa using h2, fun i hi => ?_⟩, fun i hi => ?_, fun i hi k hk => ?_⟩
  · have hic : i < cells.size := by have : i < cur.length := by simpa using hi
                                    omega
    rcases hget i hi with ⟨e, e1 | e1⟩ | ⟨e1, e2, h', e⟩
    · rw [e]; subst e1
      rw [Array.getElem?_setIfInBounds_ne (by omega), Array.getElem?_setIfInBounds_self_of_lt hic]; rfl
    · rw [e]; subst e1
      rw [Array.getElem?_setIfInBounds_self_of_lt (by simpa using hic)]; rfl
    · rw [e, Array.getElem?_setIfInBounds_ne (fun x => e2 x.symm), Array.getElem?_setIfInBounds_ne (fun x => e1 x.symm)]
      exact h3 i h'
  · rcases hget i hi with ⟨e, _⟩ | ⟨_, _, h', e⟩
    · rw [e]; exact ⟨FNew.nil _ _, Nat.zero_le _⟩
    · rw [e]
      exact ⟨(h.row i h').1.far hgr (fun k hk e2 => h.apart i h' k hk (Option.some.inj e2).symm), (h.row i h').2⟩
  · rcases hget i hi with ⟨e, _⟩ | ⟨_, _, h', e⟩
    · rw [e] at hk; cases hk
    · rw [e] at hk; exact h.apart i h' k hk
/-- What a call owns holds cells. -/
theorem FNew.isCells {w : World} {base k : Nat} {v : Value} {xs : List Nat} (h : FNew w base v xs) (hk : v.ownBlock = some k) : ∃ o : Obj, w.heap[k]? = some o ∧ o.isCells = true := by
  rcases h with ⟨rfl, _⟩ | ⟨g, cap, rfl, _, _, cur, h1, _⟩
  · cases hk
  · cases hk; exact ⟨_, h1, rfl⟩
theorem GridN.isCells {w : World} {base k : Nat} {v : Value} {rows : List (List C3)} {ss : List SV} (h : GridN w base v rows ss) (hk : GBlk v ss k) : ∃ o : Obj, w.heap[k]? = some o ∧ o.isCells = true := by
  rcases hk with hk | ⟨i, hi, hk⟩
  · rcases h.own.2 with ⟨rfl, _⟩ | ⟨g, cap, cur, rfl, _, hgb, _⟩
    · cases hk
    · cases hk; exact ⟨_, hgb, rfl⟩
  · rcases h.row i hi (by rw [← h.len]; exact hi) with ⟨e, _⟩ | ⟨g, cap, cur, e, _, _, hgb, _⟩
    · rw [e] at hk; cases hk
    · rw [e] at hk; cases hk; exact ⟨_, hgb, rfl⟩
theorem not_cells {X : World} {k : Nat} {row : Option Nat} (hc : ∃ o : Obj, X.heap[k]? = some o ∧ o.isCells = true) (hr : ∀ r, row = some r → ∃ o : Obj, X.heap[r]? = some o ∧ o.isCells = false) : ¬ row = some k := fun e => by
  obtain ⟨o, h1, h2⟩ := hc
  obtain ⟨o', h3, h4⟩ := hr k e
  rw [h1] at h3
  cases h3
  rw [h2] at h4
  cases h4
theorem CurL.own {X Y : World} {base g : Nat} {cur : List (Value × List Nat)} {row : Option Nat} (h : CurL X base g cur) (hg : X.grownBy Y row) (hr : ∀ r, row = some r → ∃ o : Obj, X.heap[r]? = some o ∧ o.isCells = false) : CurL Y base g cur := by
  have hb := h.block
  obtain ⟨cells, h1, _⟩ := hb
  exact h.turn (Turn.grown hg) (not_cells ⟨_, h1, rfl⟩ hr) (fun i hi k hk => not_cells ((h.row i hi).1.isCells hk) hr)
theorem GridN.ownC {X Y : World} {base : Nat} {v : Value} {rows : List (List C3)} {ss : List SV} {row : Option Nat} (h : GridN X base v rows ss) (hg : X.grownBy Y row) (hr : ∀ r, row = some r → ∃ o : Obj, X.heap[r]? = some o ∧ o.isCells = false) : GridN Y base v rows ss :=
  h.turn (Turn.grown hg) (fun k hk => not_cells (h.isCells hk) hr)
end Go.Proofs.YtobpnoiienpipaaGreat
