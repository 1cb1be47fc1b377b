/-
  What is proved: the walk of FieldOf at 0 and 1.
  Conditions: the picture can be read.
-/
import Derived.Test.YtobpnoiienpipaaGreatField
import Derived.Test.YtobpnoiienpipaaGreatPz05
import Derived.Deep.RegionHeld3
import Derived.Deep.RegionWith
import Derived.Test.YtobpnoiienpipaaGreatPz29
import Derived.Test.YtobpnoiienpipaaGreatPz28
import Derived.Test.YtobpnoiienpipaaGreatPz13
namespace Go.Proofs.YtobpnoiienpipaaGreat
set_option linter.unusedVariables false
open Go.RowKit Go.Shelf
attribute [local go_sem] run_store_float run_store_complex unary_negf neg256

theorem exists_list {α : Type} : ∀ (n : Nat) (P : Nat → α → Prop), (∀ i, i < n → ∃ x, P i x) → ∃ L : List α, L.length = n ∧ ∀ i (h : i < L.length), P i L[i]
  | 0, _, _ => ⟨[], rfl, fun i h => by simp at h⟩
  | n + 1, P, h => by
    obtain ⟨L, h1, h2⟩ := exists_list n P (fun i hi => h i (by omega))
    obtain ⟨x, hx⟩ := h n (by omega)
    refine ⟨L ++ [x], by simp [h1], fun i hi => ?_⟩
    by_cases hlt : i < L.length
    · rw [List.getElem_append_left hlt]; exact h2 i hlt
    · have hi2 : i = L.length := by simp at hi; omega
      subst hi2
      rw [List.getElem_append_right (Nat.le_refl _)]
      simpa [h1] using hx
theorem evens_map {α β : Type} (f : α → β) : ∀ l : List α, (evens l).map f = evens (l.map f)
  | [] => rfl
  | [_] => rfl
  | a :: b :: l => by simp [evens, evens_map f l]
theorem evens_len {α : Type} : ∀ l : List α, (evens l).length = (l.length + 1) / 2
  | [] => by simp [evens]
  | [_] => by simp [evens]
  | a :: b :: l => by simp only [evens, List.length_cons, evens_len l]; omega
/-- The field k of a picture. -/
def fld (rs : List (List C3)) (k : Nat) : List (List C3) := evens (rs.drop k)
/-- A picture's rows, as what an iterator hands out. -/
theorem rows_in {w w0 : World} {g o : Nat} {rs : List (List C3)} (hb : Below w.heap.size w w0) (hne : ∀ r ∈ rs, r ≠ [] ∧ r.length ≤ 1000000)
    (hcell : ∀ i (h : i < rs.length), ∃ a c, w.cell? ⟨g, o + i, none⟩ = some (.slice a rs[i].length c) ∧ RowV w (.slice a rs[i].length c) rs[i]) :
    ∃ L : List (RowIn w0), L.length = rs.length ∧ (L.map fun x => x.1.2) = rs ∧ ∀ i (h : i < L.length), w0.cell? ⟨g, o + i, none⟩ = some L[i].1.1 := by
  obtain ⟨L, h1, h2⟩ := exists_list rs.length (fun i (x : RowIn w0) => rs[i]? = some x.1.2 ∧ w0.cell? ⟨g, o + i, none⟩ = some x.1.1) (fun i hi => by
    obtain ⟨a, c, k1, k2⟩ := hcell i hi
    obtain ⟨e1, e2⟩ := hne _ (List.getElem_mem hi)
    exact ⟨⟨(.slice a rs[i].length c, rs[i]), k2.below hb, e1, e2⟩, List.getElem?_eq_getElem hi, (grown_of hb).cell k1 (by simp)⟩)
  refine ⟨L, h1, ?_, fun i h => (h2 i h).2⟩
  apply List.ext_getElem?
  intro i
  by_cases hi : i < L.length
  · rw [List.getElem?_map, List.getElem?_eq_getElem hi, (h2 i hi).1]; rfl
  · rw [List.getElem?_eq_none (by simp; omega), List.getElem?_eq_none (by omega)]
theorem pok_rows_ne {rs : List (List C3)} (h : pok rs = true) : ∀ r ∈ rs, r ≠ [] ∧ r.length ≤ 1000000 := by
  intro r hr
  unfold pok at h
  rw [Bool.and_eq_true] at h
  have h1 := List.all_eq_true.1 h.2 r hr
  unfold rowFit at h1
  rw [Bool.and_eq_true] at h1
  have h2 := (rok_iff.1 h1.1).1
  exact ⟨rok_ne h1.1, by omega⟩
theorem pok_size_of {rs : List (List C3)} (h : pok rs = true) : rs.length % 4 = 0 ∧ 4 ≤ rs.length ∧ rs.length ≤ 64 := by
  unfold pok at h
  rw [Bool.and_eq_true] at h
  exact sizeOk_iff.1 h.1
def PicPost (rs : List (List C3)) (w : World) (e : Ending) (w' : World) : Prop := ∃ v, e = .returned v ∧ PicV w' v rs ∧ Below w.heap.size w w'
theorem PicPost.mk {rs : List (List C3)} {w w' : World} {v : Value} (h : PicV w' v rs) (hb : Below w.heap.size w w') : PicPost rs w (.returned v) w' := ⟨v, rfl, h, hb⟩
set_option maxHeartbeats 1000000 in
theorem fieldOf_any (v : Value) (rs : List (List C3)) (k : Nat) (w : World) (h : PicV w v rs) (ht : Thin rs) (hl : rs.length ≤ 1000000) (hk : k ≤ 1) :
    Calls Tryz.prog 28 #[v, .int .i64 (k : Int)] w fun e w' => PicPost (if pok rs = true then fld rs k else []) w e w' := by
  have HP := Lib.hid (pictureOk_any v rs w h ht hl)
  have HV := Lib.hid h
  cases hp : pok rs with
  | false =>
    rw [hp] at HP
    simp only [Bool.false_eq_true, if_false]
    obtain ⟨a, c, rfl⟩ := h.lenv
    clear h hp
    go_enter Tryz.func28, Tryz.ntmps28
    go_wp2_with fail
    refine HP.out.mono ?_
    rintro e w1 ⟨rfl, hb⟩
    go_wp2
    go_ret
    exact PicPost.mk (PicV.nil _) hb
  | true =>
    rw [hp] at HP
    simp only [if_true]
    obtain ⟨h4, h5, h6⟩ := pok_size_of hp
    have hne : rs ≠ [] := by rintro rfl; simp at h5
    have HRN := Lib.hid (pok_rows_ne hp)
    obtain ⟨g, o, cap, rfl, _, hcell⟩ := h.len hne
    have HC := Lib.hid hcell
    clear h hcell hne hp h4
    go_enter Tryz.func28, Tryz.ntmps28
    go_wp2_with fail
    refine HP.out.mono ?_
    rintro e w1 ⟨rfl, hb⟩
    go_wp2_with fail
    refine (everySecond_any _ _ _ k w1 hk).mono ?_
    rintro e w2 ⟨rfl, rfl⟩
    have hb2 : Below w.heap.size w ((w1.alloc (.cells #[.slice (some ⟨g, o, none⟩) rs.length cap] 24)).alloc (.cells #[.int .i64 (k : Int)] 3)) := (hb.alloc hb.size _).alloc (by have := hb.size; simp; omega) _
    have k1 := box1 w1 24 (.slice (some ⟨g, o, none⟩) rs.length cap) (.cells #[.int .i64 (k : Int)] 3)
    have k2 := box2 w1 (.cells #[.slice (some ⟨g, o, none⟩) rs.length cap] 24) 3 (.int .i64 (k : Int))
    obtain ⟨w2, hw2⟩ : ∃ w2, (w1.alloc (.cells #[.slice (some ⟨g, o, none⟩) rs.length cap] 24)).alloc (.cells #[.int .i64 (k : Int)] 3) = w2 := ⟨_, rfl⟩
    rw [hw2] at hb2 k1 k2
    obtain ⟨L, e1, e2, e3⟩ := rows_in (w0 := w2) hb2 HRN.out HC.out
    rw [← e1] at k1
    have HH := Lib.hid (copies_any w2 _ _ (evens (L.drop k)) (by rw [evens_len, List.length_drop]; omega) (enters_of Tryz.func91 (by kernel_rfl) rfl)
      (second_hands 2 (by omega) w2 (w1.heap.size + 1) w1.heap.size k g o cap L (by omega) hk e3 k2 k1))
    rw [evens_map, List.map_drop, e2] at HH
    clear k1 k2 e1 e2 e3
    go_wp2_with fail
    try rw [hw2]
    refine (callsIn_wide.1 HH.out).mono ?_
    rintro e w3 ⟨v3, rfl, hv3, hb3⟩
    have HV3 := Lib.hid hv3
    clear hv3 hw2
    go_wp2
    go_ret
    exact PicPost.mk HV3.out (below_trans hb2 hb3 hb2.size)
end Go.Proofs.YtobpnoiienpipaaGreat

/-
  What is proved: what the functions that draw pictures of chapter 2 answer.
  Conditions: the cursor's block holds a cursor; the bytes that they draw from can be read.
-/
namespace Go.Proofs.YtobpnoiienpipaaGreat
set_option linter.unusedVariables false
open Go.RowKit
attribute [local go_sem] run_store_float run_store_complex unary_negf neg256

theorem Cur.cells {w : World} {b : Nat} (h : Cur w b) : ∃ cur t fz, w.heap[b]? = some (.cells cur t fz) ∧ t ≠ 61 := by
  obtain ⟨_, _, _, _, _, _, _, _, _, hb⟩ := h
  exact ⟨_, _, _, hb, by decide⟩
/-- The rows of a picture that is being drawn. -/
def Rows (base : Nat) (w : World) (W : Nat) (vals : List Value) (rs : List (List C3)) : Prop := ∀ i (h : i < rs.length), ∃ rv, vals[i]? = some rv ∧ RowK w rv rs[i] ∧ (rs[i].length = W ∧ ∀ g o n c, rv = .slice (some ⟨g, o, none⟩) n c → base ≤ g)
structure PRnd (w wr : World) (b W g cap : Nat) (rs : List (List C3)) : Prop where
  own : ∃ vals, wr.ownsRow w.heap.size 40 1 (.slice (some ⟨g, 0, none⟩) rs.length cap) rs.length vals ∧ Rows w.heap.size wr W vals rs
  cur : Cur wr b
  grown : w.grownBy wr (some b)
/-- A row that is being drawn. -/
structure IRnd (ws wi : World) (b : Nat) (v : Value) (cs : List C3) : Prop where
  own : OwnC wi ws.heap.size v cs
  cur : Cur wi b
  grown : ws.grownBy wi (some b)
theorem Rows.far {base : Nat} {w w' : World} {W : Nat} {vals : List Value} {rs : List (List C3)} {row : Option Nat} (h : Rows base w W vals rs) (hg : w.grownBy w' row) (hr : ∀ r, row = some r → ∃ cur t fz, w.heap[r]? = some (.cells cur t fz) ∧ t ≠ 61) : Rows base w' W vals rs := by
  intro i hi
  obtain ⟨rv, h1, h2, h3⟩ := h i hi
  exact ⟨rv, h1, h2.far hg hr, h3⟩
theorem PRnd.start (w : World) (b W : Nat) (hc : Cur w b) : PRnd w (w.alloc (.cells #[] 40)) b W w.heap.size 0 [] :=
  ⟨⟨[], World.ownsRow_made w #[] 0 (Nat.le_refl _) (by unfold maxLen; omega) rfl, fun i h => by simp at h⟩, hc.alloc _, World.grownBy_alloc _ _ _⟩
theorem PRnd.next {w wr w' : World} {b W g cap : Nat} {rs : List (List C3)} (h : PRnd w wr b W g cap rs) (hb : b < w.heap.size) (hc : Cur w' b) (hg : wr.grownBy w' (some b)) : PRnd w w' b W g cap rs := by
  obtain ⟨vals, h1, h2⟩ := h.own
  refine ⟨⟨vals, h1.kept hg (.inr ?_), h2.far hg (fun r e => by have e' : b = r := Option.some.inj e; subst e'; exact h.cur.cells)⟩, hc, h.grown.trans hg⟩
  intro e
  have e' : g = b := Option.some.inj e
  have := (h1.lt g rfl).1
  omega
theorem IRnd.next {ws wi w' : World} {b : Nat} {v : Value} {cs : List C3} (h : IRnd ws wi b v cs) (hb : b < ws.heap.size) (hc : Cur w' b) (hg : wi.grownBy w' (some b)) : IRnd ws w' b v cs := by
  refine ⟨h.own.kept hg ?_, hc, h.grown.trans hg⟩
  cases hv : v.ownBlock with
  | none => exact .inl rfl
  | some k => exact .inr (fun e => by cases e; have := (h.own.lt b hv).1; omega)
theorem IRnd.app {ws wi w' : World} {b g cap : Nat} {v : Value} {cs : List C3} {c : C3} (h : IRnd ws wi b v cs) (hb : b < ws.heap.size) (o : Obj)
    (hown : OwnC w' ws.heap.size (.slice (some ⟨g, 0, none⟩) (cs.length + [c].length) cap) (cs ++ [c])) (hg : (wi.alloc o).grownBy w' v.ownBlock) :
    IRnd ws w' b (.slice (some ⟨g, 0, none⟩) (cs.length + [c].length) cap) (cs ++ [c]) := by
  refine ⟨hown, ?_, ?_⟩
  · exact (h.cur.alloc o).grown hg (fun r hr => Nat.lt_of_lt_of_le hb (h.own.lt r hr).1)
  · exact grown_own (grown_alloc h.grown o) hg (fun r hr => (h.own.lt r hr).1)
/-- The drawn row joins the picture. -/
theorem PRnd.app {w wr wi w' : World} {b W g cap g2 cap2 : Nat} {rs : List (List C3)} {v : Value} {cs : List C3} {vals : List Value} (hb : b < w.heap.size) (hi : IRnd wr wi b v cs) (hcs : cs.length = W) (o : Obj) (hwr : w.heap.size ≤ wr.heap.size) (hgr : w.grownBy wi (some b))
    (hO : wi.ownsRow w.heap.size 40 1 (.slice (some ⟨g, 0, none⟩) rs.length cap) rs.length vals) (hR : Rows w.heap.size wi W vals rs)
    (hown : w'.ownsRow w.heap.size 40 1 (.slice (some ⟨g2, 0, none⟩) (rs.length + 1) cap2) (rs.length + 1) (vals ++ [v])) (hg : (wi.alloc o).grownBy w' (some g)) :
    PRnd w w' b W g2 cap2 (rs ++ [cs]) := by
  have hvl : vals.length = rs.length := by have := hO.1; omega
  have hgl := (hO.lt g rfl).1
  have hrow : ∀ {rv : Value} {ds : List C3}, RowK wi rv ds → RowK w' rv ds := by
    intro rv ds hk
    have h1 := hk.far (World.grownBy_alloc wi o none) (fun r e => by cases e)
    refine h1.far hg (fun r e => ?_)
    have e' : g = r := Option.some.inj e
    subst e'
    rcases (hO.alloc o).2 with ⟨h0, _⟩ | ⟨g', cp, cur, h0, _, hgg, _⟩
    · cases h0
    · simp only [Value.slice.injEq, Option.some.injEq, Addr.mk.injEq] at h0
      obtain ⟨⟨rfl, _⟩, _⟩ := h0
      exact ⟨cur, _, _, hgg, by decide⟩
  refine ⟨⟨vals ++ [v], by rw [List.length_append]; exact hown, fun i hi2 => ?_⟩, ?_, ?_⟩
  · by_cases hlt : i < rs.length
    · obtain ⟨rv, e1, e2, e3⟩ := hR i hlt
      refine ⟨rv, by rw [List.getElem?_append_left (by omega)]; exact e1, ?_⟩
      rw [List.getElem_append_left hlt]
      exact ⟨hrow e2, e3⟩
    · have hi3 : i = rs.length := by simp at hi2; omega
      subst hi3
      refine ⟨v, by rw [List.getElem?_append_right (by omega), hvl]; simp, ?_⟩
      rw [List.getElem_append_right (Nat.le_refl _)]
      refine ⟨by simpa using hrow hi.own.rowK, by simpa using hcs, fun g' o' n c e => ?_⟩
      have := (hi.own.lt g' (by rw [e]; rfl)).1
      omega
  · exact (hi.cur.alloc o).grown hg (fun r hr => by cases hr; omega)
  · exact grown_own (grown_alloc hgr o) hg (fun r hr => by cases hr; exact hgl)

theorem RowV.at {w : World} {v : Value} {cs : List C3} (h : RowV w v cs) (i : Nat) (hi : i < cs.length) : ∃ g o c u z, v = .slice (some ⟨g, o, none⟩) cs.length c ∧ w.cell? ⟨g, o + i * 2 + 1, none⟩ = some (.complex .f32 u z) := by
  rcases h with ⟨_, h⟩ | ⟨g, o, c, h1, _, h3⟩
  · subst h; simp at hi
  · exact ⟨g, o, c, _, _, h1, (h3 i hi).2⟩
def PairedPost (b : Nat) (w : World) (e : Ending) (w' : World) : Prop := ∃ W g cap rs, (1 ≤ W ∧ W ≤ 4) ∧ (4 ≤ rs.length ∧ rs.length ≤ 8) ∧ e = .returned (.slice (some ⟨g, 0, none⟩) rs.length cap) ∧ PRnd w w' b W g cap rs
theorem PairedPost.mk {b W g cap : Nat} {w w' : World} {rs : List (List C3)} (h1 : 1 ≤ W ∧ W ≤ 4) (h2 : 4 ≤ rs.length ∧ rs.length ≤ 8) (h : PRnd w w' b W g cap rs) : PairedPost b w (.returned (.slice (some ⟨g, 0, none⟩) rs.length cap)) w' := ⟨W, g, cap, rs, h1, h2, rfl, h⟩
end Go.Proofs.YtobpnoiienpipaaGreat

/-
  What is proved: what the function that draws pictures answers: a picture that can be read.
  Conditions: the cursor's block holds a cursor; the bytes that they draw from can be read.
-/
namespace Go.Proofs.YtobpnoiienpipaaGreat
set_option linter.unusedVariables false
open Go.RowKit
attribute [local go_sem] run_store_float run_store_complex unary_negf neg256

/-- What a store leaves of a cell. -/
theorem cell_put {w : World} {p q : Addr} {u x y : Value} (hp : p.spot = none) (hq : q.spot = none) (h : w.cell? p = some y) (hx : w.cell? q = some x) : (w.setCell p u).cell? q = some (if q = p then u else x) := by
  by_cases e : q = p
  · subst e
    rw [if_pos rfl]
    exact World.cell?_setCell_same' _ _ _ (by rw [h]; rfl)
  · rw [if_neg e]
    obtain ⟨pb, po, ps⟩ := p
    obtain ⟨qb, qo, qs⟩ := q
    simp only at hp hq
    subst hp hq
    by_cases hb : qb = pb
    · subst hb
      have ho : qo ≠ po := fun e2 => e (by rw [e2])
      cases hk : w.heap[qb]? with
      | none => simp [World.cell?, hk] at hx
      | some ob =>
        cases ob with
        | cells cs t fz =>
          have hx' : cs[qo]? = some x := by simpa [World.cell?, hk] using hx
          simp [World.cell?, World.setCell, Array.getElem?_modify, hk, Array.getElem?_setIfInBounds, Ne.symm ho, hx']
        | _ => simp [World.cell?, hk] at hx
    · rw [World.cell?_of_block (w := w) (Below.heap_setCell w _ _ qb hb)]
      exact hx
theorem RowK.putC {w : World} {v : Value} {cs : List C3} {g o u z u0 z0 : Nat} (h : RowK w v cs) (h0 : w.cell? ⟨g, o, none⟩ = some (.complex .f32 u0 z0)) : ∃ ds : List C3, ds.length = cs.length ∧ RowK (w.setCell ⟨g, o, none⟩ (.complex .f32 u z)) v ds := by
  obtain ⟨h1, h2⟩ := h
  have hty : ∀ g' o' n c, v = .slice (some ⟨g', o', none⟩) n c → ∃ cur, (w.setCell ⟨g, o, none⟩ (.complex .f32 u z)).heap[g']? = some (.cells cur 61 (0, 0)) := by
    intro g' o' n c e
    obtain ⟨cur, hk⟩ := h2 g' o' n c e
    by_cases hgg : g' = g
    · subst hgg; exact ⟨_, heap_put hk⟩
    · exact ⟨cur, (Below.heap_setCell w _ _ g' hgg).trans hk⟩
  rcases h1 with ⟨rfl, rfl⟩ | ⟨g', o', cap, rfl, k1, k2⟩
  · exact ⟨[], rfl, .inl ⟨rfl, rfl⟩, hty⟩
  · obtain ⟨ds, e1, e2⟩ := exists_list cs.length (fun i (d : C3) => (w.setCell ⟨g, o, none⟩ (.complex .f32 u z)).cell? ⟨g', o' + i * 2, none⟩ = some (.float .f32 d.1) ∧ (w.setCell ⟨g, o, none⟩ (.complex .f32 u z)).cell? ⟨g', o' + i * 2 + 1, none⟩ = some (.complex .f32 d.2.1 d.2.2)) (fun i hi => by
      obtain ⟨c0, c1⟩ := k2 i hi
      have d0 := cell_put (u := .complex .f32 u z) rfl rfl h0 c0
      have d1 := cell_put (u := .complex .f32 u z) rfl rfl h0 c1
      have hne : (⟨g', o' + i * 2, none⟩ : Addr) ≠ ⟨g, o, none⟩ := by intro e; rw [e, h0] at c0; cases c0
      rw [if_neg hne] at d0
      by_cases e : (⟨g', o' + i * 2 + 1, none⟩ : Addr) = ⟨g, o, none⟩
      · rw [if_pos e] at d1; exact ⟨(cs[i].1, u, z), d0, d1⟩
      · rw [if_neg e] at d1; exact ⟨cs[i], d0, d1⟩)
    exact ⟨ds, e1, .inr ⟨g', o', cap, by rw [e1], by rw [e1]; exact k1, e2⟩, hty⟩

def PicDraw (b : Nat) (w : World) (e : Ending) (w' : World) : Prop := ∃ v rs, (Thin rs ∧ rs.length ≤ 1000) ∧ e = .returned v ∧ PicV w' v rs ∧ Cur w' b ∧ w.grownBy w' (some b)
theorem PicDraw.mk {b : Nat} {w w' : World} {v : Value} {rs : List (List C3)} (ht : Thin rs) (hl : rs.length ≤ 1000) (hp : PicV w' v rs) (hc : Cur w' b) (hg : w.grownBy w' (some b)) : PicDraw b w (.returned v) w' := ⟨v, rs, ⟨ht, hl⟩, rfl, hp, hc, hg⟩
theorem Rows.thin {base : Nat} {w : World} {W : Nat} {vals : List Value} {rs : List (List C3)} (h : Rows base w W vals rs) (hW : W ≤ 4) : Thin rs := by
  intro r hr
  obtain ⟨i, hi, rfl⟩ := List.mem_iff_getElem.1 hr
  obtain ⟨_, _, _, e, _⟩ := h i hi
  omega
theorem Rows.one {base : Nat} {w : World} {W : Nat} {vals : List Value} {rs : List (List C3)} (h : Rows base w W vals rs) (hl : vals.length = rs.length) : ∀ u ∈ vals, u.oneCell' = true := by
  intro u hu
  obtain ⟨i, hi, rfl⟩ := List.mem_iff_getElem.1 hu
  obtain ⟨rv, e1, e2, _⟩ := h i (by omega)
  rw [List.getElem?_eq_getElem hi] at e1
  cases e1
  obtain ⟨a, c, e⟩ := e2.1.lenv
  rw [e]; rfl
def DrawPicture (w : World) (e : Ending) (w' : World) : Prop := ∃ v rs, (Thin rs ∧ rs.length ≤ 1000) ∧ e = .returned v ∧ PicV w' v rs ∧ Below w.heap.size w w'
theorem DrawPicture.mk {w w' : World} {v : Value} {rs : List (List C3)} (ht : Thin rs ∧ rs.length ≤ 1000) (hp : PicV w' v rs) (hb : Below w.heap.size w w') : DrawPicture w (.returned v) w' := ⟨v, rs, ht, rfl, hp, hb⟩
end Go.Proofs.YtobpnoiienpipaaGreat

/-
  What is proved: when two lists of rows are alike, and what is told of them.
  Conditions: both can be read.
-/
namespace Go.Proofs.YtobpnoiienpipaaGreat
set_option linter.unusedVariables false
open Go.RowKit
attribute [local go_sem] run_store_float run_store_complex unary_negf neg256

/-- Lists of rows that are alike, row by row. -/
def AlikeR (a b : List (List C3)) : Prop := a.length = b.length ∧ ∀ i (h : i < a.length) (h' : i < b.length), Alike a[i] b[i]
set_option maxHeartbeats 2000000 in
theorem equalFunc_rows (v v' : Value) (a b : List (List C3)) (ss ss' : List SV) (w : World) (h : RowsV w v a ss) (h' : RowsV w v' b ss') (hl : a.length ≤ 1000000) (hr : ∀ r ∈ a, r.length ≤ 1000000) (hab : AlikeR a b) :
    Calls Tryz.prog 35 #[v, v', .func (.func 36) #[] #[]] w fun e w' => e = .returned (.bool true) ∧ Below w.heap.size w w' := by
  obtain ⟨ad, cap, rfl, hcell⟩ := h.any
  obtain ⟨ad', cap', rfl, hcell'⟩ := h'.any
  have l1 := h.len
  have l2 := h'.len
  have l3 := hab.1
  have hss : ss'.length = ss.length := by omega
  have HC := Lib.hid hcell
  have HC' := Lib.hid hcell'
  have HE := Lib.hid (fun k (hk : k < ss.length) (hk' : k < ss'.length) W (hW : Below w.heap.size w W) => equalCells_any ss[k].v ss'[k].v (a[k]'(by omega)) (b[k]'(by omega)) W ((h.each k hk (by omega)).below hW) ((h'.each k hk' (by omega)).below hW) (hr _ (List.getElem_mem _)) (hab.2 k (by omega) (by omega)))
  have hls : ss.length ≤ 1000000 := by omega
  clear h h' hab hcell hcell' hr l1 l2 l3
  rw [hss]
  have HSS := Lib.hid hss
  clear hss
  go_enter Tryz.func35, Tryz.ntmps35
  go_wp2
  go_loopw [17] (fun i wr => ∃ k : Nat, k ≤ ss.length ∧ i = .int .i64 (k : Int) ∧ Below w.heap.size w wr) (fun i _ => ss.length - (intOf i).toNat)
  case atStart => exact ⟨0, Nat.zero_le _, rfl, Below.refl _ _⟩
  case round =>
    obtain ⟨k, hk, rfl, hb⟩ := hrel
    by_cases hlt : k < ss.length
    · obtain ⟨g1, o1, rfl, hcap1, hc1⟩ := HC.out k hlt
      obtain ⟨g2, o2, rfl, hcap2, hc2⟩ := HC'.out k (by rw [HSS.out]; exact hlt)
      have hp1 := (grown_of hb).cell hc1 (by simp)
      have hq1 := (grown_of hb).cell hc2 (by simp)
      have HEK := Lib.hid (HE.out k hlt (by rw [HSS.out]; exact hlt))
      rw [HSS.out] at hcap2
      clear hc1 hc2
      generalize ss[k].v = x at *
      generalize (ss'[k]'(by rw [HSS.out]; exact hlt)).v = x' at *
      go_wp2_with fail
      refine (HEK.out _ hb).mono ?_
      rintro e w1 ⟨rfl, hb1⟩
      go_wp2
      go_roundw
      case rel => exact ⟨k + 1, by omega, by go_num, below_trans hb hb1 hb.size⟩
      case measure => simp [intOf]; omega
    · go_wp2
      go_ret
      exact ⟨rfl, hb⟩
theorem sameRows_any (v v' : Value) (a b : List (List C3)) (ss ss' : List SV) (w : World) (h : RowsV w v a ss) (h' : RowsV w v' b ss') (hl : a.length ≤ 1000000) (hr : ∀ r ∈ a, r.length ≤ 1000000) (hab : AlikeR a b) :
    Calls Tryz.prog 11 #[v, v'] w fun e w' => e = .returned (.bool true) ∧ Below w.heap.size w w' := by
  have HE := Lib.hid (equalFunc_rows v v' a b ss ss' w h h' hl hr hab)
  obtain ⟨ad, cap, rfl, _⟩ := h.any
  obtain ⟨ad', cap', rfl, _⟩ := h'.any
  clear h h' hab
  go_enter Tryz.func11, Tryz.ntmps11
  go_wp2_with fail
  refine HE.out.mono ?_
  rintro e w1 ⟨rfl, hb⟩
  go_wp2
  go_ret
  exact ⟨rfl, hb⟩
end Go.Proofs.YtobpnoiienpipaaGreat
