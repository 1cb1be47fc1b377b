/-
  What is proved: the walk of FieldOf at 0 and 1.
  Conditions: the picture can be read.
-/
import Derived.Test.YtfoggbcfkniimaaField
namespace Go.Proofs.Ytfoggbcfkniimaa
set_option linter.unusedVariables false
open Go.RowKit Go.Shelf
attribute [local go_sem] run_store_float run_store_complex unary_negf neg256

theorem exists_list {α : Type} : ∀ (n : Nat) (P : Nat → α → Prop), (∀ i, i < n → ∃ x, P i x) → ∃ L : List α, L.length = n ∧ ∀ i (h : i < L.length), P i L[i]
  | 0, _, _ => ⟨[], rfl, fun i h => by simp at h⟩
  | n + 1, P, h => by
    obtain ⟨L, h1, h2⟩ := exists_list n P (fun i hi => h i (by omega))
    obtain ⟨x, hx⟩ := h n (by omega)
    refine ⟨L ++ [x], by simp [h1], fun i hi => ?_⟩
    by_cases hlt : i < L.length
    · rw [List.getElem_append_left hlt]; exact h2 i hlt
    · have hi2 : i = L.length := by simp at hi; omega
      subst hi2
      rw [List.getElem_append_right (Nat.le_refl _)]
      simpa [h1] using hx
theorem evens_map {α β : Type} (f : α → β) : ∀ l : List α, (evens l).map f = evens (l.map f)
  | [] => rfl
  | [_] => rfl
  | a :: b :: l => by simp [evens, evens_map f l]
theorem evens_len {α : Type} : ∀ l : List α, (evens l).length = (l.length + 1) / 2
  | [] => by simp [evens]
  | [_] => by simp [evens]
  | a :: b :: l => by simp only [evens, List.length_cons, evens_len l]; omega
theorem evens_get {α : Type} : ∀ (l : List α) (j : Nat), (evens l)[j]? = l[2 * j]?
  | [], j => by simp [evens]
  | [a], 0 => rfl
  | [a], j + 1 => by simp [evens]
  | a :: b :: l, 0 => rfl
  | a :: b :: l, j + 1 => by
    show (evens l)[j]? = _
    rw [evens_get l j, show 2 * (j + 1) = 2 * j + 1 + 1 by omega]
    rfl
/-- The field k of a picture. -/
def fld (rs : List (List C3)) (k : Nat) : List (List C3) := evens (rs.drop k)
/-- A picture's rows, as what an iterator hands out. -/
theorem rows_in {w w0 : World} {g o : Nat} {rs : List (List C3)} (hb : Below w.heap.size w w0) (hne : ∀ r ∈ rs, r ≠ [] ∧ r.length ≤ 1000000)
    (hcell : ∀ i (h : i < rs.length), ∃ a c, w.cell? ⟨g, o + i, none⟩ = some (.slice a rs[i].length c) ∧ RowV w (.slice a rs[i].length c) rs[i]) :
    ∃ L : List (RowIn w0), L.length = rs.length ∧ (L.map fun x => x.1.2) = rs ∧ ∀ i (h : i < L.length), w0.cell? ⟨g, o + i, none⟩ = some L[i].1.1 := by
  obtain ⟨L, h1, h2⟩ := exists_list rs.length (fun i (x : RowIn w0) => rs[i]? = some x.1.2 ∧ w0.cell? ⟨g, o + i, none⟩ = some x.1.1) (fun i hi => by
    obtain ⟨a, c, k1, k2⟩ := hcell i hi
    obtain ⟨e1, e2⟩ := hne _ (List.getElem_mem hi)
    exact ⟨⟨(.slice a rs[i].length c, rs[i]), k2.below hb, e1, e2⟩, List.getElem?_eq_getElem hi, (grown_of hb).cell k1 (by simp)⟩)
  refine ⟨L, h1, ?_, fun i h => (h2 i h).2⟩
  apply List.ext_getElem?
  intro i
  by_cases hi : i < L.length
  · rw [List.getElem?_map, List.getElem?_eq_getElem hi, (h2 i hi).1]; rfl
  · rw [List.getElem?_eq_none (by simp; omega), List.getElem?_eq_none (by omega)]
theorem pok_rows_ne {rs : List (List C3)} (h : pok rs = true) : ∀ r ∈ rs, r ≠ [] ∧ r.length ≤ 1000000 := by
  intro r hr
  unfold pok at h
  rw [Bool.and_eq_true] at h
  have h1 := List.all_eq_true.1 h.2 r hr
  unfold rowFit at h1
  rw [Bool.and_eq_true] at h1
  have h2 := (rok_iff.1 h1.1).1
  exact ⟨rok_ne h1.1, by omega⟩
theorem pok_size_of {rs : List (List C3)} (h : pok rs = true) : rs.length % 4 = 0 ∧ 4 ≤ rs.length ∧ rs.length ≤ 64 := by
  unfold pok at h
  rw [Bool.and_eq_true] at h
  exact sizeOk_iff.1 h.1
def PicPost (rs : List (List C3)) (w : World) (e : Ending) (w' : World) : Prop := ∃ v, e = .returned v ∧ PicV w' v rs ∧ Below w.heap.size w w'
theorem PicPost.mk {rs : List (List C3)} {w w' : World} {v : Value} (h : PicV w' v rs) (hb : Below w.heap.size w w') : PicPost rs w (.returned v) w' := ⟨v, rfl, h, hb⟩
set_option maxHeartbeats 1000000 in
theorem fieldOf_any (v : Value) (rs : List (List C3)) (k : Nat) (w : World) (h : PicV w v rs) (ht : Thin rs) (hl : rs.length ≤ 1000000) (hk : k ≤ 1) :
    Calls Try.prog 18 #[v, .int .i64 (k : Int)] w fun e w' => PicPost (if pok rs = true then fld rs k else []) w e w' := by
  have HP := Lib.hid (pictureOk_any v rs w h ht hl)
  have HV := Lib.hid h
  cases hp : pok rs with
  | false =>
    rw [hp] at HP
    simp only [Bool.false_eq_true, if_false]
    obtain ⟨a, c, rfl⟩ := h.lenv
    clear h hp
    go_enter Try.func18, Try.ntmps18
    go_wp2_with fail
    refine HP.out.mono ?_
    rintro e w1 ⟨rfl, hb⟩
    go_wp2
    go_ret
    exact PicPost.mk (PicV.nil _) hb
  | true =>
    rw [hp] at HP
    simp only [if_true]
    obtain ⟨h4, h5, h6⟩ := pok_size_of hp
    have hne : rs ≠ [] := by rintro rfl; simp at h5
    have HRN := Lib.hid (pok_rows_ne hp)
    obtain ⟨g, o, cap, rfl, _, hcell⟩ := h.len hne
    have HC := Lib.hid hcell
    clear h hcell hne hp h4
    go_enter Try.func18, Try.ntmps18
    go_wp2_with fail
    refine HP.out.mono ?_
    rintro e w1 ⟨rfl, hb⟩
    go_wp2_with fail
    refine (everySecond_any _ _ _ k w1 hk).mono ?_
    rintro e w2 ⟨rfl, rfl⟩
    have hb2 : Below w.heap.size w ((w1.alloc (.cells #[.slice (some ⟨g, o, none⟩) rs.length cap] 38)).alloc (.cells #[.int .i64 (k : Int)] 3)) := (hb.alloc hb.size _).alloc (by have := hb.size; simp; omega) _
    have k1 := box1 w1 38 (.slice (some ⟨g, o, none⟩) rs.length cap) (.cells #[.int .i64 (k : Int)] 3)
    have k2 := box2 w1 (.cells #[.slice (some ⟨g, o, none⟩) rs.length cap] 38) 3 (.int .i64 (k : Int))
    obtain ⟨w2, hw2⟩ : ∃ w2, (w1.alloc (.cells #[.slice (some ⟨g, o, none⟩) rs.length cap] 38)).alloc (.cells #[.int .i64 (k : Int)] 3) = w2 := ⟨_, rfl⟩
    rw [hw2] at hb2 k1 k2
    obtain ⟨L, e1, e2, e3⟩ := rows_in (w0 := w2) hb2 HRN.out HC.out
    rw [← e1] at k1
    have HH := Lib.hid (copies_any w2 _ _ (evens (L.drop k)) (by rw [evens_len, List.length_drop]; omega) (enters_of Try.func55 (by kernel_rfl) rfl)
      (second_hands 2 (by omega) w2 (w1.heap.size + 1) w1.heap.size k g o cap L (by omega) hk e3 k2 k1))
    rw [evens_map, List.map_drop, e2] at HH
    clear k1 k2 e1 e2 e3
    go_wp2_with fail
    try rw [hw2]
    refine (callsIn_wide.1 HH.out).mono ?_
    rintro e w3 ⟨v3, rfl, hv3, hb3⟩
    have HV3 := Lib.hid hv3
    clear hv3 hw2
    go_wp2
    go_ret
    exact PicPost.mk HV3.out (below_trans hb2 hb3 hb2.size)
end Go.Proofs.Ytfoggbcfkniimaa
