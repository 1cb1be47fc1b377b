/-
  What is proved: pictures of which one cell is written; what a link can carry.
  Conditions: those that each fact names.
-/
import Derived.Test.YtmelnpimoiipgaaPairedO
namespace Go.Proofs.Ytmelnpimoiipgaa
set_option linter.unusedVariables false
open Go.RowKit

/-- A cell of a picture. -/
def at2 (rs : List (List C3)) (r i : Nat) : C3 := (rs.getD r []).getD i (0, 0, 0)
def put2 (rs : List (List C3)) (r i : Nat) (c : C3) : List (List C3) := rs.set r ((rs.getD r []).set i c)
theorem at2_of {rs : List (List C3)} {r i : Nat} (hr : r < rs.length) (hi : i < rs[r].length) : at2 rs r i = rs[r][i] := by
  unfold at2; rw [getD_lt hr, getD_lt hi]
theorem put2_len (rs : List (List C3)) (r i : Nat) (c : C3) : (put2 rs r i c).length = rs.length := by unfold put2; rw [List.length_set]
theorem put2_wide {rs : List (List C3)} {W r i : Nat} {c : C3} (h : ∀ x ∈ rs, x.length = W) (hr : r < rs.length) : ∀ x ∈ put2 rs r i c, x.length = W := by
  intro x hx
  unfold put2 at hx
  rcases List.mem_or_eq_of_mem_set hx with hx | rfl
  · exact h x hx
  · rw [List.length_set, getD_lt hr]; exact h _ (List.getElem_mem hr)
theorem getD_set_self {α : Type} {l : List α} {x d : α} {i : Nat} (h : i < l.length) : (l.set i x).getD i d = x := by
  rw [getD_lt (by rw [List.length_set]; exact h), List.getElem_set_self]
theorem getD_set_ne {α : Type} {l : List α} {x d : α} {i j : Nat} (h : j ≠ i) : (l.set i x).getD j d = l.getD j d := by
  rw [List.getD_eq_getElem?_getD, List.getElem?_set_ne (fun e => h e.symm), ← List.getD_eq_getElem?_getD]
theorem put2_at {rs : List (List C3)} {r i : Nat} {c : C3} (hr : r < rs.length) (hi : i < rs[r].length) (r' i' : Nat) : at2 (put2 rs r i c) r' i' = if r' = r ∧ i' = i then c else at2 rs r' i' := by
  unfold at2 put2
  by_cases e : r' = r
  · subst e
    rw [getD_set_self hr]
    by_cases e2 : i' = i
    · subst e2
      rw [if_pos ⟨rfl, rfl⟩, getD_set_self (by rw [getD_lt hr]; exact hi)]
    · rw [if_neg (fun h => e2 h.2), getD_set_ne e2]
  · rw [if_neg (fun h => e h.1), getD_set_ne e]
theorem put2_put {rs : List (List C3)} {r i : Nat} {c d : C3} (hr : r < rs.length) : put2 (put2 rs r i c) r i d = put2 rs r i d := by
  unfold put2
  rw [getD_set_self hr, List.set_set, List.set_set]
/-- A cell that a link carries: the brightness from 0 to 60, the parts of the colour of an amount of 2 at most, all of them sixteenths. -/
def LinkC (c : C3) : Prop := ∃ a b d : Int, Flt.Sx c.1 a ∧ Flt.Sx c.2.1 b ∧ Flt.Sx c.2.2 d ∧ (0 ≤ a ∧ a ≤ 960) ∧ b.natAbs ≤ 32 ∧ d.natAbs ≤ 32
/-- Is cell (r', i') written ahead of cell (r, i)? -/
def Ahead (r i r' i' : Nat) : Prop := r' < r ∨ (r' = r ∧ i' < i)
/-- The cells ahead of (r, i) are such as a link carries, and paired. -/
structure DoneL (rs : List (List C3)) (W r i : Nat) : Prop where
  link : ∀ r' i', r' < rs.length → i' < W → Ahead r i r' i' → LinkC (at2 rs r' i')
  pair : ∀ r' i', r' < rs.length → i' < W → Ahead r i r' i' → 2 ≤ r' % 4 → (at2 rs r' i').2 = (at2 rs (r' - 2) i').2
theorem DoneL.start (rs : List (List C3)) (W : Nat) : DoneL rs W 0 0 :=
  ⟨fun r' i' _ _ h => by rcases h with h | ⟨_, h⟩ <;> omega, fun r' i' _ _ h => by rcases h with h | ⟨_, h⟩ <;> omega⟩
theorem ahead_prev {r i r' i' : Nat} (h : Ahead r (i + 1) r' i') (e : ¬(r' = r ∧ i' = i)) : Ahead r i r' i' := by
  rcases h with h | ⟨h, h2⟩
  · exact .inl h
  · exact .inr ⟨h, by omega⟩
theorem DoneL.next {rs : List (List C3)} {W r i : Nat} {c : C3} (h : DoneL rs W r i) (hw : ∀ x ∈ rs, x.length = W) (hr : r < rs.length) (hi : i < W) (hc : LinkC c) (hp : 2 ≤ r % 4 → c.2 = (at2 rs (r - 2) i).2) : DoneL (put2 rs r i c) W r (i + 1) := by
  have hil : i < rs[r].length := by rw [hw _ (List.getElem_mem hr)]; exact hi
  refine ⟨fun r' i' h1 h2 h3 => ?_, fun r' i' h1 h2 h3 h4 => ?_⟩
  · rw [put2_len] at h1
    rw [put2_at hr hil]
    by_cases e : r' = r ∧ i' = i
    · rw [if_pos e]; exact hc
    · rw [if_neg e]; exact h.link r' i' h1 h2 (ahead_prev h3 e)
  · rw [put2_len] at h1
    have hb : ¬ (r' - 2 = r ∧ i' = i) := fun e => by rcases h3 with h3 | ⟨h3, h5⟩ <;> omega
    rw [put2_at hr hil, put2_at hr hil (r' - 2), if_neg hb]
    by_cases e : r' = r ∧ i' = i
    · rw [if_pos e, e.1, e.2]
      rw [e.1] at h4
      exact hp h4
    · rw [if_neg e]
      exact h.pair r' i' h1 h2 (ahead_prev h3 e) h4
theorem ahead_row {W r r' i' : Nat} (h2 : i' < W) (h : Ahead (r + 1) 0 r' i') : Ahead r W r' i' := by
  rcases h with h | ⟨h, h5⟩
  · by_cases e : r' = r
    · exact .inr ⟨e, h2⟩
    · exact .inl (by omega)
  · omega
theorem DoneL.row {rs : List (List C3)} {W r : Nat} (h : DoneL rs W r W) : DoneL rs W (r + 1) 0 :=
  ⟨fun r' i' h1 h2 h3 => h.link r' i' h1 h2 (ahead_row h2 h3), fun r' i' h1 h2 h3 h4 => h.pair r' i' h1 h2 (ahead_row h2 h3) h4⟩
/-- One cell of one row is written. -/
theorem GridC.put2 {w : World} {base g n cap r i gr cr nr : Nat} {rs : List (List C3)} {ss : List SV} {c : C3} (h : GridC w base (.slice (some ⟨g, 0, none⟩) n cap) rs ss) (hr : r < rs.length) (hi : i < rs[r].length)
    (hc : w.cell? ⟨g, r, none⟩ = some (.slice (some ⟨gr, 0, none⟩) nr cr)) : GridC ((w.setCell ⟨gr, i * 2, none⟩ (.float .f32 c.1)).setCell ⟨gr, i * 2 + 1, none⟩ (.complex .f32 c.2.1 c.2.2)) base (.slice (some ⟨g, 0, none⟩) n cap) (put2 rs r i c) ss := by
  have hs : r < ss.length := by rw [h.len]; exact hr
  obtain ⟨a, c', h1, h2⟩ := rowsC_any h.own.row
  obtain ⟨g1, o1, e, _, hcell⟩ := h2 r hs
  subst e
  have e1 : g1 = g ∧ o1 = 0 := by injection h1 with x1; injection x1 with x1; injection x1 with x1 x2; exact ⟨x1.symm, x2.symm⟩
  obtain ⟨rfl, rfl⟩ := e1
  rw [Nat.zero_add, hc] at hcell
  have hv : ss[r].v = .slice (some ⟨gr, 0, none⟩) nr cr := (Option.some.inj hcell).symm
  have hrow := h.row r hs hr
  rw [hv] at hrow
  have hb : ss[r].v.ownBlock = some gr := by rw [hv]; rfl
  unfold Go.Proofs.Ytmelnpimoiipgaa.put2
  rw [getD_lt hr]
  refine h.put hs (by rw [hb]; exact (Lib.grownBy_setCell w gr (i * 2) _).trans (Lib.grownBy_setCell _ gr (i * 2 + 1) _)) ?_
  rw [hv]
  have p1 := Lay.Own.put LC_ok (L := LC) (z := (c.1, rs[r][i].2)) hrow hi (show 0 < LC.size by decide) (show i * 2 = i * LC.size + 0 from rfl) (u := .float .f32 c.1) rfl
  have p2 := Lay.Own.put LC_ok (L := LC) (z := c) p1 (by rw [List.length_set]; exact hi) (show 1 < LC.size by decide) (show i * 2 + 1 = i * LC.size + 1 from rfl) (u := .complex .f32 c.2.1 c.2.2) (by rw [List.getElem_set_self]; rfl)
  rw [List.set_set] at p2
  exact p2
end Go.Proofs.Ytmelnpimoiipgaa
