/-
  What is proved: rows of cells that a call owns; an append of cells to one; what the functions that draw rows of chapter 2 answer.
  Conditions: the cursor's block holds a cursor.
-/
import Derived.Test.YtfoggbcfkniimaaLevel
import Derived.Deep.AppendLies
import Derived.Test.YtfoggbcfkniimaaPkConj
namespace Go.Proofs.Ytfoggbcfkniimaa
set_option linter.unusedVariables false
open Go.RowKit
attribute [local go_sem] run_store_float run_store_complex unary_negf neg256

def cellsOf (cs : List C3) : List Value := cs.flatMap fun c => [.float .f32 c.1, .complex .f32 c.2.1 c.2.2]
theorem cellsOf_len (cs : List C3) : (cellsOf cs).length = cs.length * 2 := by
  induction cs with
  | nil => rfl
  | cons c cs ih => simp only [cellsOf, List.flatMap_cons, List.length_append, List.length_cons, List.length_nil] at ih ⊢; rw [ih]; omega
theorem cellsOf_append (cs ds : List C3) : cellsOf (cs ++ ds) = cellsOf cs ++ cellsOf ds := by simp [cellsOf]
theorem cellsOf_get (cs : List C3) : ∀ i, (cellsOf cs)[i * 2]? = cs[i]?.map (fun c => .float .f32 c.1) ∧ (cellsOf cs)[i * 2 + 1]? = cs[i]?.map (fun c => .complex .f32 c.2.1 c.2.2) := by
  induction cs with
  | nil => intro i; simp [cellsOf]
  | cons c cs ih =>
    intro i
    have e : cellsOf (c :: cs) = .float .f32 c.1 :: .complex .f32 c.2.1 c.2.2 :: cellsOf cs := by simp [cellsOf]
    rw [e]
    cases i with
    | zero => simp
    | succ i =>
      have := ih i
      rw [show (i + 1) * 2 = i * 2 + 1 + 1 by omega]
      simpa using this
theorem cellsOf_one (cs : List C3) : ∀ u ∈ cellsOf cs, u.oneCell' = true := by
  intro u hu
  obtain ⟨c, _, hc⟩ := List.mem_flatMap.1 hu
  rcases List.mem_cons.1 hc with rfl | hc
  · rfl
  · obtain rfl := List.mem_singleton.1 hc; rfl
theorem RowV.cells {w : World} {g o c : Nat} {ds : List C3} (h : RowV w (.slice (some ⟨g, o, none⟩) ds.length c) ds) (j : Nat) (u : Value) (hu : (cellsOf ds)[j]? = some u) : w.cell? ((⟨g, o, none⟩ : Addr).add j) = some u := by
  have hadd : (⟨g, o, none⟩ : Addr).add j = ⟨g, o + j, none⟩ := by unfold Addr.add; split <;> simp_all
  rw [hadd]
  rcases h with ⟨h, _⟩ | ⟨g', o', cap, h, _, hcell⟩
  · cases h
  · simp only [Value.slice.injEq, Option.some.injEq, Addr.mk.injEq, and_true] at h
    obtain ⟨⟨rfl, rfl⟩, _⟩ := h
    have hj : j < ds.length * 2 := by rw [← cellsOf_len]; exact (List.getElem?_eq_some_iff.1 hu).1
    have hi : j / 2 < ds.length := by omega
    obtain ⟨g1, g2⟩ := hcell (j / 2) hi
    obtain ⟨e1, e2⟩ := cellsOf_get ds (j / 2)
    rw [List.getElem?_eq_getElem hi] at e1 e2
    rcases (by omega : j = j / 2 * 2 ∨ j = j / 2 * 2 + 1) with h | h
    · rw [h, e1] at hu
      rw [h, g1]; exact hu
    · rw [h, e2] at hu
      rw [h, ← Nat.add_assoc, g2]; exact hu

/-- The slice v of cells, owned from block base on, holds cs. -/
def OwnC (w : World) (base : Nat) (v : Value) (cs : List C3) : Prop := w.ownsRow base 50 2 v cs.length (cellsOf cs)
theorem OwnC.row {w : World} {base : Nat} {v : Value} {cs : List C3} (h : OwnC w base v cs) : RowV w v cs := by
  have h' := h
  rcases h.2 with ⟨rfl, h0⟩ | ⟨g, cap, cur, rfl, hb, hg, hn, hc, hsz, htk⟩
  · exact .inl ⟨rfl, List.eq_nil_of_length_eq_zero h0⟩
  · refine .inr ⟨g, 0, cap, rfl, hn, fun i hi => ?_⟩
    have hadd : ∀ j, (⟨g, 0, none⟩ : Addr).add j = ⟨g, 0 + j, none⟩ := by intro j; unfold Addr.add; split <;> simp_all
    obtain ⟨e1, e2⟩ := cellsOf_get cs i
    rw [List.getElem?_eq_getElem hi] at e1 e2
    have k1 := World.ownsRow.cells h' (g := g) rfl _ _ e1
    have k2 := World.ownsRow.cells h' (g := g) rfl _ _ e2
    rw [hadd] at k1 k2
    exact ⟨k1, by rw [Nat.add_assoc]; exact k2⟩
theorem OwnC.kept {w w' : World} {base : Nat} {v : Value} {cs : List C3} {row : Option Nat} (h : OwnC w base v cs) (hg : w.grownBy w' row) (hne : v.ownBlock = none ∨ v.ownBlock ≠ row) : OwnC w' base v cs := World.ownsRow.kept h hg hne
theorem OwnC.alloc {w : World} {base : Nat} {v : Value} {cs : List C3} (h : OwnC w base v cs) (o : Obj) : OwnC (w.alloc o) base v cs := World.ownsRow.alloc h o
theorem OwnC.made0 (w : World) : OwnC (w.alloc (.cells #[] 50)) w.heap.size (.slice (some ⟨w.heap.size, 0, none⟩) 0 0) [] := World.ownsRow_made w #[] 0 (Nat.le_refl _) (by unfold maxLen; omega) rfl
theorem OwnC.lt {w : World} {base : Nat} {v : Value} {cs : List C3} (h : OwnC w base v cs) : ∀ k, v.ownBlock = some k → base ≤ k ∧ k < w.heap.size := World.ownsRow.lt h
theorem OwnC.nil (w : World) (base : Nat) : OwnC w base (.slice none 0 0) [] := World.ownsRow_nil _ _ _ _
theorem OwnC.shape {w : World} {base : Nat} {v : Value} {cs : List C3} (h : OwnC w base v cs) :
    (v = .slice none 0 0 ∧ cs = []) ∨ ∃ g cap, v = .slice (some ⟨g, 0, none⟩) cs.length cap ∧ base ≤ g ∧ g < w.heap.size ∧ cs.length ≤ cap ∧ cap ≤ maxLen := by
  rcases h.2 with ⟨rfl, h0⟩ | ⟨g, cap, cur, rfl, hb, hg, hn, hc, _⟩
  · exact .inl ⟨rfl, List.eq_nil_of_length_eq_zero h0⟩
  · exact .inr ⟨g, cap, rfl, hb, (Array.getElem?_eq_some_iff.1 hg).1, hn, hc⟩

/-- Cells that can be read, appended. -/
theorem own_append {ops : Array Oper} {rest : List Oper} {o : Oper} {a : Act} {w : World} {Q : Exit → Act → World → Prop} (hgd : o.guard = none) (s x : Operand)
    (ho : o.op = .call { callee := .builtin .append, args := #[s, x], argTypes := #[46, 46] })
    (base : Nat) (v : Value) (cs ds : List C3) (hs : a.eval s = v) (hown : OwnC w base v cs) (g o' c : Nat) (hx : a.eval x = .slice (some ⟨g, o', none⟩) ds.length c) (hrow : RowV w (.slice (some ⟨g, o', none⟩) ds.length c) ds)
    (hm : 0 < ds.length) (hlen : cs.length + ds.length ≤ 1000000) (hbase : base ≤ w.heap.size)
    (h : ∀ g cap w', OwnC w' base (.slice (some ⟨g, 0, none⟩) (cs.length + ds.length) cap) (cs ++ ds) → w.grownBy w' v.ownBlock → (v.ownBlock = some g ∨ g = w.heap.size) → g < w'.heap.size → wpList Try.prog ops Q rest (a.put o.dst (.slice (some ⟨g, 0, none⟩) (cs.length + ds.length) cap)) w') :
    wpList Try.prog ops Q (o :: rest) a w := by
  obtain ⟨i0, hi, hz0, hz1, hz2⟩ := info_parts info_cell
  refine wpList_append_lies w hgd s x 46 ho base 50 i0 _ 2 12 Try.underlying46 hi hz0 hz1 hz2 rfl (by decide) v cs.length _ hs hown ⟨g, o', none⟩ ds.length c (cellsOf ds) hx (cellsOf_len ds) (fun j u hu => hrow.cells j u hu) (cellsOf_one ds) hm (by unfold maxLen; omega) (by omega) hbase w.heap.size rfl ?_
  intro g cap w' h2 h3 h4 h5
  refine h g cap w' ?_ h3 h4 h5
  unfold OwnC
  rw [List.length_append, cellsOf_append]
  exact h2

theorem grown_set {a w : World} {g : Nat} (h : a.grownBy w (some g)) {p : Addr} (hp : a.heap.size ≤ p.block) (u : Value) : a.grownBy (w.setCell p u) (some g) :=
  ⟨h.os, h.tape, h.output, by simpa [World.setCell] using h.size, fun i hi hne => (Below.heap_setCell w p u i (by omega)).trans (h.block i hi hne)⟩
theorem grown_alloc {a w : World} {row : Option Nat} (h : a.grownBy w row) (o : Obj) : a.grownBy (w.alloc o) row :=
  ⟨h.os, h.tape, h.output, Nat.le_trans h.size (by simp), fun i hi hne => (Below.heap_alloc w o i (Nat.lt_of_lt_of_le hi h.size)).trans (h.block i hi hne)⟩
theorem Cur.set {w : World} {b : Nat} (h : Cur w b) {p : Addr} (hp : b < p.block) (u : Value) : Cur (w.setCell p u) b :=
  h.grown (row := some p.block) ⟨rfl, rfl, rfl, by simp [World.setCell], fun i hi hne => Below.heap_setCell w p u i (fun e => hne (by rw [e]))⟩ (fun r hr => by cases hr; exact hp)

def CellPost (b : Nat) (w : World) (e : Ending) (w' : World) : Prop :=
  ∃ y u v, (y < 2 ^ 32 ∧ u < 2 ^ 32 ∧ v < 2 ^ 32) ∧ e = .returned (.agg #[.float .f32 y, .complex .f32 u v]) ∧ Cur w' b ∧ w.grownBy w' (some b)
set_option maxHeartbeats 1000000 in
theorem l02Cell_any (b : Nat) (w : World) (hc : Cur w b) :
    Calls Try.prog 50 #[.pointer (some ⟨b, 0, none⟩)] w fun e w' => CellPost b w e w' := by
  have hlt := hc.lt
  have hcA := hc.alloc (.cells #[.float .f32 0, .complex .f32 0 0] 50)
  have hgA := World.grownBy_alloc w (.cells #[.float .f32 0, .complex .f32 0 0] 50) (some b)
  have hnew := heap_alloc_new w (.cells #[.float .f32 0, .complex .f32 0 0] 50)
  have hsA : w.heap.size < (w.alloc (.cells #[.float .f32 0, .complex .f32 0 0] 50)).heap.size := by simp
  have HN := Lib.hid hnew
  clear hc hnew
  go_enter Try.func50, Try.ntmps50
  go_wp2_with fail
  generalize w.alloc (.cells #[.float .f32 0, .complex .f32 0 0] 50) = wA at *
  refine (l02Level_any b _ hcA).mono ?_
  rintro e w1 ⟨y, hy, rfl, hc1, hg1⟩
  go_wp2_with fail
  refine (l02Level_any b _ hc1).mono ?_
  rintro e w2 ⟨u, hu, rfl, hc2, hg2⟩
  have HY := Lib.hid (And.intro hy hu)
  clear hy hu
  go_wp2_with fail
  refine (l02Level_any b _ hc2).mono ?_
  rintro e w3 ⟨v, hv, rfl, hc3, hg3⟩
  have HV := Lib.hid hv
  clear hv
  have hg := (hg1.trans hg2).trans hg3
  have hB : w3.heap[w.heap.size]? = some (.cells #[.float .f32 0, .complex .f32 0 0] 50 (0, 0)) := (hg.block _ hsA (by intro h; cases h; omega)).trans HN.out
  have c0 : w3.cell? ⟨w.heap.size, 0, none⟩ = some (.float .f32 0) := by simp [World.cell?, hB]
  have c1 : w3.cell? ⟨w.heap.size, 1, none⟩ = some (.complex .f32 0 0) := by simp [World.cell?, hB]
  have f0 : w3.frozen? ⟨w.heap.size, 0, none⟩ = false := by simp [World.frozen?, hB]
  have f1 : w3.frozen? ⟨w.heap.size, 1, none⟩ = false := by simp [World.frozen?, hB]
  have hB2 := heap_put (i := 1) (v := .complex .f32 u v) (heap_put (i := 0) (v := .float .f32 y) hB)
  have hgr := grown_set (grown_set (hgA.trans hg) (p := ⟨w.heap.size, 0, none⟩) (Nat.le_refl _) (.float .f32 y)) (p := ⟨w.heap.size, 1, none⟩) (Nat.le_refl _) (.complex .f32 u v)
  have hcr := (hc3.set (p := ⟨w.heap.size, 0, none⟩) hlt (.float .f32 y)).set (p := ⟨w.heap.size, 1, none⟩) hlt (.complex .f32 u v)
  clear hB hc1 hc2 hc3 hg1 hg2 hg3 hg hgA hcA
  have HB := Lib.hid hB2
  clear hB2
  go_wp2
  generalize ((w3.setCell ⟨w.heap.size, 0, none⟩ (.float .f32 y)).setCell ⟨w.heap.size, 1, none⟩ (.complex .f32 u v)) = w4 at *
  have d0 : w4.cell? ⟨w.heap.size, 0, none⟩ = some (.float .f32 y) := by have := HB.out; simp [World.cell?, this]
  have d1 : w4.cell? ⟨w.heap.size, 1, none⟩ = some (.complex .f32 u v) := by have := HB.out; simp [World.cell?, this]
  refine bodyPost_ret (v := .agg #[.float .f32 y, .complex .f32 u v]) ?_ rfl ⟨y, u, v, ⟨HY.out.1, HY.out.2, HV.out⟩, rfl, hcr, hgr⟩
  simp [results, Try.results50, go_sem, d0, d1]
end Go.Proofs.Ytfoggbcfkniimaa
