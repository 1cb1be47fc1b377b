/-
  What is proved: the fields of a line, joined.
  Conditions: the log can be read; its texts and the line have at most 1048576 bytes each; the library's table of spaces holds what its initialiser lays.
-/
import Derived.Test.YtobpnoiienpipaaDoorTunedN
namespace Go.Proofs.YtobpnoiienpipaaDoor
set_option linter.unusedVariables false
open Go.RowKit
attribute [local go_sem] run_store_float run_store_complex unary_negf neg256

theorem lens_le : ∀ (fs : List (List UInt8)), (∀ f ∈ fs, f.length ≤ 600) → Lib.lens fs ≤ 600 * fs.length
  | [], _ => by simp [Lib.lens]
  | f :: fs, h => by
    have h1 := lens_le fs (fun g hg => h g (by simp [hg]))
    have h2 := h f (by simp)
    unfold Lib.lens at h1 ⊢
    simp only [List.map_cons, List.sum_cons, List.length_cons]
    omega
theorem join_bound (f : List UInt8) (fs : List (List UInt8)) (h : ∀ g ∈ f :: fs, g.length ≤ 600) : (Lib.join (f :: fs) [32]).length ≤ 601 * (fs.length + 1) := by
  have h1 := lens_le (f :: fs) h
  rw [Lib.join_length]
  simp only [List.length_cons, List.length_nil] at *
  omega
theorem spl_small {l : List UInt8} (h : splB l = true) : (∀ f ∈ spl l, f.length ≤ 600) ∧ (spl l).length ≤ 24 := by
  unfold splB at h
  simp only [decide_eq_true_eq] at h
  have e := (spl_yes h).1
  rw [e]
  exact ⟨fun f hf => by have := fields_mem l [] f hf; simp at this; omega, h.2.2⟩
theorem join_any (g cap base m : Nat) (f : List UInt8) (fs : List (List UInt8)) (W : World) (h : OwnS W base (.slice (some ⟨g, 0, none⟩) m cap) (f :: fs)) (hm : fs.length + 1 = m) (hb : ∀ x ∈ f :: fs, x.length ≤ 600) (hc : fs.length ≤ 24) :
    Calls Tryd.prog 59 #[.slice (some ⟨g, 0, none⟩) m cap, .string ⟨#[32]⟩] W fun e w' => e = .returned (.string ⟨(Lib.join (f :: fs) [32]).toArray⟩) ∧ Below W.heap.size W w' := by
  rcases h.shape with ⟨_, e⟩ | ⟨g', cap', hv, _, hgl, hcap, _⟩
  · cases e
  injection hv with hv1 hv2 hv3
  injection hv1 with hv1
  injection hv1 with hv1
  subst hv1 hv3
  have hmap : ((f :: fs).map fun l => (⟨l.toArray⟩ : ByteArray)).map (fun x : ByteArray => x.data.toList) = f :: fs := by
    rw [List.map_map]
    exact (List.map_congr_left (fun x _ => by simp)).trans (List.map_id _)
  have hj := Tryd.strings_Join g 0 cap ((f :: fs).map fun l => (⟨l.toArray⟩ : ByteArray)) ⟨#[32]⟩ W (fun j q hj => by
    obtain ⟨hlt, rfl⟩ := List.getElem?_eq_some_iff.1 hj
    have hlt' : j < (f :: fs).length := by simpa using hlt
    rw [Nat.zero_add, (h.cell j hlt').1, List.getElem_map]
    rfl) hgl (by simp; omega) (by simpa using hcap) (by
      rw [hmap]
      have := join_bound f fs hb
      exact Nat.le_trans this (by omega))
  rw [hmap, List.length_map, List.length_cons, hm] at hj
  exact hj
def CmdOut (k : Nat) (x : SetC) (v : Value) (vs : List (List UInt8)) (w : World) (e : Ending) (w' : World) : Prop :=
  ∃ yc yr ys yl yt a n c b, e = .returned (.tuple #[.agg #[.int .i64 yc, .int .i64 yr, .float .f32 ys, .float .f32 yl, .float .f32 yt, .slice a n c], .bool b]) ∧ (.slice a n c = v ∨ Value.slice a n c = .slice none 0 0) ∧ (b = true → .slice a n c = v ∧ cmdF k x vs = some ⟨yc, yr, ys, yl, yt⟩) ∧ (b = false → cmdF k x vs = none) ∧ Below w.heap.size w w'
theorem CmdPost.out {k n0 c0 : Nat} {a0 : Option Addr} {x : SetC} {vs : List (List UInt8)} {w w' : World} {e : Ending} (h : CmdPost k x (.slice a0 n0 c0) vs w e w') : CmdOut k x (.slice a0 n0 c0) vs w e w' := by
  obtain ⟨⟨yc, yr, ys, yl, yt⟩, v', b, rfl, hv, h1, h2, hb⟩ := h
  obtain ⟨a, n, c, rfl⟩ : ∃ a n c, v' = .slice a n c := by rcases hv with rfl | rfl <;> exact ⟨_, _, _, rfl⟩
  exact ⟨yc, yr, ys, yl, yt, a, n, c, b, rfl, hv, h1, h2, hb⟩
theorem SetAt.put6 {W : World} {h b : Nat} {x : SetC} {v : Value} (k : SetAt W h x v) (hne : ¬ b = h) (v0 v1 v2 v3 v4 v5 : Value) : SetAt ((((((W.setCell ⟨b, 0, none⟩ v0).setCell ⟨b, 1, none⟩ v1).setCell ⟨b, 2, none⟩ v2).setCell ⟨b, 3, none⟩ v3).setCell ⟨b, 4, none⟩ v4).setCell ⟨b, 5, none⟩ v5) h x v := by
  have e : ((((((W.setCell ⟨b, 0, none⟩ v0).setCell ⟨b, 1, none⟩ v1).setCell ⟨b, 2, none⟩ v2).setCell ⟨b, 3, none⟩ v3).setCell ⟨b, 4, none⟩ v4).setCell ⟨b, 5, none⟩ v5).heap[h]? = W.heap[h]? := by
    simp [World.setCell, Array.getElem?_modify, hne]
  generalize ((((((W.setCell ⟨b, 0, none⟩ v0).setCell ⟨b, 1, none⟩ v1).setCell ⟨b, 2, none⟩ v2).setCell ⟨b, 3, none⟩ v3).setCell ⟨b, 4, none⟩ v4).setCell ⟨b, 5, none⟩ v5) = W' at *
  have c : ∀ i, W'.cell? ⟨h, i, none⟩ = W.cell? ⟨h, i, none⟩ := fun i => by unfold World.cell?; rw [e]
  obtain ⟨k0, k1, k2, k3, k4, k5⟩ := k
  exact ⟨(c 0).trans k0, (c 1).trans k1, (c 2).trans k2, (c 3).trans k3, (c 4).trans k4, (c 5).trans k5⟩
theorem OwnS.put6 {W : World} {b base : Nat} {v : Value} {ls : List (List UInt8)} (h : OwnS W base v ls) (hne : ∀ k, v.ownBlock = some k → k ≠ b) (v0 v1 v2 v3 v4 v5 : Value) : OwnS ((((((W.setCell ⟨b, 0, none⟩ v0).setCell ⟨b, 1, none⟩ v1).setCell ⟨b, 2, none⟩ v2).setCell ⟨b, 3, none⟩ v3).setCell ⟨b, 4, none⟩ v4).setCell ⟨b, 5, none⟩ v5) base v ls := by
  refine ⟨h.1, h.2.imp id fun ⟨g, cap, cur, h1, h2, h3, h4⟩ => ⟨g, cap, cur, h1, h2, ?_, h4⟩⟩
  subst h1
  have hb : ¬ b = g := fun e => hne g rfl e.symm
  rw [← h3]
  simp [World.setCell, Array.getElem?_modify, hb]
theorem heap_put6 {W : World} {b : Nat} {t : TypeId} {u0 u1 u2 u3 u4 u5 : Value} (h : W.heap[b]? = some (.cells #[u0, u1, u2, u3, u4, u5] t (0, 0))) (v0 v1 v2 v3 v4 v5 : Value) :
    ((((((W.setCell ⟨b, 0, none⟩ v0).setCell ⟨b, 1, none⟩ v1).setCell ⟨b, 2, none⟩ v2).setCell ⟨b, 3, none⟩ v3).setCell ⟨b, 4, none⟩ v4).setCell ⟨b, 5, none⟩ v5).heap[b]? = some (.cells #[v0, v1, v2, v3, v4, v5] t (0, 0)) := by
  simp [World.setCell, Array.getElem?_modify, h]
theorem ne_alloc {W : World} {o : Obj} {k : Nat} (h : (W.alloc o).drew.heap.size ≤ k) : k ≠ W.heap.size := by
  have h1 : (W.alloc o).heap.size = W.heap.size + 1 := by simp
  have h2 : (W.alloc o).heap.size ≤ k := h
  omega
theorem TunedPost.refused {x : SetC} {ls : List (List UInt8)} {line : List UInt8} {w w' : World} {yc yr : Int} {ys yl yt n c : Nat} {a : Option Addr} (h : tuneF x ls line = none) (hb : Below w.heap.size w w') :
    TunedPost x ls line w (.returned (.tuple #[.agg #[.int .i64 yc, .int .i64 yr, .float .f32 ys, .float .f32 yl, .float .f32 yt, .slice a n c], .bool false])) w' :=
  ⟨⟨yc, yr, ys, yl, yt⟩, a, n, c, false, rfl, (fun h => by cases h), fun _ => h, hb⟩
theorem TunedPost.done {x : SetC} {ls out : List (List UInt8)} {line : List UInt8} {w w' : World} {yc yr : Int} {ys yl yt n c : Nat} {a : Option Addr} {b : Bool} (h : tuneF x ls line = if b = true then some (⟨yc, yr, ys, yl, yt⟩, out) else none)
    (ho : OwnS w' w.heap.size (.slice a n c) out) (hy : SetC.ok ⟨yc, yr, ys, yl, yt⟩) (hb : Below w.heap.size w w') :
    TunedPost x ls line w (.returned (.tuple #[.agg #[.int .i64 yc, .int .i64 yr, .float .f32 ys, .float .f32 yl, .float .f32 yt, .slice a n c], .bool b])) w' :=
  ⟨⟨yc, yr, ys, yl, yt⟩, a, n, c, b, rfl, fun e => ⟨out, by rw [h, if_pos e], ho, hy⟩, fun e => by rw [h, if_neg (by rw [e]; decide)], hb⟩
/-- All texts but the first. -/
theorem tail_row {W : World} {base g cap : Nat} {n : List UInt8} {vs : List (List UInt8)} (h : OwnS W base (.slice (some ⟨g, 0, none⟩) (vs.length + 1) cap) (n :: vs)) : TRow W (.slice (some ⟨g, 1, none⟩) vs.length (cap - 1)) vs := by
  rcases h.shape with ⟨hv, _⟩ | ⟨g', cap', hv, _, hgl, hcap, _⟩
  · cases hv
  injection hv with hv1 hv2 hv3
  injection hv1 with hv1
  injection hv1 with hv1
  subst hv1 hv3
  simp only [List.length_cons] at hcap
  refine .inr ⟨g, 1, cap - 1, rfl, by omega, fun k hk => ?_⟩
  have := (h.cell (k + 1) (by simp; omega)).1
  rw [Nat.add_comm 1 k]
  simpa using this
theorem step_str {ops : Array Oper} {o : Oper} {a : Act} {w : World} {K : Act → World → Prop} {Q : Exit → Act → World → Prop} {E : Prop} (hgd : o.guard = none) (s x : Operand)
    (ho : o.op = .call { callee := .builtin .append, args := #[s, x], argTypes := #[25, 25] })
    (base : Nat) (v : Value) (ls : List (List UInt8)) (hs : a.eval s = v) (hown : OwnS w base v ls) (b : Nat) (y : List UInt8) (hx : a.eval x = .slice (some ⟨b, 0, none⟩) 1 1) (hy : w.cell? ⟨b, 0, none⟩ = some (.string ⟨y.toArray⟩))
    (hlen : ls.length ≤ 1000000) (hbase : base ≤ w.heap.size)
    (h : ∀ g cap w', OwnS w' base (.slice (some ⟨g, 0, none⟩) (ls.length + 1) cap) (ls ++ [y]) → w.grownBy w' v.ownBlock → (v.ownBlock = some g ∨ g = w.heap.size) → g < w'.heap.size → K (a.put o.dst (.slice (some ⟨g, 0, none⟩) (ls.length + 1) cap)) w') :
    if Region.wanted o (yielded ops a.tmps) = true then Oper.wp Tryd.prog o a w K Q else E := by
  obtain ⟨i0, hi, hz0, hz1, hz2⟩ := info_parts info_str
  refine step_append_lies w hgd s x 25 ho base 9 i0 _ 1 16 Tryd.underlying25 hi hz0 hz1 hz2 rfl (by decide) v ls.length _ hs hown ⟨b, 0, none⟩ 1 1 [strV y] hx (by rfl) ?_ ?_ (by decide) (by unfold maxLen; omega) (by omega) hbase w.heap.size rfl ?_
  · intro j u hu
    match j, hu with
    | 0, hu => cases hu; exact hy
  · intro u hu
    obtain rfl := List.mem_singleton.1 hu
    rfl
  · intro g cap w' h2 h3 h4 h5
    refine h g cap w' ?_ h3 h4 h5
    unfold OwnS
    rw [List.length_append, List.map_append]
    exact h2
theorem cmdF_ok {k : Nat} {x y : SetC} {vs : List (List UInt8)} (hx : x.ok) (h : cmdF k x vs = some y) : y.ok := by
  have hn : ∀ z : SetC, z.ok → numF vs z = some y → y.ok := fun z hz hh => by
    unfold numF at hh
    split at hh
    · cases hh; exact hz
    · cases hh
  unfold cmdF at h
  split at h
  · exact hn (x.s' (numR vs).1) hx h
  split at h
  · exact hn (x.l' (numR vs).1) hx h
  split at h
  · exact hn (x.t' (numR vs).1) hx h
  match vs, h with
  | [], h => cases h
  | [_], h => cases h
  | [a, b], h =>
    have hle : ∀ l, (puV l : Int) ≤ 1000000000 := fun l => by
      unfold puV
      split
      · rename_i hp
        unfold puB at hp
        simp only [Bool.and_eq_true, decide_eq_true_eq] at hp
        omega
      · decide
    have h1 := hle a
    have h2 := hle b
    simp only [sizeF] at h
    split at h
    · cases h
      exact ⟨⟨by simp <;> omega, by simp <;> omega⟩, ⟨by simp <;> omega, by simp <;> omega⟩⟩
    · cases h
  | _ :: _ :: _ :: _, h => cases h
/-- Where there is no further text, the tail keeps the place. -/
theorem tail_row0 {W : World} {g : Nat} {vs : List (List UInt8)} {m : Nat} (h : vs.length + 1 ≤ 1) (hm : m = 0) : TRow W (.slice (some ⟨g, 0, none⟩) vs.length m) vs := by
  subst hm
  obtain rfl : vs = [] := List.length_eq_zero_iff.1 (by omega)
  exact .inr ⟨g, 0, 0, rfl, by simp, fun k hk => absurd hk (by simp)⟩
structure Tail (T : Prop) : Prop where
  out : T
theorem share {G : Prop} (T : Prop) (main : Tail T → G) (tail : T) : G := main ⟨tail⟩
end Go.Proofs.YtobpnoiienpipaaDoor
