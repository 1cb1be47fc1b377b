/-
  What is proved: the walk of MakeLine.
  Conditions: the row can be read.
-/
import Derived.Test.YtjccnmnhgahlfaaRepeat
import Derived.Test.YtjccnmnhgahlfaaEncCells
namespace Go.Proofs.Ytjccnmnhgahlfaa
set_option linter.unusedVariables false
open Go.RowKit
attribute [local go_sem] run_store_float run_store_complex unary_negf neg256

/-- Block g holds these cells. -/
def Mem (w : World) (g : Nat) (L : List Value) : Prop := w.heap[g]? = some (.cells L.toArray 52 (0, 0))
def fl (xs : List Nat) : List Value := xs.map (.float .f32)
theorem fl_len (xs : List Nat) : (fl xs).length = xs.length := by simp [fl]
theorem grown_setRow (w : World) (g : Nat) (cs : Array Value) : w.grownBy (w.setRow g cs) (some g) := ⟨rfl, rfl, rfl, by simp [World.setRow], fun k hk hne => setRow_other w g k cs (fun e => hne (by rw [e]))⟩
theorem grown_any {w w' : World} (row : Option Nat) (hb : Below w.heap.size w w') : w.grownBy w' row := ⟨hb.os, hb.tape, hb.output, hb.size, fun k hk _ => hb.block k hk⟩
theorem copy_mem {w : World} {g : Nat} {L : List Value} (h : Mem w g L) (off m dcap g' o' c : Nat) (ys : List Nat) (hy : FRow w (.slice (some ⟨g', o', none⟩) m c) ys) (hm : ys.length = m) (hf : off + m ≤ L.length) :
    ∃ w', (Builtin.copy_ #[24, 24] 3 #[.slice (some ⟨g, off, none⟩) m dcap, .slice (some ⟨g', o', none⟩) m c]).run Try.prog w = .ok (.int .i64 (m : Int)) w' ∧ Mem w' g (splice L off (fl ys)) ∧ w.grownBy w' (some g) := by
  have hc := hy.cells
  have hrun := run_copy_row (P := Try.prog) w 24 24 3 52 g off m dcap ⟨g', o', none⟩ m c L.toArray 52 (fl ys) Try.underlying24 f32_size h (by rw [fl_len, hm]; exact (Nat.min_self m).symm)
    (fun j v hj => by
      have hadd : (⟨g', o', none⟩ : Addr).add j = ⟨g', o' + j, none⟩ := by unfold Addr.add; split <;> simp_all
      have hl : j < ys.length := by have := (List.getElem?_eq_some_iff.1 hj).1; rwa [fl_len] at this
      rw [hadd, hc j hl]
      rw [fl, List.getElem?_map, List.getElem?_eq_getElem hl] at hj
      exact hj)
    (by rw [fl_len, hm]; simpa using hf) (fun v hv => by obtain ⟨x, _, rfl⟩ := List.mem_map.1 hv; rfl)
  refine ⟨_, by rw [fl_len, hm] at hrun; exact hrun, ?_, grown_setRow w g _⟩
  unfold Mem
  rw [setRow_heap w g _ _ 52 _ h]
  simp [splice, fl_len, hm]
theorem Mem.kept {w w' : World} {g : Nat} {L : List Value} (h : Mem w g L) (hb : w'.heap[g]? = w.heap[g]?) : Mem w' g L := hb.trans h
theorem Mem.lt {w : World} {g : Nat} {L : List Value} (h : Mem w g L) : g < w.heap.size := (Array.getElem?_eq_some_iff.1 h).1
theorem Mem.below {w w' : World} {g : Nat} {L : List Value} (h : Mem w g L) (hb : Below w.heap.size w w') : Mem w' g L := h.kept ((grown_of hb).block g (Array.getElem?_eq_some_iff.1 h).1 (by simp))
theorem lit_cell2 (z : Nat) (w : World) (o : Obj) : ((w.alloc o).alloc (.cells #[.float .f32 z] 52)).cell? ⟨w.heap.size + 1, 0, none⟩ = some (.float .f32 z) := by
  have h := lit_cell z (w.alloc o)
  rwa [show (w.alloc o).heap.size = w.heap.size + 1 by simp] at h
theorem litC0 (W : World) (y u v : Nat) : (W.alloc (.cells #[.float .f32 y, .complex .f32 u v] 55)).cell? ⟨W.heap.size, 0, none⟩ = some (.float .f32 y) :=
  (cell_of_row _ _ 0 _ _ _ (heap_alloc_new W _)).trans rfl
theorem litC1 (W : World) (y u v : Nat) : (W.alloc (.cells #[.float .f32 y, .complex .f32 u v] 55)).cell? ⟨W.heap.size, 1, none⟩ = some (.complex .f32 u v) :=
  (cell_of_row _ _ 1 _ _ _ (heap_alloc_new W _)).trans rfl
theorem litA0 (W : World) (x y : Value) (o : Obj) (t : TypeId) : ((W.alloc (.cells #[x, y] t)).alloc o).cell? ⟨W.heap.size, 0, none⟩ = some x :=
  (cell_of_row _ _ 0 _ _ _ ((Below.heap_alloc _ _ _ (by simp)).trans (heap_alloc_new W _))).trans rfl
theorem litA1 (W : World) (x y : Value) (o : Obj) (t : TypeId) : ((W.alloc (.cells #[x, y] t)).alloc o).cell? ⟨W.heap.size, 1, none⟩ = some y :=
  (cell_of_row _ _ 1 _ _ _ ((Below.heap_alloc _ _ _ (by simp)).trans (heap_alloc_new W _))).trans rfl
/-- What a walk that writes into a line leaves. -/
def PutM (g : Nat) (L' : List Value) (w : World) (e : Ending) (w' : World) : Prop := (∃ v, e = .returned v) ∧ Mem w' g L' ∧ w.grownBy w' (some g)
set_option maxHeartbeats 1000000 in
set_option maxRecDepth 100000 in
theorem putPulse_any (g N : Nat) (odd : Bool) (L : List Value) (w : World) (hm : Mem w g L) (hl : L.length = N) (hN : 28 ≤ N) (hN2 : N ≤ 1000) :
    Calls Try.prog 51 #[.agg #[.slice (some ⟨g, 0, none⟩) N N, .bool odd]] w fun e w' => PutM g (splice L 0 (fl (List.replicate 8 3263168512))) w e w' := by
  have HP := fun W => Lib.hid (pulse_any g 0 N N W (by omega) (Nat.le_refl _) (by omega))
  have HM := Lib.hid hm
  have HL := Lib.hid hl
  clear hm hl
  go_enter Try.func51, Try.ntmps51
  go_wp2_with fail
  refine (HP _).out.mono ?_
  rintro e w1 ⟨rfl, rfl⟩
  go_wp2_with fail
  refine (repeat8_any 3263168512 _ _ (lit_cell2 3263168512 _ _)).mono ?_
  rintro e w2 ⟨g2, rfl, hr2, hb2⟩
  have hbw : Below w.heap.size w w2 := below_trans (((Below.refl _ _).alloc (Nat.le_refl _) _).alloc (by simp) _) hb2 (by simp; omega)
  obtain ⟨w3, hrun, hm3, hb3⟩ := copy_mem (HM.out.below hbw) 0 8 8 g2 0 8 _ hr2 (by simp) (by have := HL.out; omega)
  have HM3 := Lib.hid hm3
  have HB3 := Lib.hid ((grown_any (some g) hbw).trans hb3)
  clear hr2 hb2 hm3 hb3
  go_wp2
  go_end0
  exact ⟨⟨_, rfl⟩, HM3.out, HB3.out⟩
def oddRow (cs : List C3) (odd : Bool) : List C3 := if odd = true then cs.map cj else cs
theorem oddRow_len (cs : List C3) (odd : Bool) : (oddRow cs odd).length = cs.length := by unfold oddRow; split <;> simp
theorem encode_both (v : Value) (cs : List C3) (odd : Bool) (w : World) (h : RowV w v cs) (hf : Fit cs) (hl : cs.length ≤ 1000000) (hr : rok cs = true) :
    Calls Try.prog 70 #[v, .bool odd] w fun e w' => EncPost (enc (oddRow cs odd)) w e w' := by
  cases odd with
  | false =>
    have := encode_even v cs w h hf hl
    rw [hr] at this
    exact this
  | true =>
    have := encode_odd v cs w h hf hl
    rw [hr] at this
    exact this
theorem bcells_fit : Fit (bcells 4) := by
  intro c hc
  obtain ⟨_, rfl⟩ := List.mem_replicate.1 hc
  exact ⟨by decide, by decide, by decide⟩
theorem FNew.row4 {w : World} {base : Nat} {v : Value} {xs : List Nat} (h : FNew w base v xs) (h0 : 0 < xs.length) : ∃ g c, v = .slice (some ⟨g, 0, none⟩) xs.length c := by
  rcases h with ⟨_, e⟩ | ⟨g, c, e, _⟩
  · subst e; simp at h0
  · exact ⟨g, c, e⟩
set_option maxHeartbeats 1000000 in
set_option maxRecDepth 100000 in
theorem putBurst_any (g N : Nat) (odd : Bool) (L : List Value) (w : World) (hm : Mem w g L) (hl : L.length = N) (hN : 28 ≤ N) (hN2 : N ≤ 1000) :
    Calls Try.prog 52 #[.agg #[.slice (some ⟨g, 0, none⟩) N N, .bool odd]] w fun e w' => PutM g (splice L 8 (fl (enc (oddRow (bcells 4) odd)))) w e w' := by
  have HP := fun W => Lib.hid (burst_any g 0 N N W (by omega) (Nat.le_refl _) (by omega))
  have HE := fun v W h => Lib.hid (encode_both v (bcells 4) odd W h bcells_fit (by simp [bcells]) bcells_ok)
  have HEL := Lib.hid (show (enc (oddRow (bcells 4) odd)).length = 16 by rw [enc_len, oddRow_len, bcells_len])
  have HM := Lib.hid hm
  have HL := Lib.hid hl
  clear hm hl
  generalize enc (oddRow (bcells 4) odd) = ys at *
  have c0 := litA0 w (.slice (some ⟨g, 0, none⟩) N N) (.bool odd) (.cells #[.float .f32 0, .complex .f32 3246391296 1098907648] 55) 59
  have c1 := litA1 w (.slice (some ⟨g, 0, none⟩) N N) (.bool odd) (.cells #[.float .f32 0, .complex .f32 3246391296 1098907648] 55) 59
  have d0 := litC0 (w.alloc (.cells #[.slice (some ⟨g, 0, none⟩) N N, .bool odd] 59)) 0 3246391296 1098907648
  have d1 := litC1 (w.alloc (.cells #[.slice (some ⟨g, 0, none⟩) N N, .bool odd] 59)) 0 3246391296 1098907648
  rw [show (w.alloc (.cells #[.slice (some ⟨g, 0, none⟩) N N, .bool odd] 59)).heap.size = w.heap.size + 1 by simp] at d0 d1
  have hb0 : Below w.heap.size w ((w.alloc (.cells #[.slice (some ⟨g, 0, none⟩) N N, .bool odd] 59)).alloc (.cells #[.float .f32 0, .complex .f32 3246391296 1098907648] 55)) := ((Below.refl _ _).alloc (Nat.le_refl _) _).alloc (by simp) _
  have HC0 := fun (W : World) (h : W.cell? ⟨w.heap.size, 0, none⟩ = some (.slice (some ⟨g, 0, none⟩) N N)) => Lib.hid (show (W.alloc (.cells #[.float .f32 0, .complex .f32 3246391296 1098907648] 55)).cell? ⟨w.heap.size, 0, none⟩ = some (.slice (some ⟨g, 0, none⟩) N N) from (grown_of ((Below.refl W.heap.size W).alloc (Nat.le_refl _) _)).cell h (by simp))
  have HC1 := fun (W : World) (h : W.cell? ⟨w.heap.size, 1, none⟩ = some (.bool odd)) => Lib.hid (show (W.alloc (.cells #[.float .f32 0, .complex .f32 3246391296 1098907648] 55)).cell? ⟨w.heap.size, 1, none⟩ = some (.bool odd) from (grown_of ((Below.refl W.heap.size W).alloc (Nat.le_refl _) _)).cell h (by simp))
  have HLC := fun (W : World) => Lib.hid (And.intro (litC0 W 0 3246391296 1098907648) (litC1 W 0 3246391296 1098907648))
  go_enter Try.func52, Try.ntmps52
  go_wp2_with fail
  generalize (w.alloc (.cells #[.slice (some ⟨g, 0, none⟩) N N, .bool odd] 59)).alloc (.cells #[.float .f32 0, .complex .f32 3246391296 1098907648] 55) = W0 at *
  have e0 := (HC1 W0 c1).out
  have e00 := (HC0 W0 c0).out
  go_region_law (first
    | ((try go_simp); go_at_call 42; refine (HP _).out.mono ?_; rintro e w1 ⟨rfl, rfl⟩)
    | ((try go_simp); go_at_call 71; refine (repeat4_any 0 3246391296 1098907648 W0.heap.size (W0.alloc (.cells #[.float .f32 0, .complex .f32 3246391296 1098907648] 55)).drew (HLC W0).out.1 (HLC W0).out.2).mono ?_; rintro e w2 ⟨g2, rfl, hr2, hb2⟩; have e1 := (grown_of hb2).cell (HC1 W0 c1).out (by simp))
    | ((try go_simp); go_at_call 70; refine (HE _ _ hr2).out.mono ?_; rintro e w3 ⟨v3, rfl, hn3, hb3⟩
       obtain ⟨g3, c3, hv3⟩ := hn3.row4 (by have := HEL.out; omega)
       rw [HEL.out] at hv3
       subst hv3
       have hbA : Below w.heap.size w (W0.alloc (.cells #[.float .f32 0, .complex .f32 3246391296 1098907648] 55)).drew := belowDN (hb0.alloc hb0.size _) 1
       have hbB := below_trans hbA hb2 hbA.size
       have hbw := below_trans hbB hb3 hbB.size
       obtain ⟨w4, hrun, hm4, hb4⟩ := copy_mem (HM.out.below hbw) 8 16 16 g3 0 c3 ys hn3.row HEL.out (by have := HL.out; omega)
       have HM4 := Lib.hid hm4
       have HB4 := Lib.hid ((grown_any (some g) hbw).trans hb4)
       clear hm4 hb4 hn3 hr2))
  all_goals
    go_end0
    exact ⟨⟨_, rfl⟩, HM4.out, HB4.out⟩
end Go.Proofs.Ytjccnmnhgahlfaa
