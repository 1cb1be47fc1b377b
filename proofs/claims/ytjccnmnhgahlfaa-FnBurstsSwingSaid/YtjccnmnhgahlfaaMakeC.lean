/-
  What is proved: the walk of MakeLine.
  Conditions: the row can be read.
-/
import Derived.Test.YtjccnmnhgahlfaaMake
namespace Go.Proofs.Ytjccnmnhgahlfaa
set_option linter.unusedVariables false
open Go.RowKit
attribute [local go_sem] run_store_float run_store_complex unary_negf neg256

theorem litB0 (W : World) (x y : Value) (t : TypeId) : (W.alloc (.cells #[x, y] t)).cell? ⟨W.heap.size, 0, none⟩ = some x :=
  (cell_of_row _ _ 0 _ _ _ (heap_alloc_new W _)).trans rfl
theorem litB1 (W : World) (x y : Value) (t : TypeId) : (W.alloc (.cells #[x, y] t)).cell? ⟨W.heap.size, 1, none⟩ = some y :=
  (cell_of_row _ _ 1 _ _ _ (heap_alloc_new W _)).trans rfl
set_option maxHeartbeats 1000000 in
set_option maxRecDepth 100000 in
theorem putCells_any (g N : Nat) (odd : Bool) (L : List Value) (v : Value) (cs : List C3) (w : World) (hm : Mem w g L) (hl : L.length = N) (hN : 24 + 4 * cs.length = N) (hN2 : N ≤ 1000) (hv : RowV w v cs) (hf : Fit cs) (hr : rok cs = true) :
    Calls Try.prog 53 #[.agg #[.slice (some ⟨g, 0, none⟩) N N, .bool odd], v] w fun e w' => PutM g (splice L 24 (fl (enc (oddRow cs odd)))) w e w' := by
  have h1 := (rok_iff.1 hr).1.1
  have HP := fun W => Lib.hid (cells_any g 0 N N W (by omega) (Nat.le_refl _) (by omega))
  have HE := fun W h => Lib.hid (encode_both v cs odd W h hf (by omega) hr)
  have HEL := Lib.hid (show (enc (oddRow cs odd)).length = N - 24 by rw [enc_len, oddRow_len]; omega)
  have HM := Lib.hid hm
  have HL := Lib.hid hl
  have HV := fun W (hb : Below w.heap.size w W) => Lib.hid (hv.below hb)
  have hN28 : 28 ≤ N := by omega
  clear hm hl hf hr hv
  generalize enc (oddRow cs odd) = ys at *
  have c0 := litB0 w (.slice (some ⟨g, 0, none⟩) N N) (.bool odd) 59
  have c1 := litB1 w (.slice (some ⟨g, 0, none⟩) N N) (.bool odd) 59
  have hb0 : Below w.heap.size w (w.alloc (.cells #[.slice (some ⟨g, 0, none⟩) N N, .bool odd] 59)) := (Below.refl _ _).alloc (Nat.le_refl _) _
  go_enter Try.func53, Try.ntmps53
  go_wp2_with fail
  generalize w.alloc (.cells #[.slice (some ⟨g, 0, none⟩) N N, .bool odd] 59) = W0 at *
  go_region_law (first
    | ((try go_simp); go_at_call 43; refine (HP _).out.mono ?_; rintro e w1 ⟨rfl, rfl⟩)
    | ((try go_simp); go_at_call 70; refine (HE W0.drew (HV _ (show Below w.heap.size w W0.drew from belowDN hb0 1)).out).out.mono ?_; rintro e w3 ⟨v3, rfl, hn3, hb3⟩
       obtain ⟨g3, c3, hv3⟩ := hn3.row4 (by have := HEL.out; omega)
       rw [HEL.out] at hv3
       subst hv3
       have hbA : Below w.heap.size w W0.drew := belowDN hb0 1
       have hbw := below_trans hbA hb3 hbA.size
       obtain ⟨w4, hrun, hm4, hb4⟩ := copy_mem (HM.out.below hbw) 24 (N - 24) (N - 24) g3 0 c3 ys hn3.row HEL.out (by have := HL.out; omega)
       have HM4 := Lib.hid hm4
       have HB4 := Lib.hid ((grown_any (some g) hbw).trans hb4)
       clear hm4 hb4 hn3))
  all_goals
    go_end0
    exact ⟨⟨_, rfl⟩, HM4.out, HB4.out⟩
theorem splice_at {α : Type} (A R B : List α) : splice (A ++ R) A.length B = A ++ (B ++ R.drop B.length) := by
  unfold splice
  rw [List.take_left, List.drop_append, List.drop_eq_nil_of_le (Nat.le_add_right _ _), Nat.add_sub_cancel_left, List.nil_append]
theorem splice_three {α : Type} (L A B C : List α) (hl : L.length = A.length + B.length + C.length) : splice (splice (splice L 0 A) A.length B) (A.length + B.length) C = (A ++ B) ++ C := by
  have e1 : splice L 0 A = A ++ L.drop A.length := by
    have := splice_at [] L A
    simpa using this
  rw [e1, splice_at, ← List.append_assoc, ← List.length_append, splice_at]
  rw [List.drop_eq_nil_of_le (by rw [List.length_drop, List.length_drop]; omega), List.append_nil]
/-- The samples of a line. -/
def lineL (cs : List C3) (odd : Bool) : List Nat := (List.replicate 8 3263168512 ++ enc (oddRow (bcells 4) odd)) ++ enc (oddRow cs odd)
theorem lineL_len (cs : List C3) (odd : Bool) : (lineL cs odd).length = 24 + 4 * cs.length := by
  unfold lineL
  rw [List.length_append, List.length_append, enc_len, enc_len, oddRow_len, oddRow_len, bcells_len, List.length_replicate]
theorem lineL_splice (L : List Value) (cs : List C3) (odd : Bool) (hl : L.length = 24 + 4 * cs.length) :
    splice (splice (splice L 0 (fl (List.replicate 8 3263168512))) 8 (fl (enc (oddRow (bcells 4) odd)))) 24 (fl (enc (oddRow cs odd))) = fl (lineL cs odd) := by
  have h1 : (fl (List.replicate 8 3263168512)).length = 8 := by rw [fl_len, List.length_replicate]
  have h2 : (fl (enc (oddRow (bcells 4) odd))).length = 16 := by rw [fl_len, enc_len, oddRow_len, bcells_len]
  have h3 : (fl (enc (oddRow cs odd))).length = 4 * cs.length := by rw [fl_len, enc_len, oddRow_len]
  have := splice_three L _ _ _ (show L.length = (fl (List.replicate 8 3263168512)).length + (fl (enc (oddRow (bcells 4) odd))).length + (fl (enc (oddRow cs odd))).length by rw [h1, h2, h3, hl])
  rw [h1, h2] at this
  rw [this]
  simp [fl, lineL]
theorem Mem.new {w : World} {base g N : Nat} {xs : List Nat} (h : Mem w g (fl xs)) (hn : xs.length = N) (hb : base ≤ g) : FNew w base (.slice (some ⟨g, 0, none⟩) N N) xs := by
  refine MadeF.new ⟨_, h, by rw [List.size_toArray, fl_len]; omega, fun i hi _ => ?_⟩ hn hb
  rw [List.getElem?_toArray, fl, List.getElem?_map, List.getElem?_eq_getElem hi]; rfl
theorem make_line (n : Nat) (hn : n ≤ 1000000000) (W : World) : (Instr.makeSlice 48 (.int .i64 (n : Int)) (.int .i64 (n : Int))).run Try.prog W = .ok (.slice (some ⟨W.heap.size, 0, none⟩) n n) (W.alloc (.cells (madeCells #[.float .f32 0] n) 52)) := by
  obtain ⟨i0, hi, hz0, hz1, hz2⟩ := info_parts info_f32
  have h := run_make (P := Try.prog) W 48 52 i0 _ Try.underlying48 hi hz0 .i64 .i64 n n (by omega) (by omega) (by rw [hz2]; omega) (by omega)
  rw [hz1] at h
  simpa [Value.cells] using h
set_option maxHeartbeats 2000000 in
set_option maxRecDepth 100000 in
theorem makeLine_any (v : Value) (cs : List C3) (odd : Bool) (w : World) (h : RowV w v cs) (hf : Fit cs) (hr : rok cs = true) :
    Calls Try.prog 21 #[v, .bool odd] w fun e w' => GotF (lineL cs odd) w e w' := by
  have h1 := (rok_iff.1 hr).1
  have HRO := Lib.hid (rowOk_any v cs w h (by omega))
  rw [hr] at HRO
  obtain ⟨N, hN⟩ : ∃ N, 24 + 4 * cs.length = N := ⟨_, rfl⟩
  have HV := fun W (hb : Below w.heap.size w W) => Lib.hid (h.below hb)
  have HSP := fun (L : List Value) (hl : L.length = N) => Lib.hid (lineL_splice L cs odd (by omega))
  have HLN := Lib.hid (show (lineL cs odd).length = N by rw [lineL_len]; exact hN)
  obtain ⟨a, c, rfl⟩ : ∃ a c, v = .slice a cs.length c := by
    rcases h with ⟨_, e⟩ | ⟨g, o, cap, e, _⟩
    · subst e; simp at h1
    · exact ⟨_, _, e⟩
  have hNi : (24 : Int) + 4 * (cs.length : Int) = (N : Int) := by omega
  clear h
  go_enter Try.func21, Try.ntmps21
  go_wp2_with fail
  refine HRO.out.mono ?_
  rintro e w1 ⟨rfl, hb1⟩
  have hmk := make_line N (by omega) w1
  have hm0 : Mem (w1.alloc (.cells (madeCells #[.float .f32 0] N) 52)) w1.heap.size (madeCells #[.float .f32 0] N).toList := by
    unfold Mem
    rw [Array.toArray_toList]
    exact heap_alloc_new w1 _
  have hbA : Below w.heap.size w (w1.alloc (.cells (madeCells #[.float .f32 0] N) 52)) := hb1.alloc hb1.size _
  have hl0 : (madeCells #[.float .f32 0] N).toList.length = N := by rw [Array.length_toList, size_madeCells]
  have hsA : (w1.alloc (.cells (madeCells #[.float .f32 0] N) 52)).heap.size = w1.heap.size + 1 := by simp
  have hgw : w.heap.size ≤ w1.heap.size := hb1.size
  generalize (madeCells #[.float .f32 0] N).toList = L0 at *
  generalize w1.alloc (.cells (madeCells #[.float .f32 0] N) 52) = wA at *
  generalize w1.heap.size = g at *
  have c0 := litB0 wA (.slice (some ⟨g, 0, none⟩) N N) (.bool odd) 59
  have c1 := litB1 wA (.slice (some ⟨g, 0, none⟩) N N) (.bool odd) 59
  have hbB : Below w.heap.size w (wA.alloc (.cells #[.slice (some ⟨g, 0, none⟩) N N, .bool odd] 59)) := hbA.alloc hbA.size _
  have hmB := hm0.below ((Below.refl wA.heap.size wA).alloc (Nat.le_refl _) (.cells #[.slice (some ⟨g, 0, none⟩) N N, .bool odd] 59))
  go_wp2_with fail
  rw [hsA] at c0 c1
  generalize wA.alloc (.cells #[.slice (some ⟨g, 0, none⟩) N N, .bool odd] 59) = wB at *
  clear hm0 hbA hmk
  refine (putPulse_any g N odd L0 _ hmB hl0 (by omega) (by omega)).mono ?_
  rintro e w2 ⟨⟨r2, rfl⟩, hm2, hg2⟩
  have hl2 : (splice L0 0 (fl (List.replicate 8 3263168512))).length = N := (length_splice _ _ _ (by rw [fl_len, List.length_replicate]; omega)).trans hl0
  have p0 := hg2.cell c0 (by simp)
  have p1 := hg2.cell c1 (by simp)
  have tb2 : Below w.heap.size w w2 := hbB.grown hg2 hbB.size (fun r hr => by cases hr; exact hgw)
  clear hmB hg2 c0 c1 hbB
  have hsl := (HSP L0 hl0).out
  clear hl0 HSP
  generalize splice L0 0 (fl (List.replicate 8 3263168512)) = L1 at *
  go_wp2_with fail
  refine (putBurst_any g N odd L1 _ hm2 hl2 (by omega) (by omega)).mono ?_
  rintro e w3 ⟨⟨r3, rfl⟩, hm3, hg3⟩
  have hl3 : (splice L1 8 (fl (enc (oddRow (bcells 4) odd)))).length = N := (length_splice _ _ _ (by rw [fl_len, enc_len, oddRow_len, bcells_len]; omega)).trans hl2
  have q0 := hg3.cell p0 (by simp)
  have q1 := hg3.cell p1 (by simp)
  have tb3 : Below w.heap.size w w3 := tb2.grown hg3 tb2.size (fun r hr => by cases hr; exact hgw)
  clear hm2 hg3 p0 p1 hl2
  generalize splice L1 8 (fl (enc (oddRow (bcells 4) odd))) = L2 at *
  go_wp2_with fail
  refine (putCells_any g N odd L2 _ cs _ hm3 hl3 hN (by omega) (HV _ tb3).out hf hr).mono ?_
  rintro e w4 ⟨⟨r4, rfl⟩, hm4, hg4⟩
  rw [hsl] at hm4
  have s0 := hg4.cell q0 (by simp)
  have s1 := hg4.cell q1 (by simp)
  have tb4 : Below w.heap.size w w4 := tb3.grown hg4 tb3.size (fun r hr => by cases hr; exact hgw)
  have HNW := Lib.hid (hm4.new HLN.out hgw)
  clear hm3 hg4 q0 q1 hl3 hsl hm4
  go_wp2
  go_ret
  exact GotF.mk HNW.out tb4
end Go.Proofs.Ytjccnmnhgahlfaa
