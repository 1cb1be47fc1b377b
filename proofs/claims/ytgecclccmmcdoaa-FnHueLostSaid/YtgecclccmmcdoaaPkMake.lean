/-
  What is proved: the walks of slices.Repeat for one sample eight times, and for one cell four times.
  Conditions: none.
-/
import Derived.Test.YtgecclccmmcdoaaPkLine
import Derived.Test.YtgecclccmmcdoaaFill
import Derived.Test.YtgecclccmmcdoaaDrawLine
import Derived.Test.YtgecclccmmcdoaaDecode
import Derived.Test.YtgecclccmmcdoaaEncCells
namespace Go.Proofs.Ytgecclccmmcdoaa
set_option linter.unusedVariables false
open Go.RowKit
attribute [local go_sem] run_store_float run_store_complex unary_negf neg256

set_option maxRecDepth 100000 in
theorem mul8_any (w : World) : Calls Try.prog 131 #[.int .u64 1, .int .u64 8] w fun e w' => e = .returned (.tuple #[.int .u64 0, .int .u64 8]) ∧ w = w' := by
  go_enter Try.func131, Try.ntmps131
  go_wp2
  go_ret2
  exact ⟨rfl, rfl⟩
set_option maxRecDepth 100000 in
theorem mul4_any (w : World) : Calls Try.prog 131 #[.int .u64 1, .int .u64 4] w fun e w' => e = .returned (.tuple #[.int .u64 0, .int .u64 4]) ∧ w = w' := by
  go_enter Try.func131, Try.ntmps131
  go_wp2
  go_ret2
  exact ⟨rfl, rfl⟩
theorem f32_size : (Try.prog.info? 26).map (·.size) = some 1 := by kernel_rfl
theorem cell_size : (Try.prog.info? 40).map (·.size) = some 2 := by kernel_rfl
def fpat (z : Nat) : List Value := [.float .f32 z]
theorem fpat_one (z : Nat) : ∀ v ∈ fpat z, v.oneCell' = true := by
  intro v hv
  obtain rfl := List.mem_singleton.1 hv
  rfl
theorem fpat_src {w : World} {gx z : Nat} (h : w.cell? ⟨gx, 0, none⟩ = some (.float .f32 z)) : ∀ j v, (fills (fpat z) 1)[j]? = some v → w.cell? ((⟨gx, 0, none⟩ : Addr).add j) = some v := by
  intro j v hj
  have hl : j < 1 := (List.getElem?_eq_some_iff.1 hj).1
  obtain rfl : j = 0 := by omega
  have e : Value.float .f32 z = v := by simpa [fills, fpat] using hj
  rw [← e]
  exact h
theorem Fill.row {w : World} {g n z : Nat} (h : Fill 26 (fpat z) w g n n) : FRow w (.slice (some ⟨g, 0, none⟩) n n) (List.replicate n z) := by
  refine .inr ⟨g, 0, n, by simp, by simp, fun i hi => ?_⟩
  have hin : i < n := by simpa using hi
  have hg : ∀ m i, i < m → (fills (fpat z) m)[i]? = some (.float .f32 z) := by
    intro m
    induction m with
    | zero => intro i h; omega
    | succ m ih =>
      intro i hi
      cases i with
      | zero => rfl
      | succ i =>
        show (fpat z ++ fills (fpat z) m)[i + 1]? = _
        rw [List.getElem?_append_right (by simp [fpat])]
        exact ih i (by omega)
  have := h.cell (Nat.le_refl n) i _ (hg n i hin)
  have hadd : (⟨g, 0, none⟩ : Addr).add i = ⟨g, i, none⟩ := by unfold Addr.add; split <;> simp_all
  rw [hadd] at this
  rw [Nat.zero_add, this]
  simp
set_option maxHeartbeats 1000000 in
set_option maxRecDepth 100000 in
theorem repeat8_any (z gx : Nat) (w : World) (h : w.cell? ⟨gx, 0, none⟩ = some (.float .f32 z)) :
    Calls Try.prog 97 #[.slice (some ⟨gx, 0, none⟩) 1 1, .int .i64 8] w fun e w' => ∃ g, e = .returned (.slice (some ⟨g, 0, none⟩) 8 8) ∧ FRow w' (.slice (some ⟨g, 0, none⟩) 8 8) (List.replicate 8 z) ∧ Below w.heap.size w w' := by
  have HM := fun W => Lib.hid (mul8_any W)
  obtain ⟨w1, hw1⟩ : ∃ w1, w.alloc (.cells (madeCells #[.float .f32 0] 8) 26) = w1 := ⟨_, rfl⟩
  have hmk : (Instr.makeSlice 32 (.int .i64 8) (.int .i64 8)).run Try.prog w = .ok (.slice (some ⟨w.heap.size, 0, none⟩) 8 8) w1 := by rw [← hw1]; exact make_floats 8 (by decide) w
  have HF := Lib.hid (show Fill 26 (fpat z) (w.alloc (.cells (madeCells #[.float .f32 0] 8) 26)) w.heap.size 0 8 from Fill.start w #[.float .f32 0] 8 rfl)
  have HX := Lib.hid (show (w.alloc (.cells (madeCells #[.float .f32 0] 8) 26)).cell? ⟨gx, 0, none⟩ = some (.float .f32 z) from (grown_of ((Below.refl w.heap.size w).alloc (Nat.le_refl _) _)).cell h (by simp))
  have hbel := (Below.refl w.heap.size w).alloc (Nat.le_refl _) (.cells (madeCells #[.float .f32 0] 8) 26)
  rw [hw1] at HF HX hbel
  clear h hw1
  go_enter Try.func97, Try.ntmps97
  go_wp2_with fail
  refine (HM _).out.mono ?_
  rintro e w2 ⟨rfl, rfl⟩
  go_wp2_with (refine wpList_fill rfl (.tmp 31) (.tmp 32) 32 32 rfl 26 Try.underlying32 (fpat z) f32_size (fpat_one z) w.heap.size 0 0 1 8 8 8 ⟨gx, 0, none⟩ 1 1 rfl rfl 26 HF.out rfl rfl (by decide) (fpat_src HX.out) ?_; intro w2 hf2 hb2)
  have HF2 := Lib.hid hf2
  have hbel2 := hb2 _ _ hbel (Nat.le_refl _)
  clear hb2 hbel HF HX hmk hf2
  go_wp2
  go_loopw [8] (fun n wr => ∃ k : Nat, (k = 1 ∨ k = 2 ∨ k = 4 ∨ k = 8) ∧ n = .int .i64 (k : Int) ∧ Below w.heap.size w wr ∧ Fill 26 (fpat z) wr w.heap.size k 8) (fun n _ => 8 - (intOf n).toNat)
  case atStart => exact ⟨1, .inl rfl, rfl, hbel2, HF2.out⟩
  case round =>
    obtain ⟨k, hk, rfl, hb, hf⟩ := hrel
    have HK := Lib.hid hf
    clear hf HF2
    rcases hk with rfl | rfl | rfl | rfl
    · obtain ⟨w3, hrun0, hf3, hb3⟩ := fill_run (P := Try.prog) (w := wr.drew) 32 32 3 26 Try.underlying32 (fpat z) f32_size (fpat_one z) w.heap.size 1 1 1 8 7 7 ⟨w.heap.size, 0, none⟩ 1 8 26 (HK.out.kept (w' := wr.drew) rfl) rfl rfl (by decide) ((HK.out.kept (w' := wr.drew) rfl).cell (Nat.le_refl _))
      have hrun : (Builtin.copy_ #[32, 32] 3 #[.slice (some ⟨w.heap.size, 1, none⟩) 7 7, .slice (some ⟨w.heap.size, 0, none⟩) 1 8]).run Try.prog wr.drew = .ok (.int .i64 1) w3 := hrun0
      have HF3 := Lib.hid hf3
      have hbw := hb3 _ _ (show Below w.heap.size w wr.drew from belowDN hb 1) (Nat.le_refl _)
      clear hrun0 hf3 hb3 HK
      go_wp2
      go_region
      go_wp2
      go_roundw
      case rel => exact ⟨2, .inr (.inl rfl), rfl, hbw, HF3.out⟩
      case measure => simp [intOf]
    · obtain ⟨w3, hrun0, hf3, hb3⟩ := fill_run (P := Try.prog) (w := wr.drew) 32 32 3 26 Try.underlying32 (fpat z) f32_size (fpat_one z) w.heap.size 2 2 2 8 6 6 ⟨w.heap.size, 0, none⟩ 2 8 26 (HK.out.kept (w' := wr.drew) rfl) rfl rfl (by decide) ((HK.out.kept (w' := wr.drew) rfl).cell (Nat.le_refl _))
      have hrun : (Builtin.copy_ #[32, 32] 3 #[.slice (some ⟨w.heap.size, 2, none⟩) 6 6, .slice (some ⟨w.heap.size, 0, none⟩) 2 8]).run Try.prog wr.drew = .ok (.int .i64 2) w3 := hrun0
      have HF3 := Lib.hid hf3
      have hbw := hb3 _ _ (show Below w.heap.size w wr.drew from belowDN hb 1) (Nat.le_refl _)
      clear hrun0 hf3 hb3 HK
      go_wp2
      go_region
      go_wp2
      go_roundw
      case rel => exact ⟨4, .inr (.inr (.inl rfl)), rfl, hbw, HF3.out⟩
      case measure => simp [intOf]
    · obtain ⟨w3, hrun0, hf3, hb3⟩ := fill_run (P := Try.prog) (w := wr.drew) 32 32 3 26 Try.underlying32 (fpat z) f32_size (fpat_one z) w.heap.size 4 4 4 8 4 4 ⟨w.heap.size, 0, none⟩ 4 8 26 (HK.out.kept (w' := wr.drew) rfl) rfl rfl (by decide) ((HK.out.kept (w' := wr.drew) rfl).cell (Nat.le_refl _))
      have hrun : (Builtin.copy_ #[32, 32] 3 #[.slice (some ⟨w.heap.size, 4, none⟩) 4 4, .slice (some ⟨w.heap.size, 0, none⟩) 4 8]).run Try.prog wr.drew = .ok (.int .i64 4) w3 := hrun0
      have HF3 := Lib.hid hf3
      have hbw := hb3 _ _ (show Below w.heap.size w wr.drew from belowDN hb 1) (Nat.le_refl _)
      clear hrun0 hf3 hb3 HK
      go_wp2
      go_region
      go_wp2
      go_roundw
      case rel => exact ⟨8, .inr (.inr (.inr rfl)), rfl, hbw, HF3.out⟩
      case measure => simp [intOf]
    · go_wp2
      go_ret
      exact ⟨_, rfl, HK.out.row, hb⟩
def cpat (y u v : Nat) : List Value := [.float .f32 y, .complex .f32 u v]
theorem cell_size2 : (Try.prog.info? 40).map (·.size) = some 2 := by kernel_rfl
theorem cpat_one (y u v : Nat) : ∀ x ∈ cpat y u v, x.oneCell' = true := by
  intro x hx
  rcases List.mem_cons.1 hx with rfl | hx
  · rfl
  · obtain rfl := List.mem_singleton.1 hx
    rfl
theorem cpat_src {w : World} {gx y u v : Nat} (h : w.cell? ⟨gx, 0, none⟩ = some (.float .f32 y)) (h2 : w.cell? ⟨gx, 1, none⟩ = some (.complex .f32 u v)) : ∀ j x, (fills (cpat y u v) 1)[j]? = some x → w.cell? ((⟨gx, 0, none⟩ : Addr).add j) = some x := by
  intro j x hj
  have hl : j < 2 := (List.getElem?_eq_some_iff.1 hj).1
  rcases (by omega : j = 0 ∨ j = 1) with rfl | rfl
  · have e : Value.float .f32 y = x := by simpa [fills, cpat] using hj
    rw [← e]
    exact h
  · have e : Value.complex .f32 u v = x := by simpa [fills, cpat] using hj
    rw [← e]
    exact h2
theorem Fill.rowC {w : World} {g n y u v : Nat} (h : Fill 40 (cpat y u v) w g n n) : RowV w (.slice (some ⟨g, 0, none⟩) n n) (List.replicate n (y, u, v)) := by
  refine .inr ⟨g, 0, n, by simp, by simp, fun i hi => ?_⟩
  have hin : i < n := by simpa using hi
  have hg : ∀ m i, i < m → (fills (cpat y u v) m)[i * 2]? = some (.float .f32 y) ∧ (fills (cpat y u v) m)[i * 2 + 1]? = some (.complex .f32 u v) := by
    intro m
    induction m with
    | zero => intro i h; omega
    | succ m ih =>
      intro i hi
      cases i with
      | zero => exact ⟨rfl, rfl⟩
      | succ i =>
        obtain ⟨a, b⟩ := ih i (by omega)
        constructor
        · show (cpat y u v ++ fills (cpat y u v) m)[(i + 1) * 2]? = _
          rw [List.getElem?_append_right (by show 2 ≤ _; omega), show (i + 1) * 2 - (cpat y u v).length = i * 2 by show (i + 1) * 2 - 2 = i * 2; omega]
          exact a
        · show (cpat y u v ++ fills (cpat y u v) m)[(i + 1) * 2 + 1]? = _
          rw [List.getElem?_append_right (by show 2 ≤ _; omega), show (i + 1) * 2 + 1 - (cpat y u v).length = i * 2 + 1 by show (i + 1) * 2 + 1 - 2 = i * 2 + 1; omega]
          exact b
  obtain ⟨a, b⟩ := hg n i hin
  have k1 := h.cell (Nat.le_refl n) _ _ a
  have k2 := h.cell (Nat.le_refl n) _ _ b
  have hadd : ∀ j, (⟨g, 0, none⟩ : Addr).add j = ⟨g, j, none⟩ := by intro j; unfold Addr.add; split <;> simp_all
  rw [hadd] at k1 k2
  rw [Nat.zero_add, k1, k2]
  simp
set_option maxHeartbeats 1000000 in
set_option maxRecDepth 100000 in
theorem repeat4_any (y u v gx : Nat) (w : World) (h : w.cell? ⟨gx, 0, none⟩ = some (.float .f32 y)) (h2 : w.cell? ⟨gx, 1, none⟩ = some (.complex .f32 u v)) :
    Calls Try.prog 100 #[.slice (some ⟨gx, 0, none⟩) 1 1, .int .i64 4] w fun e w' => ∃ g, e = .returned (.slice (some ⟨g, 0, none⟩) 4 4) ∧ RowV w' (.slice (some ⟨g, 0, none⟩) 4 4) (List.replicate 4 (y, u, v)) ∧ Below w.heap.size w w' := by
  have HM := fun W => Lib.hid (mul4_any W)
  obtain ⟨w1, hw1⟩ : ∃ w1, w.alloc (.cells (madeCells #[.float .f32 0, .complex .f32 0 0] (4 * 2)) 40) = w1 := ⟨_, rfl⟩
  have hmk : (Instr.makeSlice 36 (.int .i64 4) (.int .i64 4)).run Try.prog w = .ok (.slice (some ⟨w.heap.size, 0, none⟩) 4 4) w1 := by rw [← hw1]; exact make_cells 4 (by decide) w
  have HF := Lib.hid (show Fill 40 (cpat y u v) (w.alloc (.cells (madeCells #[.float .f32 0, .complex .f32 0 0] (4 * 2)) 40)) w.heap.size 0 4 from Fill.start w #[.float .f32 0, .complex .f32 0 0] 4 rfl)
  have HX := Lib.hid (show (w.alloc (.cells (madeCells #[.float .f32 0, .complex .f32 0 0] (4 * 2)) 40)).cell? ⟨gx, 0, none⟩ = some (.float .f32 y) from (grown_of ((Below.refl w.heap.size w).alloc (Nat.le_refl _) _)).cell h (by simp))
  have HX2 := Lib.hid (show (w.alloc (.cells (madeCells #[.float .f32 0, .complex .f32 0 0] (4 * 2)) 40)).cell? ⟨gx, 1, none⟩ = some (.complex .f32 u v) from (grown_of ((Below.refl w.heap.size w).alloc (Nat.le_refl _) _)).cell h2 (by simp))
  have hbel := (Below.refl w.heap.size w).alloc (Nat.le_refl _) (.cells (madeCells #[.float .f32 0, .complex .f32 0 0] (4 * 2)) 40)
  rw [hw1] at HF HX HX2 hbel
  clear h h2 hw1
  go_enter Try.func100, Try.ntmps100
  go_wp2_with fail
  refine (HM _).out.mono ?_
  rintro e w2 ⟨rfl, rfl⟩
  go_wp2_with (refine wpList_fill rfl (.tmp 31) (.tmp 32) 36 36 rfl 40 Try.underlying36 (cpat y u v) cell_size2 (cpat_one y u v) w.heap.size 0 0 1 4 4 4 ⟨gx, 0, none⟩ 1 1 rfl rfl 40 HF.out rfl rfl (by decide) (cpat_src HX.out HX2.out) ?_; intro w2 hf2 hb2)
  have HF2 := Lib.hid hf2
  have hbel2 := hb2 _ _ hbel (Nat.le_refl _)
  clear hb2 hbel HF HX HX2 hmk hf2
  go_wp2
  go_loopw [8] (fun n wr => ∃ k : Nat, (k = 1 ∨ k = 2 ∨ k = 4) ∧ n = .int .i64 (k : Int) ∧ Below w.heap.size w wr ∧ Fill 40 (cpat y u v) wr w.heap.size k 4) (fun n _ => 4 - (intOf n).toNat)
  case atStart => exact ⟨1, .inl rfl, rfl, hbel2, HF2.out⟩
  case round =>
    obtain ⟨k, hk, rfl, hb, hf⟩ := hrel
    have HK := Lib.hid hf
    clear hf HF2
    rcases hk with rfl | rfl | rfl
    · obtain ⟨w3, hrun0, hf3, hb3⟩ := fill_run (P := Try.prog) (w := wr.drew) 36 36 3 40 Try.underlying36 (cpat y u v) cell_size2 (cpat_one y u v) w.heap.size 2 1 1 4 3 3 ⟨w.heap.size, 0, none⟩ 1 4 40 (HK.out.kept (w' := wr.drew) rfl) rfl rfl (by decide) ((HK.out.kept (w' := wr.drew) rfl).cell (Nat.le_refl _))
      have hrun : (Builtin.copy_ #[36, 36] 3 #[.slice (some ⟨w.heap.size, 2, none⟩) 3 3, .slice (some ⟨w.heap.size, 0, none⟩) 1 4]).run Try.prog wr.drew = .ok (.int .i64 1) w3 := hrun0
      have HF3 := Lib.hid hf3
      have hbw := hb3 _ _ (show Below w.heap.size w wr.drew from belowDN hb 1) (Nat.le_refl _)
      clear hrun0 hf3 hb3 HK
      go_wp2
      go_region
      go_wp2
      go_roundw
      case rel => exact ⟨2, .inr (.inl rfl), rfl, hbw, HF3.out⟩
      case measure => simp [intOf]
    · obtain ⟨w3, hrun0, hf3, hb3⟩ := fill_run (P := Try.prog) (w := wr.drew) 36 36 3 40 Try.underlying36 (cpat y u v) cell_size2 (cpat_one y u v) w.heap.size 4 2 2 4 2 2 ⟨w.heap.size, 0, none⟩ 2 4 40 (HK.out.kept (w' := wr.drew) rfl) rfl rfl (by decide) ((HK.out.kept (w' := wr.drew) rfl).cell (Nat.le_refl _))
      have hrun : (Builtin.copy_ #[36, 36] 3 #[.slice (some ⟨w.heap.size, 4, none⟩) 2 2, .slice (some ⟨w.heap.size, 0, none⟩) 2 4]).run Try.prog wr.drew = .ok (.int .i64 2) w3 := hrun0
      have HF3 := Lib.hid hf3
      have hbw := hb3 _ _ (show Below w.heap.size w wr.drew from belowDN hb 1) (Nat.le_refl _)
      clear hrun0 hf3 hb3 HK
      go_wp2
      go_region
      go_wp2
      go_roundw
      case rel => exact ⟨4, .inr (.inr rfl), rfl, hbw, HF3.out⟩
      case measure => simp [intOf]
    · go_wp2
      go_ret
      exact ⟨_, rfl, HK.out.rowC, hb⟩
end Go.Proofs.Ytgecclccmmcdoaa

/-
  What is proved: the walk of MakeLine.
  Conditions: the row can be read.
-/
namespace Go.Proofs.Ytgecclccmmcdoaa
set_option linter.unusedVariables false
open Go.RowKit
attribute [local go_sem] run_store_float run_store_complex unary_negf neg256

/-- Block g holds these cells. -/
def Mem (w : World) (g : Nat) (L : List Value) : Prop := w.heap[g]? = some (.cells L.toArray 26 (0, 0))
def fl (xs : List Nat) : List Value := xs.map (.float .f32)
theorem fl_len (xs : List Nat) : (fl xs).length = xs.length := by simp [fl]
theorem grown_setRow (w : World) (g : Nat) (cs : Array Value) : w.grownBy (w.setRow g cs) (some g) := ⟨rfl, rfl, rfl, by simp [World.setRow], fun k hk hne => setRow_other w g k cs (fun e => hne (by rw [e]))⟩
theorem grown_any {w w' : World} (row : Option Nat) (hb : Below w.heap.size w w') : w.grownBy w' row := ⟨hb.os, hb.tape, hb.output, hb.size, fun k hk _ => hb.block k hk⟩
theorem copy_mem {w : World} {g : Nat} {L : List Value} (h : Mem w g L) (off m dcap g' o' c : Nat) (ys : List Nat) (hy : FRow w (.slice (some ⟨g', o', none⟩) m c) ys) (hm : ys.length = m) (hf : off + m ≤ L.length) :
    ∃ w', (Builtin.copy_ #[32, 32] 3 #[.slice (some ⟨g, off, none⟩) m dcap, .slice (some ⟨g', o', none⟩) m c]).run Try.prog w = .ok (.int .i64 (m : Int)) w' ∧ Mem w' g (splice L off (fl ys)) ∧ w.grownBy w' (some g) := by
  have hc := hy.cells
  have hrun := run_copy_row (P := Try.prog) w 32 32 3 26 g off m dcap ⟨g', o', none⟩ m c L.toArray 26 (fl ys) Try.underlying32 f32_size h (by rw [fl_len, hm]; exact (Nat.min_self m).symm)
    (fun j v hj => by
      have hadd : (⟨g', o', none⟩ : Addr).add j = ⟨g', o' + j, none⟩ := by unfold Addr.add; split <;> simp_all
      have hl : j < ys.length := by have := (List.getElem?_eq_some_iff.1 hj).1; rwa [fl_len] at this
      rw [hadd, hc j hl]
      rw [fl, List.getElem?_map, List.getElem?_eq_getElem hl] at hj
      exact hj)
    (by rw [fl_len, hm]; simpa using hf) (fun v hv => by obtain ⟨x, _, rfl⟩ := List.mem_map.1 hv; rfl)
  refine ⟨_, by rw [fl_len, hm] at hrun; exact hrun, ?_, grown_setRow w g _⟩
  unfold Mem
  rw [setRow_heap w g _ _ 26 _ h]
  simp [splice, fl_len, hm]
theorem Mem.kept {w w' : World} {g : Nat} {L : List Value} (h : Mem w g L) (hb : w'.heap[g]? = w.heap[g]?) : Mem w' g L := hb.trans h
theorem Mem.lt {w : World} {g : Nat} {L : List Value} (h : Mem w g L) : g < w.heap.size := (Array.getElem?_eq_some_iff.1 h).1
theorem Mem.below {w w' : World} {g : Nat} {L : List Value} (h : Mem w g L) (hb : Below w.heap.size w w') : Mem w' g L := h.kept ((grown_of hb).block g (Array.getElem?_eq_some_iff.1 h).1 (by simp))
theorem lit_cell2 (z : Nat) (w : World) (o : Obj) : ((w.alloc o).alloc (.cells #[.float .f32 z] 26)).cell? ⟨w.heap.size + 1, 0, none⟩ = some (.float .f32 z) := by
  have h := lit_cell z (w.alloc o)
  rwa [show (w.alloc o).heap.size = w.heap.size + 1 by simp] at h
theorem litC0 (W : World) (y u v : Nat) : (W.alloc (.cells #[.float .f32 y, .complex .f32 u v] 40)).cell? ⟨W.heap.size, 0, none⟩ = some (.float .f32 y) :=
  (cell_of_row _ _ 0 _ _ _ (heap_alloc_new W _)).trans rfl
theorem litC1 (W : World) (y u v : Nat) : (W.alloc (.cells #[.float .f32 y, .complex .f32 u v] 40)).cell? ⟨W.heap.size, 1, none⟩ = some (.complex .f32 u v) :=
  (cell_of_row _ _ 1 _ _ _ (heap_alloc_new W _)).trans rfl
theorem litA0 (W : World) (x y : Value) (o : Obj) (t : TypeId) : ((W.alloc (.cells #[x, y] t)).alloc o).cell? ⟨W.heap.size, 0, none⟩ = some x :=
  (cell_of_row _ _ 0 _ _ _ ((Below.heap_alloc _ _ _ (by simp)).trans (heap_alloc_new W _))).trans rfl
theorem litA1 (W : World) (x y : Value) (o : Obj) (t : TypeId) : ((W.alloc (.cells #[x, y] t)).alloc o).cell? ⟨W.heap.size, 1, none⟩ = some y :=
  (cell_of_row _ _ 1 _ _ _ ((Below.heap_alloc _ _ _ (by simp)).trans (heap_alloc_new W _))).trans rfl
/-- What a walk that writes into a line leaves. -/
def PutM (g : Nat) (L' : List Value) (w : World) (e : Ending) (w' : World) : Prop := (∃ v, e = .returned v) ∧ Mem w' g L' ∧ w.grownBy w' (some g)
set_option maxHeartbeats 1000000 in
set_option maxRecDepth 100000 in
theorem putPulse_any (g N : Nat) (odd : Bool) (L : List Value) (w : World) (hm : Mem w g L) (hl : L.length = N) (hN : 28 ≤ N) (hN2 : N ≤ 1000) :
    Calls Try.prog 54 #[.agg #[.slice (some ⟨g, 0, none⟩) N N, .bool odd]] w fun e w' => PutM g (splice L 0 (fl (List.replicate 8 3263168512))) w e w' := by
  have HP := fun W => Lib.hid (pulse_any g 0 N N W (by omega) (Nat.le_refl _) (by omega))
  have HM := Lib.hid hm
  have HL := Lib.hid hl
  clear hm hl
  go_enter Try.func54, Try.ntmps54
  go_wp2_with fail
  refine (HP _).out.mono ?_
  rintro e w1 ⟨rfl, rfl⟩
  go_wp2_with fail
  refine (repeat8_any 3263168512 _ _ (lit_cell2 3263168512 _ _)).mono ?_
  rintro e w2 ⟨g2, rfl, hr2, hb2⟩
  have hbw : Below w.heap.size w w2 := below_trans (((Below.refl _ _).alloc (Nat.le_refl _) _).alloc (by simp) _) hb2 (by simp; omega)
  obtain ⟨w3, hrun, hm3, hb3⟩ := copy_mem (HM.out.below hbw) 0 8 8 g2 0 8 _ hr2 (by simp) (by have := HL.out; omega)
  have HM3 := Lib.hid hm3
  have HB3 := Lib.hid ((grown_any (some g) hbw).trans hb3)
  clear hr2 hb2 hm3 hb3
  go_wp2
  go_end0
  exact ⟨⟨_, rfl⟩, HM3.out, HB3.out⟩
def oddRow (cs : List C3) (odd : Bool) : List C3 := if odd = true then cs.map cj else cs
theorem oddRow_len (cs : List C3) (odd : Bool) : (oddRow cs odd).length = cs.length := by unfold oddRow; split <;> simp
theorem encode_both (v : Value) (cs : List C3) (odd : Bool) (w : World) (h : RowV w v cs) (hf : Fit cs) (hl : cs.length ≤ 1000000) (hr : rok cs = true) :
    Calls Try.prog 99 #[v, .bool odd] w fun e w' => EncPost (enc (oddRow cs odd)) w e w' := by
  cases odd with
  | false =>
    have := encode_even v cs w h hf hl
    rw [hr] at this
    exact this
  | true =>
    have := encode_odd v cs w h hf hl
    rw [hr] at this
    exact this
theorem bcells_fit : Fit (bcells 4) := by
  intro c hc
  obtain ⟨_, rfl⟩ := List.mem_replicate.1 hc
  exact ⟨by decide, by decide, by decide⟩
theorem FNew.row4 {w : World} {base : Nat} {v : Value} {xs : List Nat} (h : FNew w base v xs) (h0 : 0 < xs.length) : ∃ g c, v = .slice (some ⟨g, 0, none⟩) xs.length c := by
  rcases h with ⟨_, e⟩ | ⟨g, c, e, _⟩
  · subst e; simp at h0
  · exact ⟨g, c, e⟩
set_option maxHeartbeats 1000000 in
set_option maxRecDepth 100000 in
theorem putBurst_any (g N : Nat) (odd : Bool) (L : List Value) (w : World) (hm : Mem w g L) (hl : L.length = N) (hN : 28 ≤ N) (hN2 : N ≤ 1000) :
    Calls Try.prog 55 #[.agg #[.slice (some ⟨g, 0, none⟩) N N, .bool odd]] w fun e w' => PutM g (splice L 8 (fl (enc (oddRow (bcells 4) odd)))) w e w' := by
  have HP := fun W => Lib.hid (burst_any g 0 N N W (by omega) (Nat.le_refl _) (by omega))
  have HE := fun v W h => Lib.hid (encode_both v (bcells 4) odd W h bcells_fit (by simp [bcells]) bcells_ok)
  have HEL := Lib.hid (show (enc (oddRow (bcells 4) odd)).length = 16 by rw [enc_len, oddRow_len, bcells_len])
  have HM := Lib.hid hm
  have HL := Lib.hid hl
  clear hm hl
  generalize enc (oddRow (bcells 4) odd) = ys at *
  have c0 := litA0 w (.slice (some ⟨g, 0, none⟩) N N) (.bool odd) (.cells #[.float .f32 0, .complex .f32 3246391296 1098907648] 40) 82
  have c1 := litA1 w (.slice (some ⟨g, 0, none⟩) N N) (.bool odd) (.cells #[.float .f32 0, .complex .f32 3246391296 1098907648] 40) 82
  have d0 := litC0 (w.alloc (.cells #[.slice (some ⟨g, 0, none⟩) N N, .bool odd] 82)) 0 3246391296 1098907648
  have d1 := litC1 (w.alloc (.cells #[.slice (some ⟨g, 0, none⟩) N N, .bool odd] 82)) 0 3246391296 1098907648
  rw [show (w.alloc (.cells #[.slice (some ⟨g, 0, none⟩) N N, .bool odd] 82)).heap.size = w.heap.size + 1 by simp] at d0 d1
  have hb0 : Below w.heap.size w ((w.alloc (.cells #[.slice (some ⟨g, 0, none⟩) N N, .bool odd] 82)).alloc (.cells #[.float .f32 0, .complex .f32 3246391296 1098907648] 40)) := ((Below.refl _ _).alloc (Nat.le_refl _) _).alloc (by simp) _
  have HC0 := fun (W : World) (h : W.cell? ⟨w.heap.size, 0, none⟩ = some (.slice (some ⟨g, 0, none⟩) N N)) => Lib.hid (show (W.alloc (.cells #[.float .f32 0, .complex .f32 3246391296 1098907648] 40)).cell? ⟨w.heap.size, 0, none⟩ = some (.slice (some ⟨g, 0, none⟩) N N) from (grown_of ((Below.refl W.heap.size W).alloc (Nat.le_refl _) _)).cell h (by simp))
  have HC1 := fun (W : World) (h : W.cell? ⟨w.heap.size, 1, none⟩ = some (.bool odd)) => Lib.hid (show (W.alloc (.cells #[.float .f32 0, .complex .f32 3246391296 1098907648] 40)).cell? ⟨w.heap.size, 1, none⟩ = some (.bool odd) from (grown_of ((Below.refl W.heap.size W).alloc (Nat.le_refl _) _)).cell h (by simp))
  have HLC := fun (W : World) => Lib.hid (And.intro (litC0 W 0 3246391296 1098907648) (litC1 W 0 3246391296 1098907648))
  go_enter Try.func55, Try.ntmps55
  go_wp2_with fail
  generalize (w.alloc (.cells #[.slice (some ⟨g, 0, none⟩) N N, .bool odd] 82)).alloc (.cells #[.float .f32 0, .complex .f32 3246391296 1098907648] 40) = W0 at *
  have e0 := (HC1 W0 c1).out
  have e00 := (HC0 W0 c0).out
  go_region_law (first
    | ((try go_simp); go_at_call 98; refine (HP _).out.mono ?_; rintro e w1 ⟨rfl, rfl⟩)
    | ((try go_simp); go_at_call 100; refine (repeat4_any 0 3246391296 1098907648 W0.heap.size (W0.alloc (.cells #[.float .f32 0, .complex .f32 3246391296 1098907648] 40)).drew (HLC W0).out.1 (HLC W0).out.2).mono ?_; rintro e w2 ⟨g2, rfl, hr2, hb2⟩; have e1 := (grown_of hb2).cell (HC1 W0 c1).out (by simp))
    | ((try go_simp); go_at_call 99; refine (HE _ _ hr2).out.mono ?_; rintro e w3 ⟨v3, rfl, hn3, hb3⟩
       obtain ⟨g3, c3, hv3⟩ := hn3.row4 (by have := HEL.out; omega)
       rw [HEL.out] at hv3
       subst hv3
       have hbA : Below w.heap.size w (W0.alloc (.cells #[.float .f32 0, .complex .f32 3246391296 1098907648] 40)).drew := belowDN (hb0.alloc hb0.size _) 1
       have hbB := below_trans hbA hb2 hbA.size
       have hbw := below_trans hbB hb3 hbB.size
       obtain ⟨w4, hrun, hm4, hb4⟩ := copy_mem (HM.out.below hbw) 8 16 16 g3 0 c3 ys hn3.row HEL.out (by have := HL.out; omega)
       have HM4 := Lib.hid hm4
       have HB4 := Lib.hid ((grown_any (some g) hbw).trans hb4)
       clear hm4 hb4 hn3 hr2))
  all_goals
    go_end0
    exact ⟨⟨_, rfl⟩, HM4.out, HB4.out⟩
end Go.Proofs.Ytgecclccmmcdoaa

/-
  What is proved: the walk of MakeLine.
  Conditions: the row can be read.
-/
namespace Go.Proofs.Ytgecclccmmcdoaa
set_option linter.unusedVariables false
open Go.RowKit
attribute [local go_sem] run_store_float run_store_complex unary_negf neg256

theorem litB0 (W : World) (x y : Value) (t : TypeId) : (W.alloc (.cells #[x, y] t)).cell? ⟨W.heap.size, 0, none⟩ = some x :=
  (cell_of_row _ _ 0 _ _ _ (heap_alloc_new W _)).trans rfl
theorem litB1 (W : World) (x y : Value) (t : TypeId) : (W.alloc (.cells #[x, y] t)).cell? ⟨W.heap.size, 1, none⟩ = some y :=
  (cell_of_row _ _ 1 _ _ _ (heap_alloc_new W _)).trans rfl
set_option maxHeartbeats 1000000 in
set_option maxRecDepth 100000 in
theorem putCells_any (g N : Nat) (odd : Bool) (L : List Value) (v : Value) (cs : List C3) (w : World) (hm : Mem w g L) (hl : L.length = N) (hN : 24 + 4 * cs.length = N) (hN2 : N ≤ 1000) (hv : RowV w v cs) (hf : Fit cs) (hr : rok cs = true) :
    Calls Try.prog 56 #[.agg #[.slice (some ⟨g, 0, none⟩) N N, .bool odd], v] w fun e w' => PutM g (splice L 24 (fl (enc (oddRow cs odd)))) w e w' := by
  have h1 := (rok_iff.1 hr).1.1
  have HP := fun W => Lib.hid (cells_any g 0 N N W (by omega) (Nat.le_refl _) (by omega))
  have HE := fun W h => Lib.hid (encode_both v cs odd W h hf (by omega) hr)
  have HEL := Lib.hid (show (enc (oddRow cs odd)).length = N - 24 by rw [enc_len, oddRow_len]; omega)
  have HM := Lib.hid hm
  have HL := Lib.hid hl
  have HV := fun W (hb : Below w.heap.size w W) => Lib.hid (hv.below hb)
  have hN28 : 28 ≤ N := by omega
  clear hm hl hf hr hv
  generalize enc (oddRow cs odd) = ys at *
  have c0 := litB0 w (.slice (some ⟨g, 0, none⟩) N N) (.bool odd) 82
  have c1 := litB1 w (.slice (some ⟨g, 0, none⟩) N N) (.bool odd) 82
  have hb0 : Below w.heap.size w (w.alloc (.cells #[.slice (some ⟨g, 0, none⟩) N N, .bool odd] 82)) := (Below.refl _ _).alloc (Nat.le_refl _) _
  go_enter Try.func56, Try.ntmps56
  go_wp2_with fail
  generalize w.alloc (.cells #[.slice (some ⟨g, 0, none⟩) N N, .bool odd] 82) = W0 at *
  go_region_law (first
    | ((try go_simp); go_at_call 101; refine (HP _).out.mono ?_; rintro e w1 ⟨rfl, rfl⟩)
    | ((try go_simp); go_at_call 99; refine (HE W0.drew (HV _ (show Below w.heap.size w W0.drew from belowDN hb0 1)).out).out.mono ?_; rintro e w3 ⟨v3, rfl, hn3, hb3⟩
       obtain ⟨g3, c3, hv3⟩ := hn3.row4 (by have := HEL.out; omega)
       rw [HEL.out] at hv3
       subst hv3
       have hbA : Below w.heap.size w W0.drew := belowDN hb0 1
       have hbw := below_trans hbA hb3 hbA.size
       obtain ⟨w4, hrun, hm4, hb4⟩ := copy_mem (HM.out.below hbw) 24 (N - 24) (N - 24) g3 0 c3 ys hn3.row HEL.out (by have := HL.out; omega)
       have HM4 := Lib.hid hm4
       have HB4 := Lib.hid ((grown_any (some g) hbw).trans hb4)
       clear hm4 hb4 hn3))
  all_goals
    go_end0
    exact ⟨⟨_, rfl⟩, HM4.out, HB4.out⟩
theorem splice_at {α : Type} (A R B : List α) : splice (A ++ R) A.length B = A ++ (B ++ R.drop B.length) := by
  unfold splice
  rw [List.take_left, List.drop_append, List.drop_eq_nil_of_le (Nat.le_add_right _ _), Nat.add_sub_cancel_left, List.nil_append]
theorem splice_three {α : Type} (L A B C : List α) (hl : L.length = A.length + B.length + C.length) : splice (splice (splice L 0 A) A.length B) (A.length + B.length) C = (A ++ B) ++ C := by
  have e1 : splice L 0 A = A ++ L.drop A.length := by
    have := splice_at [] L A
    simpa using this
  rw [e1, splice_at, ← List.append_assoc, ← List.length_append, splice_at]
  rw [List.drop_eq_nil_of_le (by rw [List.length_drop, List.length_drop]; omega), List.append_nil]
/-- The samples of a line. -/
def lineL (cs : List C3) (odd : Bool) : List Nat := (List.replicate 8 3263168512 ++ enc (oddRow (bcells 4) odd)) ++ enc (oddRow cs odd)
theorem lineL_len (cs : List C3) (odd : Bool) : (lineL cs odd).length = 24 + 4 * cs.length := by
  unfold lineL
  rw [List.length_append, List.length_append, enc_len, enc_len, oddRow_len, oddRow_len, bcells_len, List.length_replicate]
theorem lineL_splice (L : List Value) (cs : List C3) (odd : Bool) (hl : L.length = 24 + 4 * cs.length) :
    splice (splice (splice L 0 (fl (List.replicate 8 3263168512))) 8 (fl (enc (oddRow (bcells 4) odd)))) 24 (fl (enc (oddRow cs odd))) = fl (lineL cs odd) := by
  have h1 : (fl (List.replicate 8 3263168512)).length = 8 := by rw [fl_len, List.length_replicate]
  have h2 : (fl (enc (oddRow (bcells 4) odd))).length = 16 := by rw [fl_len, enc_len, oddRow_len, bcells_len]
  have h3 : (fl (enc (oddRow cs odd))).length = 4 * cs.length := by rw [fl_len, enc_len, oddRow_len]
  have := splice_three L _ _ _ (show L.length = (fl (List.replicate 8 3263168512)).length + (fl (enc (oddRow (bcells 4) odd))).length + (fl (enc (oddRow cs odd))).length by rw [h1, h2, h3, hl])
  rw [h1, h2] at this
  rw [this]
  simp [fl, lineL]
theorem Mem.new {w : World} {base g N : Nat} {xs : List Nat} (h : Mem w g (fl xs)) (hn : xs.length = N) (hb : base ≤ g) : FNew w base (.slice (some ⟨g, 0, none⟩) N N) xs := by
  refine MadeF.new ⟨_, h, by rw [List.size_toArray, fl_len]; omega, fun i hi _ => ?_⟩ hn hb
  rw [List.getElem?_toArray, fl, List.getElem?_map, List.getElem?_eq_getElem hi]; rfl
theorem make_line (n : Nat) (hn : n ≤ 1000000000) (W : World) : (Instr.makeSlice 80 (.int .i64 (n : Int)) (.int .i64 (n : Int))).run Try.prog W = .ok (.slice (some ⟨W.heap.size, 0, none⟩) n n) (W.alloc (.cells (madeCells #[.float .f32 0] n) 26)) := by
  obtain ⟨i0, hi, hz0, hz1, hz2⟩ := info_parts info_f32
  have h := run_make (P := Try.prog) W 80 26 i0 _ Try.underlying80 hi hz0 .i64 .i64 n n (by omega) (by omega) (by rw [hz2]; omega) (by omega)
  rw [hz1] at h
  simpa [Value.cells] using h
set_option maxHeartbeats 2000000 in
set_option maxRecDepth 100000 in
theorem makeLine_any (v : Value) (cs : List C3) (odd : Bool) (w : World) (h : RowV w v cs) (hf : Fit cs) (hr : rok cs = true) :
    Calls Try.prog 16 #[v, .bool odd] w fun e w' => GotF (lineL cs odd) w e w' := by
  have h1 := (rok_iff.1 hr).1
  have HRO := Lib.hid (rowOk_any v cs w h (by omega))
  rw [hr] at HRO
  obtain ⟨N, hN⟩ : ∃ N, 24 + 4 * cs.length = N := ⟨_, rfl⟩
  have HV := fun W (hb : Below w.heap.size w W) => Lib.hid (h.below hb)
  have HSP := fun (L : List Value) (hl : L.length = N) => Lib.hid (lineL_splice L cs odd (by omega))
  have HLN := Lib.hid (show (lineL cs odd).length = N by rw [lineL_len]; exact hN)
  obtain ⟨a, c, rfl⟩ : ∃ a c, v = .slice a cs.length c := by
    rcases h with ⟨_, e⟩ | ⟨g, o, cap, e, _⟩
    · subst e; simp at h1
    · exact ⟨_, _, e⟩
  have hNi : (24 : Int) + 4 * (cs.length : Int) = (N : Int) := by omega
  clear h
  go_enter Try.func16, Try.ntmps16
  go_wp2_with fail
  refine HRO.out.mono ?_
  rintro e w1 ⟨rfl, hb1⟩
  have hmk := make_line N (by omega) w1
  have hm0 : Mem (w1.alloc (.cells (madeCells #[.float .f32 0] N) 26)) w1.heap.size (madeCells #[.float .f32 0] N).toList := by
    unfold Mem
    rw [Array.toArray_toList]
    exact heap_alloc_new w1 _
  have hbA : Below w.heap.size w (w1.alloc (.cells (madeCells #[.float .f32 0] N) 26)) := hb1.alloc hb1.size _
  have hl0 : (madeCells #[.float .f32 0] N).toList.length = N := by rw [Array.length_toList, size_madeCells]
  have hsA : (w1.alloc (.cells (madeCells #[.float .f32 0] N) 26)).heap.size = w1.heap.size + 1 := by simp
  have hgw : w.heap.size ≤ w1.heap.size := hb1.size
  generalize (madeCells #[.float .f32 0] N).toList = L0 at *
  generalize w1.alloc (.cells (madeCells #[.float .f32 0] N) 26) = wA at *
  generalize w1.heap.size = g at *
  have c0 := litB0 wA (.slice (some ⟨g, 0, none⟩) N N) (.bool odd) 82
  have c1 := litB1 wA (.slice (some ⟨g, 0, none⟩) N N) (.bool odd) 82
  have hbB : Below w.heap.size w (wA.alloc (.cells #[.slice (some ⟨g, 0, none⟩) N N, .bool odd] 82)) := hbA.alloc hbA.size _
  have hmB := hm0.below ((Below.refl wA.heap.size wA).alloc (Nat.le_refl _) (.cells #[.slice (some ⟨g, 0, none⟩) N N, .bool odd] 82))
  go_wp2_with fail
  rw [hsA] at c0 c1
  generalize wA.alloc (.cells #[.slice (some ⟨g, 0, none⟩) N N, .bool odd] 82) = wB at *
  clear hm0 hbA hmk
  refine (putPulse_any g N odd L0 _ hmB hl0 (by omega) (by omega)).mono ?_
  rintro e w2 ⟨⟨r2, rfl⟩, hm2, hg2⟩
  have hl2 : (splice L0 0 (fl (List.replicate 8 3263168512))).length = N := (length_splice _ _ _ (by rw [fl_len, List.length_replicate]; omega)).trans hl0
  have p0 := hg2.cell c0 (by simp)
  have p1 := hg2.cell c1 (by simp)
  have tb2 : Below w.heap.size w w2 := hbB.grown hg2 hbB.size (fun r hr => by cases hr; exact hgw)
  clear hmB hg2 c0 c1 hbB
  have hsl := (HSP L0 hl0).out
  clear hl0 HSP
  generalize splice L0 0 (fl (List.replicate 8 3263168512)) = L1 at *
  go_wp2_with fail
  refine (putBurst_any g N odd L1 _ hm2 hl2 (by omega) (by omega)).mono ?_
  rintro e w3 ⟨⟨r3, rfl⟩, hm3, hg3⟩
  have hl3 : (splice L1 8 (fl (enc (oddRow (bcells 4) odd)))).length = N := (length_splice _ _ _ (by rw [fl_len, enc_len, oddRow_len, bcells_len]; omega)).trans hl2
  have q0 := hg3.cell p0 (by simp)
  have q1 := hg3.cell p1 (by simp)
  have tb3 : Below w.heap.size w w3 := tb2.grown hg3 tb2.size (fun r hr => by cases hr; exact hgw)
  clear hm2 hg3 p0 p1 hl2
  generalize splice L1 8 (fl (enc (oddRow (bcells 4) odd))) = L2 at *
  go_wp2_with fail
  refine (putCells_any g N odd L2 _ cs _ hm3 hl3 hN (by omega) (HV _ tb3).out hf hr).mono ?_
  rintro e w4 ⟨⟨r4, rfl⟩, hm4, hg4⟩
  rw [hsl] at hm4
  have s0 := hg4.cell q0 (by simp)
  have s1 := hg4.cell q1 (by simp)
  have tb4 : Below w.heap.size w w4 := tb3.grown hg4 tb3.size (fun r hr => by cases hr; exact hgw)
  have HNW := Lib.hid (hm4.new HLN.out hgw)
  clear hm3 hg4 q0 q1 hl3 hsl hm4
  go_wp2
  go_ret
  exact GotF.mk HNW.out tb4
end Go.Proofs.Ytgecclccmmcdoaa
