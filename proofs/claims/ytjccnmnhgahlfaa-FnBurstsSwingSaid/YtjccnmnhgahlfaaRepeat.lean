/-
  What is proved: the walks of slices.Repeat for one sample eight times, and for one cell four times.
  Conditions: none.
-/
import Derived.Test.YtjccnmnhgahlfaaPart
import Derived.Test.YtjccnmnhgahlfaaFill
import Derived.Test.YtjccnmnhgahlfaaDrawLine
import Derived.Test.YtjccnmnhgahlfaaDecode
namespace Go.Proofs.Ytjccnmnhgahlfaa
set_option linter.unusedVariables false
open Go.RowKit
attribute [local go_sem] run_store_float run_store_complex unary_negf neg256

set_option maxRecDepth 100000 in
theorem mul8_any (w : World) : Calls Try.prog 84 #[.int .u64 1, .int .u64 8] w fun e w' => e = .returned (.tuple #[.int .u64 0, .int .u64 8]) ∧ w = w' := by
  go_enter Try.func84, Try.ntmps84
  go_wp2
  go_ret2
  exact ⟨rfl, rfl⟩
set_option maxRecDepth 100000 in
theorem mul4_any (w : World) : Calls Try.prog 84 #[.int .u64 1, .int .u64 4] w fun e w' => e = .returned (.tuple #[.int .u64 0, .int .u64 4]) ∧ w = w' := by
  go_enter Try.func84, Try.ntmps84
  go_wp2
  go_ret2
  exact ⟨rfl, rfl⟩
theorem f32_size : (Try.prog.info? 52).map (·.size) = some 1 := by kernel_rfl
theorem cell_size : (Try.prog.info? 55).map (·.size) = some 2 := by kernel_rfl
def fpat (z : Nat) : List Value := [.float .f32 z]
theorem fpat_one (z : Nat) : ∀ v ∈ fpat z, v.oneCell' = true := by
  intro v hv
  obtain rfl := List.mem_singleton.1 hv
  rfl
theorem fpat_src {w : World} {gx z : Nat} (h : w.cell? ⟨gx, 0, none⟩ = some (.float .f32 z)) : ∀ j v, (fills (fpat z) 1)[j]? = some v → w.cell? ((⟨gx, 0, none⟩ : Addr).add j) = some v := by
  intro j v hj
  have hl : j < 1 := (List.getElem?_eq_some_iff.1 hj).1
  obtain rfl : j = 0 := by omega
  have e : Value.float .f32 z = v := by simpa [fills, fpat] using hj
  rw [← e]
  exact h
theorem Fill.row {w : World} {g n z : Nat} (h : Fill 52 (fpat z) w g n n) : FRow w (.slice (some ⟨g, 0, none⟩) n n) (List.replicate n z) := by
  refine .inr ⟨g, 0, n, by simp, by simp, fun i hi => ?_⟩
  have hin : i < n := by simpa using hi
  have hg : ∀ m i, i < m → (fills (fpat z) m)[i]? = some (.float .f32 z) := by
    intro m
    induction m with
    | zero => intro i h; omega
    | succ m ih =>
      intro i hi
      cases i with
      | zero => rfl
      | succ i =>
        show (fpat z ++ fills (fpat z) m)[i + 1]? = _
        rw [List.getElem?_append_right (by simp [fpat])]
        exact ih i (by omega)
  have := h.cell (Nat.le_refl n) i _ (hg n i hin)
  have hadd : (⟨g, 0, none⟩ : Addr).add i = ⟨g, i, none⟩ := by unfold Addr.add; split <;> simp_all
  rw [hadd] at this
  rw [Nat.zero_add, this]
  simp
set_option maxHeartbeats 1000000 in
set_option maxRecDepth 100000 in
theorem repeat8_any (z gx : Nat) (w : World) (h : w.cell? ⟨gx, 0, none⟩ = some (.float .f32 z)) :
    Calls Try.prog 69 #[.slice (some ⟨gx, 0, none⟩) 1 1, .int .i64 8] w fun e w' => ∃ g, e = .returned (.slice (some ⟨g, 0, none⟩) 8 8) ∧ FRow w' (.slice (some ⟨g, 0, none⟩) 8 8) (List.replicate 8 z) ∧ Below w.heap.size w w' := by
  have HM := fun W => Lib.hid (mul8_any W)
  obtain ⟨w1, hw1⟩ : ∃ w1, w.alloc (.cells (madeCells #[.float .f32 0] 8) 52) = w1 := ⟨_, rfl⟩
  have hmk : (Instr.makeSlice 24 (.int .i64 8) (.int .i64 8)).run Try.prog w = .ok (.slice (some ⟨w.heap.size, 0, none⟩) 8 8) w1 := by rw [← hw1]; exact make_floats 8 (by decide) w
  have HF := Lib.hid (show Fill 52 (fpat z) (w.alloc (.cells (madeCells #[.float .f32 0] 8) 52)) w.heap.size 0 8 from Fill.start w #[.float .f32 0] 8 rfl)
  have HX := Lib.hid (show (w.alloc (.cells (madeCells #[.float .f32 0] 8) 52)).cell? ⟨gx, 0, none⟩ = some (.float .f32 z) from (grown_of ((Below.refl w.heap.size w).alloc (Nat.le_refl _) _)).cell h (by simp))
  have hbel := (Below.refl w.heap.size w).alloc (Nat.le_refl _) (.cells (madeCells #[.float .f32 0] 8) 52)
  rw [hw1] at HF HX hbel
  clear h hw1
  go_enter Try.func69, Try.ntmps69
  go_wp2_with fail
  refine (HM _).out.mono ?_
  rintro e w2 ⟨rfl, rfl⟩
  go_wp2_with (refine wpList_fill rfl (.tmp 31) (.tmp 32) 24 24 rfl 52 Try.underlying24 (fpat z) f32_size (fpat_one z) w.heap.size 0 0 1 8 8 8 ⟨gx, 0, none⟩ 1 1 rfl rfl 52 HF.out rfl rfl (by decide) (fpat_src HX.out) ?_; intro w2 hf2 hb2)
  have HF2 := Lib.hid hf2
  have hbel2 := hb2 _ _ hbel (Nat.le_refl _)
  clear hb2 hbel HF HX hmk hf2
  go_wp2
  go_loopw [8] (fun n wr => ∃ k : Nat, (k = 1 ∨ k = 2 ∨ k = 4 ∨ k = 8) ∧ n = .int .i64 (k : Int) ∧ Below w.heap.size w wr ∧ Fill 52 (fpat z) wr w.heap.size k 8) (fun n _ => 8 - (intOf n).toNat)
  case atStart => exact ⟨1, .inl rfl, rfl, hbel2, HF2.out⟩
  case round =>
    obtain ⟨k, hk, rfl, hb, hf⟩ := hrel
    have HK := Lib.hid hf
    clear hf HF2
    rcases hk with rfl | rfl | rfl | rfl
    · obtain ⟨w3, hrun0, hf3, hb3⟩ := fill_run (P := Try.prog) (w := wr.drew) 24 24 3 52 Try.underlying24 (fpat z) f32_size (fpat_one z) w.heap.size 1 1 1 8 7 7 ⟨w.heap.size, 0, none⟩ 1 8 52 (HK.out.kept (w' := wr.drew) rfl) rfl rfl (by decide) ((HK.out.kept (w' := wr.drew) rfl).cell (Nat.le_refl _))
      have hrun : (Builtin.copy_ #[24, 24] 3 #[.slice (some ⟨w.heap.size, 1, none⟩) 7 7, .slice (some ⟨w.heap.size, 0, none⟩) 1 8]).run Try.prog wr.drew = .ok (.int .i64 1) w3 := hrun0
      have HF3 := Lib.hid hf3
      have hbw := hb3 _ _ (show Below w.heap.size w wr.drew from belowDN hb 1) (Nat.le_refl _)
      clear hrun0 hf3 hb3 HK
      go_wp2
      go_region
      go_wp2
      go_roundw
      case rel => exact ⟨2, .inr (.inl rfl), rfl, hbw, HF3.out⟩
      case measure => simp [intOf]
    · obtain ⟨w3, hrun0, hf3, hb3⟩ := fill_run (P := Try.prog) (w := wr.drew) 24 24 3 52 Try.underlying24 (fpat z) f32_size (fpat_one z) w.heap.size 2 2 2 8 6 6 ⟨w.heap.size, 0, none⟩ 2 8 52 (HK.out.kept (w' := wr.drew) rfl) rfl rfl (by decide) ((HK.out.kept (w' := wr.drew) rfl).cell (Nat.le_refl _))
      have hrun : (Builtin.copy_ #[24, 24] 3 #[.slice (some ⟨w.heap.size, 2, none⟩) 6 6, .slice (some ⟨w.heap.size, 0, none⟩) 2 8]).run Try.prog wr.drew = .ok (.int .i64 2) w3 := hrun0
      have HF3 := Lib.hid hf3
      have hbw := hb3 _ _ (show Below w.heap.size w wr.drew from belowDN hb 1) (Nat.le_refl _)
      clear hrun0 hf3 hb3 HK
      go_wp2
      go_region
      go_wp2
      go_roundw
      case rel => exact ⟨4, .inr (.inr (.inl rfl)), rfl, hbw, HF3.out⟩
      case measure => simp [intOf]
    · obtain ⟨w3, hrun0, hf3, hb3⟩ := fill_run (P := Try.prog) (w := wr.drew) 24 24 3 52 Try.underlying24 (fpat z) f32_size (fpat_one z) w.heap.size 4 4 4 8 4 4 ⟨w.heap.size, 0, none⟩ 4 8 52 (HK.out.kept (w' := wr.drew) rfl) rfl rfl (by decide) ((HK.out.kept (w' := wr.drew) rfl).cell (Nat.le_refl _))
      have hrun : (Builtin.copy_ #[24, 24] 3 #[.slice (some ⟨w.heap.size, 4, none⟩) 4 4, .slice (some ⟨w.heap.size, 0, none⟩) 4 8]).run Try.prog wr.drew = .ok (.int .i64 4) w3 := hrun0
      have HF3 := Lib.hid hf3
      have hbw := hb3 _ _ (show Below w.heap.size w wr.drew from belowDN hb 1) (Nat.le_refl _)
      clear hrun0 hf3 hb3 HK
      go_wp2
      go_region
      go_wp2
      go_roundw
      case rel => exact ⟨8, .inr (.inr (.inr rfl)), rfl, hbw, HF3.out⟩
      case measure => simp [intOf]
    · go_wp2
      go_ret
      exact ⟨_, rfl, HK.out.row, hb⟩
def cpat (y u v : Nat) : List Value := [.float .f32 y, .complex .f32 u v]
theorem cell_size2 : (Try.prog.info? 55).map (·.size) = some 2 := by kernel_rfl
theorem cpat_one (y u v : Nat) : ∀ x ∈ cpat y u v, x.oneCell' = true := by
  intro x hx
  rcases List.mem_cons.1 hx with rfl | hx
  · rfl
  · obtain rfl := List.mem_singleton.1 hx
    rfl
theorem cpat_src {w : World} {gx y u v : Nat} (h : w.cell? ⟨gx, 0, none⟩ = some (.float .f32 y)) (h2 : w.cell? ⟨gx, 1, none⟩ = some (.complex .f32 u v)) : ∀ j x, (fills (cpat y u v) 1)[j]? = some x → w.cell? ((⟨gx, 0, none⟩ : Addr).add j) = some x := by
  intro j x hj
  have hl : j < 2 := (List.getElem?_eq_some_iff.1 hj).1
  rcases (by omega : j = 0 ∨ j = 1) with rfl | rfl
  · have e : Value.float .f32 y = x := by simpa [fills, cpat] using hj
    rw [← e]
    exact h
  · have e : Value.complex .f32 u v = x := by simpa [fills, cpat] using hj
    rw [← e]
    exact h2
theorem Fill.rowC {w : World} {g n y u v : Nat} (h : Fill 55 (cpat y u v) w g n n) : RowV w (.slice (some ⟨g, 0, none⟩) n n) (List.replicate n (y, u, v)) := by
  refine .inr ⟨g, 0, n, by simp, by simp, fun i hi => ?_⟩
  have hin : i < n := by simpa using hi
  have hg : ∀ m i, i < m → (fills (cpat y u v) m)[i * 2]? = some (.float .f32 y) ∧ (fills (cpat y u v) m)[i * 2 + 1]? = some (.complex .f32 u v) := by
    intro m
    induction m with
    | zero => intro i h; omega
    | succ m ih =>
      intro i hi
      cases i with
      | zero => exact ⟨rfl, rfl⟩
      | succ i =>
        obtain ⟨a, b⟩ := ih i (by omega)
        constructor
        · show (cpat y u v ++ fills (cpat y u v) m)[(i + 1) * 2]? = _
          rw [List.getElem?_append_right (by show 2 ≤ _; omega), show (i + 1) * 2 - (cpat y u v).length = i * 2 by show (i + 1) * 2 - 2 = i * 2; omega]
          exact a
        · show (cpat y u v ++ fills (cpat y u v) m)[(i + 1) * 2 + 1]? = _
          rw [List.getElem?_append_right (by show 2 ≤ _; omega), show (i + 1) * 2 + 1 - (cpat y u v).length = i * 2 + 1 by show (i + 1) * 2 + 1 - 2 = i * 2 + 1; omega]
          exact b
  obtain ⟨a, b⟩ := hg n i hin
  have k1 := h.cell (Nat.le_refl n) _ _ a
  have k2 := h.cell (Nat.le_refl n) _ _ b
  have hadd : ∀ j, (⟨g, 0, none⟩ : Addr).add j = ⟨g, j, none⟩ := by intro j; unfold Addr.add; split <;> simp_all
  rw [hadd] at k1 k2
  rw [Nat.zero_add, k1, k2]
  simp
set_option maxHeartbeats 1000000 in
set_option maxRecDepth 100000 in
theorem repeat4_any (y u v gx : Nat) (w : World) (h : w.cell? ⟨gx, 0, none⟩ = some (.float .f32 y)) (h2 : w.cell? ⟨gx, 1, none⟩ = some (.complex .f32 u v)) :
    Calls Try.prog 71 #[.slice (some ⟨gx, 0, none⟩) 1 1, .int .i64 4] w fun e w' => ∃ g, e = .returned (.slice (some ⟨g, 0, none⟩) 4 4) ∧ RowV w' (.slice (some ⟨g, 0, none⟩) 4 4) (List.replicate 4 (y, u, v)) ∧ Below w.heap.size w w' := by
  have HM := fun W => Lib.hid (mul4_any W)
  obtain ⟨w1, hw1⟩ : ∃ w1, w.alloc (.cells (madeCells #[.float .f32 0, .complex .f32 0 0] (4 * 2)) 55) = w1 := ⟨_, rfl⟩
  have hmk : (Instr.makeSlice 29 (.int .i64 4) (.int .i64 4)).run Try.prog w = .ok (.slice (some ⟨w.heap.size, 0, none⟩) 4 4) w1 := by rw [← hw1]; exact make_cells 4 (by decide) w
  have HF := Lib.hid (show Fill 55 (cpat y u v) (w.alloc (.cells (madeCells #[.float .f32 0, .complex .f32 0 0] (4 * 2)) 55)) w.heap.size 0 4 from Fill.start w #[.float .f32 0, .complex .f32 0 0] 4 rfl)
  have HX := Lib.hid (show (w.alloc (.cells (madeCells #[.float .f32 0, .complex .f32 0 0] (4 * 2)) 55)).cell? ⟨gx, 0, none⟩ = some (.float .f32 y) from (grown_of ((Below.refl w.heap.size w).alloc (Nat.le_refl _) _)).cell h (by simp))
  have HX2 := Lib.hid (show (w.alloc (.cells (madeCells #[.float .f32 0, .complex .f32 0 0] (4 * 2)) 55)).cell? ⟨gx, 1, none⟩ = some (.complex .f32 u v) from (grown_of ((Below.refl w.heap.size w).alloc (Nat.le_refl _) _)).cell h2 (by simp))
  have hbel := (Below.refl w.heap.size w).alloc (Nat.le_refl _) (.cells (madeCells #[.float .f32 0, .complex .f32 0 0] (4 * 2)) 55)
  rw [hw1] at HF HX HX2 hbel
  clear h h2 hw1
  go_enter Try.func71, Try.ntmps71
  go_wp2_with fail
  refine (HM _).out.mono ?_
  rintro e w2 ⟨rfl, rfl⟩
  go_wp2_with (refine wpList_fill rfl (.tmp 31) (.tmp 32) 29 29 rfl 55 Try.underlying29 (cpat y u v) cell_size2 (cpat_one y u v) w.heap.size 0 0 1 4 4 4 ⟨gx, 0, none⟩ 1 1 rfl rfl 55 HF.out rfl rfl (by decide) (cpat_src HX.out HX2.out) ?_; intro w2 hf2 hb2)
  have HF2 := Lib.hid hf2
  have hbel2 := hb2 _ _ hbel (Nat.le_refl _)
  clear hb2 hbel HF HX HX2 hmk hf2
  go_wp2
  go_loopw [8] (fun n wr => ∃ k : Nat, (k = 1 ∨ k = 2 ∨ k = 4) ∧ n = .int .i64 (k : Int) ∧ Below w.heap.size w wr ∧ Fill 55 (cpat y u v) wr w.heap.size k 4) (fun n _ => 4 - (intOf n).toNat)
  case atStart => exact ⟨1, .inl rfl, rfl, hbel2, HF2.out⟩
  case round =>
    obtain ⟨k, hk, rfl, hb, hf⟩ := hrel
    have HK := Lib.hid hf
    clear hf HF2
    rcases hk with rfl | rfl | rfl
    · obtain ⟨w3, hrun0, hf3, hb3⟩ := fill_run (P := Try.prog) (w := wr.drew) 29 29 3 55 Try.underlying29 (cpat y u v) cell_size2 (cpat_one y u v) w.heap.size 2 1 1 4 3 3 ⟨w.heap.size, 0, none⟩ 1 4 55 (HK.out.kept (w' := wr.drew) rfl) rfl rfl (by decide) ((HK.out.kept (w' := wr.drew) rfl).cell (Nat.le_refl _))
      have hrun : (Builtin.copy_ #[29, 29] 3 #[.slice (some ⟨w.heap.size, 2, none⟩) 3 3, .slice (some ⟨w.heap.size, 0, none⟩) 1 4]).run Try.prog wr.drew = .ok (.int .i64 1) w3 := hrun0
      have HF3 := Lib.hid hf3
      have hbw := hb3 _ _ (show Below w.heap.size w wr.drew from belowDN hb 1) (Nat.le_refl _)
      clear hrun0 hf3 hb3 HK
      go_wp2
      go_region
      go_wp2
      go_roundw
      case rel => exact ⟨2, .inr (.inl rfl), rfl, hbw, HF3.out⟩
      case measure => simp [intOf]
    · obtain ⟨w3, hrun0, hf3, hb3⟩ := fill_run (P := Try.prog) (w := wr.drew) 29 29 3 55 Try.underlying29 (cpat y u v) cell_size2 (cpat_one y u v) w.heap.size 4 2 2 4 2 2 ⟨w.heap.size, 0, none⟩ 2 4 55 (HK.out.kept (w' := wr.drew) rfl) rfl rfl (by decide) ((HK.out.kept (w' := wr.drew) rfl).cell (Nat.le_refl _))
      have hrun : (Builtin.copy_ #[29, 29] 3 #[.slice (some ⟨w.heap.size, 4, none⟩) 2 2, .slice (some ⟨w.heap.size, 0, none⟩) 2 4]).run Try.prog wr.drew = .ok (.int .i64 2) w3 := hrun0
      have HF3 := Lib.hid hf3
      have hbw := hb3 _ _ (show Below w.heap.size w wr.drew from belowDN hb 1) (Nat.le_refl _)
      clear hrun0 hf3 hb3 HK
      go_wp2
      go_region
      go_wp2
      go_roundw
      case rel => exact ⟨4, .inr (.inr rfl), rfl, hbw, HF3.out⟩
      case measure => simp [intOf]
    · go_wp2
      go_ret
      exact ⟨_, rfl, HK.out.rowC, hb⟩
end Go.Proofs.Ytjccnmnhgahlfaa
