/-
  What is proved: the model's lines (made of a row, drawn) can be read.
  Conditions: those that each fact names.
-/
import Derived.Test.YtobpnoiienpipaaGreatPz05
import Derived.Test.YtobpnoiienpipaaGreatDecode
import Derived.Test.YtobpnoiienpipaaGreatPz04
import Derived.Test.YtobpnoiienpipaaGreatPz03
import Derived.Laws.CopyOwn
import Derived.Deep.RegionLawGrows
namespace Go.Proofs.YtobpnoiienpipaaGreat
set_option linter.unusedVariables false
open Go.RowKit
attribute [local go_sem] run_store_float run_store_complex unary_negf neg256

theorem FRow.cells {w : World} {g o n cap : Nat} {xs : List Nat} (h : FRow w (.slice (some ⟨g, o, none⟩) n cap) xs) : ∀ i (hi : i < xs.length), w.cell? ⟨g, o + i, none⟩ = some (.float .f32 xs[i]) := by
  rcases h with ⟨_, rfl⟩ | ⟨g', o', cap', e, _, hc⟩
  · intro i hi; cases hi
  · cases e
    exact hc
def SampN (N : Nat) (w : World) (e : Ending) (w' : World) : Prop :=
  ∃ g cap ys, e = .returned (.slice (some ⟨g, 0, none⟩) N cap) ∧ ys.length = N ∧ OwnF w' w.heap.size (.slice (some ⟨g, 0, none⟩) N cap) ys ∧ Below w.heap.size w w'
theorem SampN.mk {N : Nat} {w w' : World} {g cap : Nat} {ys : List Nat} (hn : ys.length = N) (ho : OwnF w' w.heap.size (.slice (some ⟨g, 0, none⟩) N cap) ys) (hb : Below w.heap.size w w') : SampN N w (.returned (.slice (some ⟨g, 0, none⟩) N cap)) w' := ⟨g, cap, ys, rfl, hn, ho, hb⟩
/-- A cell of the burst. -/
def bcell : C3 := (0, 3246391296, 1098907648)
def bcells (k : Nat) : List C3 := List.replicate k bcell
theorem bcells_len (k : Nat) : (bcells k).length = k := by simp [bcells]
theorem bcells_ok : rok (bcells 4) = true := by decide +kernel
/-- A list of at most N samples that the model owns. -/
def SampO (N : Nat) (w : World) (e : Ending) (w' : World) : Prop :=
  ∃ g n cap ys, e = .returned (.slice (some ⟨g, 0, none⟩) n cap) ∧ ys.length = n ∧ n ≤ N ∧ OwnF w' w.heap.size (.slice (some ⟨g, 0, none⟩) n cap) ys ∧ Below w.heap.size w w'
theorem SampO.mk {N n : Nat} {w w' : World} {g cap : Nat} {ys : List Nat} (hn : ys.length = n) (hl : n ≤ N) (ho : OwnF w' w.heap.size (.slice (some ⟨g, 0, none⟩) n cap) ys) (hb : Below w.heap.size w w') : SampO N w (.returned (.slice (some ⟨g, 0, none⟩) n cap)) w' := ⟨g, n, cap, ys, rfl, hn, hl, ho, hb⟩
def LineP (b : Nat) (w : World) (e : Ending) (w' : World) : Prop :=
  ∃ v ys, e = .returned v ∧ ys.length ≤ 5000 ∧ FNew w' w.heap.size v ys ∧ Cur w' b ∧ w.grownBy w' (some b)
theorem LineP.mk {b : Nat} {w w' : World} {v : Value} {ys : List Nat} (hl : ys.length ≤ 5000) (ho : FNew w' w.heap.size v ys) (hc : Cur w' b) (hg : w.grownBy w' (some b)) : LineP b w (.returned v) w' := ⟨v, ys, rfl, hl, ho, hc, hg⟩
theorem LineP.own {b n : Nat} {w w' : World} {g cap : Nat} {ys : List Nat} (hn : ys.length = n) (hl : n ≤ 5000) (ho : OwnF w' w.heap.size (.slice (some ⟨g, 0, none⟩) n cap) ys) (hc : Cur w' b) (hg : w.grownBy w' (some b)) : LineP b w (.returned (.slice (some ⟨g, 0, none⟩) n cap)) w' :=
  ⟨_, ys, rfl, by omega, ho.new, hc, hg⟩
theorem FNew.cap {w : World} {base g n cap : Nat} {xs : List Nat} (h : FNew w base (.slice (some ⟨g, 0, none⟩) n cap) xs) : n ≤ cap := by
  rcases h with ⟨e, _⟩ | ⟨g', cap', e, hb, hc, _⟩
  · cases e
  · cases e
    exact hc
theorem FNew.take {w : World} {base g n cap : Nat} {xs : List Nat} (h : FNew w base (.slice (some ⟨g, 0, none⟩) n cap) xs) (hn : xs.length = n) (k : Nat) (hk : k ≤ n) : FNew w base (.slice (some ⟨g, 0, none⟩) k cap) (xs.take k) := by
  have hlen : (xs.take k).length = k := by rw [List.length_take]; omega
  rcases h with ⟨e, _⟩ | ⟨g', cap', e, hb, hc, cur, h1, h2, h3⟩
  · cases e
  · cases e
    refine .inr ⟨g, cap, by rw [hlen], hb, by omega, cur, h1, by omega, fun i hi hik => ?_⟩
    rw [List.getElem_take]
    exact h3 i (by omega) (by omega)
end Go.Proofs.YtobpnoiienpipaaGreat

/-
  What is proved: the walks of slices.Repeat for one sample eight times, and for one cell four times.
  Conditions: none.
-/
namespace Go.Proofs.YtobpnoiienpipaaGreat
set_option linter.unusedVariables false
open Go.RowKit
attribute [local go_sem] run_store_float run_store_complex unary_negf neg256

set_option maxRecDepth 100000 in
theorem mul8_any (w : World) : Calls Tryz.prog 140 #[.int .u64 1, .int .u64 8] w fun e w' => e = .returned (.tuple #[.int .u64 0, .int .u64 8]) ∧ w = w' := by
  go_enter Tryz.func140, Tryz.ntmps140
  go_wp2
  go_ret2
  exact ⟨rfl, rfl⟩
set_option maxRecDepth 100000 in
theorem mul4_any (w : World) : Calls Tryz.prog 140 #[.int .u64 1, .int .u64 4] w fun e w' => e = .returned (.tuple #[.int .u64 0, .int .u64 4]) ∧ w = w' := by
  go_enter Tryz.func140, Tryz.ntmps140
  go_wp2
  go_ret2
  exact ⟨rfl, rfl⟩
theorem f32_size : (Tryz.prog.info? 25).map (·.size) = some 1 := by kernel_rfl
def fpat (z : Nat) : List Value := [.float .f32 z]
theorem fpat_one (z : Nat) : ∀ v ∈ fpat z, v.oneCell' = true := by
  intro v hv
  obtain rfl := List.mem_singleton.1 hv
  rfl
theorem fpat_src {w : World} {gx z : Nat} (h : w.cell? ⟨gx, 0, none⟩ = some (.float .f32 z)) : ∀ j v, (fills (fpat z) 1)[j]? = some v → w.cell? ((⟨gx, 0, none⟩ : Addr).add j) = some v := by
  intro j v hj
  have hl : j < 1 := (List.getElem?_eq_some_iff.1 hj).1
  obtain rfl : j = 0 := by omega
  have e : Value.float .f32 z = v := by simpa [fills, fpat] using hj
  rw [← e]
  exact h
theorem Fill.row {w : World} {g n z : Nat} (h : Fill 25 (fpat z) w g n n) : FRow w (.slice (some ⟨g, 0, none⟩) n n) (List.replicate n z) := by
  refine .inr ⟨g, 0, n, by simp, by simp, fun i hi => ?_⟩
  have hin : i < n := by simpa using hi
  have hg : ∀ m i, i < m → (fills (fpat z) m)[i]? = some (.float .f32 z) := by
    intro m
    induction m with
    | zero => intro i h; omega
    | succ m ih =>
      intro i hi
      cases i with
      | zero => rfl
      | succ i =>
        show (fpat z ++ fills (fpat z) m)[i + 1]? = _
        rw [List.getElem?_append_right (by simp [fpat])]
        exact ih i (by omega)
  have := h.cell (Nat.le_refl n) i _ (hg n i hin)
  have hadd : (⟨g, 0, none⟩ : Addr).add i = ⟨g, i, none⟩ := by unfold Addr.add; split <;> simp_all
  rw [hadd] at this
  rw [Nat.zero_add, this]
  simp
set_option maxHeartbeats 1000000 in
set_option maxRecDepth 100000 in
theorem repeat8_any (z gx : Nat) (w : World) (h : w.cell? ⟨gx, 0, none⟩ = some (.float .f32 z)) :
    Calls Tryz.prog 114 #[.slice (some ⟨gx, 0, none⟩) 1 1, .int .i64 8] w fun e w' => ∃ g, e = .returned (.slice (some ⟨g, 0, none⟩) 8 8) ∧ FRow w' (.slice (some ⟨g, 0, none⟩) 8 8) (List.replicate 8 z) ∧ Below w.heap.size w w' := by
  have HM := fun W => Lib.hid (mul8_any W)
  obtain ⟨w1, hw1⟩ : ∃ w1, w.alloc (.cells (madeCells #[.float .f32 0] 8) 25) = w1 := ⟨_, rfl⟩
  have hmk : (Instr.makeSlice 31 (.int .i64 8) (.int .i64 8)).run Tryz.prog w = .ok (.slice (some ⟨w.heap.size, 0, none⟩) 8 8) w1 := by rw [← hw1]; exact make_floats 8 (by decide) w
  have HF := Lib.hid (show Fill 25 (fpat z) (w.alloc (.cells (madeCells #[.float .f32 0] 8) 25)) w.heap.size 0 8 from Fill.start w #[.float .f32 0] 8 rfl)
  have HX := Lib.hid (show (w.alloc (.cells (madeCells #[.float .f32 0] 8) 25)).cell? ⟨gx, 0, none⟩ = some (.float .f32 z) from (grown_of ((Below.refl w.heap.size w).alloc (Nat.le_refl _) _)).cell h (by simp))
  have hbel := (Below.refl w.heap.size w).alloc (Nat.le_refl _) (.cells (madeCells #[.float .f32 0] 8) 25)
  rw [hw1] at HF HX hbel
  clear h hw1
  go_enter Tryz.func114, Tryz.ntmps114
  go_wp2_with fail
  refine (HM _).out.mono ?_
  rintro e w2 ⟨rfl, rfl⟩
  go_wp2_with (refine wpList_fill rfl (.tmp 31) (.tmp 32) 31 31 rfl 25 Tryz.underlying31 (fpat z) f32_size (fpat_one z) w.heap.size 0 0 1 8 8 8 ⟨gx, 0, none⟩ 1 1 rfl rfl 25 HF.out rfl rfl (by decide) (fpat_src HX.out) ?_; intro w2 hf2 hb2)
  have HF2 := Lib.hid hf2
  have hbel2 := hb2 _ _ hbel (Nat.le_refl _)
  clear hb2 hbel HF HX hmk hf2
  go_wp2
  go_loopw [8] (fun n wr => ∃ k : Nat, (k = 1 ∨ k = 2 ∨ k = 4 ∨ k = 8) ∧ n = .int .i64 (k : Int) ∧ Below w.heap.size w wr ∧ Fill 25 (fpat z) wr w.heap.size k 8) (fun n _ => 8 - (intOf n).toNat)
  case atStart => exact ⟨1, .inl rfl, rfl, hbel2, HF2.out⟩
  case round =>
    obtain ⟨k, hk, rfl, hb, hf⟩ := hrel
    have HK := Lib.hid hf
    clear hf HF2
    rcases hk with rfl | rfl | rfl | rfl
    · obtain ⟨w3, hrun0, hf3, hb3⟩ := fill_run (P := Tryz.prog) (w := wr.drew) 31 31 3 25 Tryz.underlying31 (fpat z) f32_size (fpat_one z) w.heap.size 1 1 1 8 7 7 ⟨w.heap.size, 0, none⟩ 1 8 25 (HK.out.kept (w' := wr.drew) rfl) rfl rfl (by decide) ((HK.out.kept (w' := wr.drew) rfl).cell (Nat.le_refl _))
      have hrun : (Builtin.copy_ #[31, 31] 3 #[.slice (some ⟨w.heap.size, 1, none⟩) 7 7, .slice (some ⟨w.heap.size, 0, none⟩) 1 8]).run Tryz.prog wr.drew = .ok (.int .i64 1) w3 := hrun0
      have HF3 := Lib.hid hf3
      have hbw := hb3 _ _ (show Below w.heap.size w wr.drew from belowDN hb 1) (Nat.le_refl _)
      clear hrun0 hf3 hb3 HK
      go_wp2
      go_region
      go_wp2
      go_roundw
      case rel => exact ⟨2, .inr (.inl rfl), rfl, hbw, HF3.out⟩
      case measure => simp [intOf]
    · obtain ⟨w3, hrun0, hf3, hb3⟩ := fill_run (P := Tryz.prog) (w := wr.drew) 31 31 3 25 Tryz.underlying31 (fpat z) f32_size (fpat_one z) w.heap.size 2 2 2 8 6 6 ⟨w.heap.size, 0, none⟩ 2 8 25 (HK.out.kept (w' := wr.drew) rfl) rfl rfl (by decide) ((HK.out.kept (w' := wr.drew) rfl).cell (Nat.le_refl _))
      have hrun : (Builtin.copy_ #[31, 31] 3 #[.slice (some ⟨w.heap.size, 2, none⟩) 6 6, .slice (some ⟨w.heap.size, 0, none⟩) 2 8]).run Tryz.prog wr.drew = .ok (.int .i64 2) w3 := hrun0
      have HF3 := Lib.hid hf3
      have hbw := hb3 _ _ (show Below w.heap.size w wr.drew from belowDN hb 1) (Nat.le_refl _)
      clear hrun0 hf3 hb3 HK
      go_wp2
      go_region
      go_wp2
      go_roundw
      case rel => exact ⟨4, .inr (.inr (.inl rfl)), rfl, hbw, HF3.out⟩
      case measure => simp [intOf]
    · obtain ⟨w3, hrun0, hf3, hb3⟩ := fill_run (P := Tryz.prog) (w := wr.drew) 31 31 3 25 Tryz.underlying31 (fpat z) f32_size (fpat_one z) w.heap.size 4 4 4 8 4 4 ⟨w.heap.size, 0, none⟩ 4 8 25 (HK.out.kept (w' := wr.drew) rfl) rfl rfl (by decide) ((HK.out.kept (w' := wr.drew) rfl).cell (Nat.le_refl _))
      have hrun : (Builtin.copy_ #[31, 31] 3 #[.slice (some ⟨w.heap.size, 4, none⟩) 4 4, .slice (some ⟨w.heap.size, 0, none⟩) 4 8]).run Tryz.prog wr.drew = .ok (.int .i64 4) w3 := hrun0
      have HF3 := Lib.hid hf3
      have hbw := hb3 _ _ (show Below w.heap.size w wr.drew from belowDN hb 1) (Nat.le_refl _)
      clear hrun0 hf3 hb3 HK
      go_wp2
      go_region
      go_wp2
      go_roundw
      case rel => exact ⟨8, .inr (.inr (.inr rfl)), rfl, hbw, HF3.out⟩
      case measure => simp [intOf]
    · go_wp2
      go_ret
      exact ⟨_, rfl, HK.out.row, hb⟩
def cpat (y u v : Nat) : List Value := [.float .f32 y, .complex .f32 u v]
theorem cell_size2 : (Tryz.prog.info? 61).map (·.size) = some 2 := by kernel_rfl
theorem cpat_one (y u v : Nat) : ∀ x ∈ cpat y u v, x.oneCell' = true := by
  intro x hx
  rcases List.mem_cons.1 hx with rfl | hx
  · rfl
  · obtain rfl := List.mem_singleton.1 hx
    rfl
theorem cpat_src {w : World} {gx y u v : Nat} (h : w.cell? ⟨gx, 0, none⟩ = some (.float .f32 y)) (h2 : w.cell? ⟨gx, 1, none⟩ = some (.complex .f32 u v)) : ∀ j x, (fills (cpat y u v) 1)[j]? = some x → w.cell? ((⟨gx, 0, none⟩ : Addr).add j) = some x := by
  intro j x hj
  have hl : j < 2 := (List.getElem?_eq_some_iff.1 hj).1
  rcases (by omega : j = 0 ∨ j = 1) with rfl | rfl
  · have e : Value.float .f32 y = x := by simpa [fills, cpat] using hj
    rw [← e]
    exact h
  · have e : Value.complex .f32 u v = x := by simpa [fills, cpat] using hj
    rw [← e]
    exact h2
theorem Fill.rowC {w : World} {g n y u v : Nat} (h : Fill 61 (cpat y u v) w g n n) : RowV w (.slice (some ⟨g, 0, none⟩) n n) (List.replicate n (y, u, v)) := by
  refine .inr ⟨g, 0, n, by simp, by simp, fun i hi => ?_⟩
  have hin : i < n := by simpa using hi
  have hg : ∀ m i, i < m → (fills (cpat y u v) m)[i * 2]? = some (.float .f32 y) ∧ (fills (cpat y u v) m)[i * 2 + 1]? = some (.complex .f32 u v) := by
    intro m
    induction m with
    | zero => intro i h; omega
    | succ m ih =>
      intro i hi
      cases i with
      | zero => exact ⟨rfl, rfl⟩
      | succ i =>
        obtain ⟨a, b⟩ := ih i (by omega)
        constructor
        · show (cpat y u v ++ fills (cpat y u v) m)[(i + 1) * 2]? = _
          rw [List.getElem?_append_right (by show 2 ≤ _; omega), show (i + 1) * 2 - (cpat y u v).length = i * 2 by show (i + 1) * 2 - 2 = i * 2; omega]
          exact a
        · show (cpat y u v ++ fills (cpat y u v) m)[(i + 1) * 2 + 1]? = _
          rw [List.getElem?_append_right (by show 2 ≤ _; omega), show (i + 1) * 2 + 1 - (cpat y u v).length = i * 2 + 1 by show (i + 1) * 2 + 1 - 2 = i * 2 + 1; omega]
          exact b
  obtain ⟨a, b⟩ := hg n i hin
  have k1 := h.cell (Nat.le_refl n) _ _ a
  have k2 := h.cell (Nat.le_refl n) _ _ b
  have hadd : ∀ j, (⟨g, 0, none⟩ : Addr).add j = ⟨g, j, none⟩ := by intro j; unfold Addr.add; split <;> simp_all
  rw [hadd] at k1 k2
  rw [Nat.zero_add, k1, k2]
  simp
set_option maxHeartbeats 1000000 in
set_option maxRecDepth 100000 in
theorem repeat4_any (y u v gx : Nat) (w : World) (h : w.cell? ⟨gx, 0, none⟩ = some (.float .f32 y)) (h2 : w.cell? ⟨gx, 1, none⟩ = some (.complex .f32 u v)) :
    Calls Tryz.prog 117 #[.slice (some ⟨gx, 0, none⟩) 1 1, .int .i64 4] w fun e w' => ∃ g, e = .returned (.slice (some ⟨g, 0, none⟩) 4 4) ∧ RowV w' (.slice (some ⟨g, 0, none⟩) 4 4) (List.replicate 4 (y, u, v)) ∧ Below w.heap.size w w' := by
  have HM := fun W => Lib.hid (mul4_any W)
  obtain ⟨w1, hw1⟩ : ∃ w1, w.alloc (.cells (madeCells #[.float .f32 0, .complex .f32 0 0] (4 * 2)) 61) = w1 := ⟨_, rfl⟩
  have hmk : (Instr.makeSlice 40 (.int .i64 4) (.int .i64 4)).run Tryz.prog w = .ok (.slice (some ⟨w.heap.size, 0, none⟩) 4 4) w1 := by rw [← hw1]; exact make_cells 4 (by decide) w
  have HF := Lib.hid (show Fill 61 (cpat y u v) (w.alloc (.cells (madeCells #[.float .f32 0, .complex .f32 0 0] (4 * 2)) 61)) w.heap.size 0 4 from Fill.start w #[.float .f32 0, .complex .f32 0 0] 4 rfl)
  have HX := Lib.hid (show (w.alloc (.cells (madeCells #[.float .f32 0, .complex .f32 0 0] (4 * 2)) 61)).cell? ⟨gx, 0, none⟩ = some (.float .f32 y) from (grown_of ((Below.refl w.heap.size w).alloc (Nat.le_refl _) _)).cell h (by simp))
  have HX2 := Lib.hid (show (w.alloc (.cells (madeCells #[.float .f32 0, .complex .f32 0 0] (4 * 2)) 61)).cell? ⟨gx, 1, none⟩ = some (.complex .f32 u v) from (grown_of ((Below.refl w.heap.size w).alloc (Nat.le_refl _) _)).cell h2 (by simp))
  have hbel := (Below.refl w.heap.size w).alloc (Nat.le_refl _) (.cells (madeCells #[.float .f32 0, .complex .f32 0 0] (4 * 2)) 61)
  rw [hw1] at HF HX HX2 hbel
  clear h h2 hw1
  go_enter Tryz.func117, Tryz.ntmps117
  go_wp2_with fail
  refine (HM _).out.mono ?_
  rintro e w2 ⟨rfl, rfl⟩
  go_wp2_with (refine wpList_fill rfl (.tmp 31) (.tmp 32) 40 40 rfl 61 Tryz.underlying40 (cpat y u v) cell_size2 (cpat_one y u v) w.heap.size 0 0 1 4 4 4 ⟨gx, 0, none⟩ 1 1 rfl rfl 61 HF.out rfl rfl (by decide) (cpat_src HX.out HX2.out) ?_; intro w2 hf2 hb2)
  have HF2 := Lib.hid hf2
  have hbel2 := hb2 _ _ hbel (Nat.le_refl _)
  clear hb2 hbel HF HX HX2 hmk hf2
  go_wp2
  go_loopw [8] (fun n wr => ∃ k : Nat, (k = 1 ∨ k = 2 ∨ k = 4) ∧ n = .int .i64 (k : Int) ∧ Below w.heap.size w wr ∧ Fill 61 (cpat y u v) wr w.heap.size k 4) (fun n _ => 4 - (intOf n).toNat)
  case atStart => exact ⟨1, .inl rfl, rfl, hbel2, HF2.out⟩
  case round =>
    obtain ⟨k, hk, rfl, hb, hf⟩ := hrel
    have HK := Lib.hid hf
    clear hf HF2
    rcases hk with rfl | rfl | rfl
    · obtain ⟨w3, hrun0, hf3, hb3⟩ := fill_run (P := Tryz.prog) (w := wr.drew) 40 40 3 61 Tryz.underlying40 (cpat y u v) cell_size2 (cpat_one y u v) w.heap.size 2 1 1 4 3 3 ⟨w.heap.size, 0, none⟩ 1 4 61 (HK.out.kept (w' := wr.drew) rfl) rfl rfl (by decide) ((HK.out.kept (w' := wr.drew) rfl).cell (Nat.le_refl _))
      have hrun : (Builtin.copy_ #[40, 40] 3 #[.slice (some ⟨w.heap.size, 2, none⟩) 3 3, .slice (some ⟨w.heap.size, 0, none⟩) 1 4]).run Tryz.prog wr.drew = .ok (.int .i64 1) w3 := hrun0
      have HF3 := Lib.hid hf3
      have hbw := hb3 _ _ (show Below w.heap.size w wr.drew from belowDN hb 1) (Nat.le_refl _)
      clear hrun0 hf3 hb3 HK
      go_wp2
      go_region
      go_wp2
      go_roundw
      case rel => exact ⟨2, .inr (.inl rfl), rfl, hbw, HF3.out⟩
      case measure => simp [intOf]
    · obtain ⟨w3, hrun0, hf3, hb3⟩ := fill_run (P := Tryz.prog) (w := wr.drew) 40 40 3 61 Tryz.underlying40 (cpat y u v) cell_size2 (cpat_one y u v) w.heap.size 4 2 2 4 2 2 ⟨w.heap.size, 0, none⟩ 2 4 61 (HK.out.kept (w' := wr.drew) rfl) rfl rfl (by decide) ((HK.out.kept (w' := wr.drew) rfl).cell (Nat.le_refl _))
      have hrun : (Builtin.copy_ #[40, 40] 3 #[.slice (some ⟨w.heap.size, 4, none⟩) 2 2, .slice (some ⟨w.heap.size, 0, none⟩) 2 4]).run Tryz.prog wr.drew = .ok (.int .i64 2) w3 := hrun0
      have HF3 := Lib.hid hf3
      have hbw := hb3 _ _ (show Below w.heap.size w wr.drew from belowDN hb 1) (Nat.le_refl _)
      clear hrun0 hf3 hb3 HK
      go_wp2
      go_region
      go_wp2
      go_roundw
      case rel => exact ⟨4, .inr (.inr rfl), rfl, hbw, HF3.out⟩
      case measure => simp [intOf]
    · go_wp2
      go_ret
      exact ⟨_, rfl, HK.out.rowC, hb⟩
end Go.Proofs.YtobpnoiienpipaaGreat

/-
  What is proved: the walks of Delay, the program's and the model's.
  Conditions: the list can be read and has at most 1000000000 numbers.
-/
namespace Go.Proofs.YtobpnoiienpipaaGreat
set_option linter.unusedVariables false
open Go.RowKit
attribute [local go_sem] run_store_float run_store_complex unary_negf neg256

/-- An answer of a list and whether there is one; the list lies in new memory. -/
def Ans (ok : Bool) (R : List Nat → Prop) (w : World) (e : Ending) (w' : World) : Prop := ∃ v ys, e = .returned (.tuple #[v, .bool ok]) ∧ R ys ∧ FNew w' w.heap.size v ys ∧ Below w.heap.size w w'
theorem Ans.mk {ok : Bool} {R : List Nat → Prop} {w w' : World} {v : Value} {ys : List Nat} (hr : R ys) (h : FNew w' w.heap.size v ys) (hb : Below w.heap.size w w') : Ans ok R w (.returned (.tuple #[v, .bool ok])) w' := ⟨v, ys, rfl, hr, h, hb⟩

theorem take_snoc {α : Type} (l : List α) (k : Nat) (h : k < l.length) : l.take (k + 1) = l.take k ++ [l[k]] := by
  rw [List.take_add_one, List.getElem?_eq_getElem h]; rfl
theorem fnew_of {w : World} {base n cap g : Nat} {xs ys : List Nat} (h : OwnF w base (.slice (some ⟨g, 0, none⟩) n cap) xs) (e : xs = ys) (hn : ys.length = n) : FNew w base (.slice (some ⟨g, 0, none⟩) n cap) ys := by
  subst e; exact h.new
end Go.Proofs.YtobpnoiienpipaaGreat
