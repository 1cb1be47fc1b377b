/-
  What is proved: the marks of up to 4096 cells.
  Conditions: those that each fact names.
-/
import Derived.Test.YtobpnoiienpipaaGreatPz25
import Derived.Test.YtobpnoiienpipaaGreatPz43
namespace Go.Proofs.YtobpnoiienpipaaGreat
set_option linter.unusedVariables false
open Go.RowKit
attribute [local go_sem] run_store_float run_store_complex unary_negf neg256

/-- What the marks want of a number. -/
def C32P (k : Nat) : Prop := cConvBits .f64 (floatOfInt .f64 (k : Int)) 4607182418800017408 .f32 = some (c32 k, 1065353216) ∧ (Ieee.single.read (c32 k)).isNaN = false
instance (k : Nat) : Decidable (C32P k) := by unfold C32P; infer_instance
theorem c32_b0 : ∀ j : Nat, j < 300 → C32P (0 + j) := by decide +kernel
theorem c32_b1 : ∀ j : Nat, j < 300 → C32P (300 + j) := by decide +kernel
theorem c32_b2 : ∀ j : Nat, j < 300 → C32P (600 + j) := by decide +kernel
theorem c32_b3 : ∀ j : Nat, j < 300 → C32P (900 + j) := by decide +kernel
theorem c32_b4 : ∀ j : Nat, j < 300 → C32P (1200 + j) := by decide +kernel
theorem c32_b5 : ∀ j : Nat, j < 300 → C32P (1500 + j) := by decide +kernel
theorem c32_b6 : ∀ j : Nat, j < 300 → C32P (1800 + j) := by decide +kernel
theorem c32_b7 : ∀ j : Nat, j < 300 → C32P (2100 + j) := by decide +kernel
theorem c32_b8 : ∀ j : Nat, j < 300 → C32P (2400 + j) := by decide +kernel
theorem c32_b9 : ∀ j : Nat, j < 300 → C32P (2700 + j) := by decide +kernel
theorem c32_b10 : ∀ j : Nat, j < 300 → C32P (3000 + j) := by decide +kernel
theorem c32_b11 : ∀ j : Nat, j < 300 → C32P (3300 + j) := by decide +kernel
theorem c32_b12 : ∀ j : Nat, j < 300 → C32P (3600 + j) := by decide +kernel
theorem c32_b13 : ∀ j : Nat, j < 300 → C32P (3900 + j) := by decide +kernel
theorem c32_b14 : ∀ j : Nat, j < 300 → C32P (4200 + j) := by decide +kernel
theorem c32_b15 : ∀ j : Nat, j < 300 → C32P (4500 + j) := by decide +kernel
theorem c32_b16 : ∀ j : Nat, j < 300 → C32P (4800 + j) := by decide +kernel
theorem c32_b17 : ∀ j : Nat, j < 300 → C32P (5100 + j) := by decide +kernel
theorem c32_b18 : ∀ j : Nat, j < 300 → C32P (5400 + j) := by decide +kernel
theorem c32_b19 : ∀ j : Nat, j < 300 → C32P (5700 + j) := by decide +kernel
theorem c32_b20 : ∀ j : Nat, j < 300 → C32P (6000 + j) := by decide +kernel
theorem c32_b21 : ∀ j : Nat, j < 300 → C32P (6300 + j) := by decide +kernel
theorem c32_b22 : ∀ j : Nat, j < 300 → C32P (6600 + j) := by decide +kernel
theorem c32_b23 : ∀ j : Nat, j < 300 → C32P (6900 + j) := by decide +kernel
theorem c32_b24 : ∀ j : Nat, j < 300 → C32P (7200 + j) := by decide +kernel
theorem c32_b25 : ∀ j : Nat, j < 300 → C32P (7500 + j) := by decide +kernel
theorem c32_b26 : ∀ j : Nat, j < 300 → C32P (7800 + j) := by decide +kernel
theorem c32_b27 : ∀ j : Nat, j < 300 → C32P (8100 + j) := by decide +kernel
theorem c32_all (k : Nat) (h : k < 8400) : cConvBits .f64 (floatOfInt .f64 (k : Int)) 4607182418800017408 .f32 = some (c32 k, 1065353216) ∧ (Ieee.single.read (c32 k)).isNaN = false := by
  show C32P k
  have e : k = 300 * (k / 300) + k % 300 := (Nat.div_add_mod k 300).symm
  have hm : k % 300 < 300 := Nat.mod_lt _ (by decide)
  have hd : k / 300 < 28 := by omega
  generalize k / 300 = d at *
  generalize k % 300 = j at *
  subst e
  rcases (by omega : d = 0 ∨ d = 1 ∨ d = 2 ∨ d = 3 ∨ d = 4 ∨ d = 5 ∨ d = 6 ∨ d = 7 ∨ d = 8 ∨ d = 9 ∨ d = 10 ∨ d = 11 ∨ d = 12 ∨ d = 13 ∨ d = 14 ∨ d = 15 ∨ d = 16 ∨ d = 17 ∨ d = 18 ∨ d = 19 ∨ d = 20 ∨ d = 21 ∨ d = 22 ∨ d = 23 ∨ d = 24 ∨ d = 25 ∨ d = 26 ∨ d = 27) with rfl | rfl | rfl | rfl | rfl | rfl | rfl | rfl | rfl | rfl | rfl | rfl | rfl | rfl | rfl | rfl | rfl | rfl | rfl | rfl | rfl | rfl | rfl | rfl | rfl | rfl | rfl | rfl
  · exact c32_b0 j hm
  · exact c32_b1 j hm
  · exact c32_b2 j hm
  · exact c32_b3 j hm
  · exact c32_b4 j hm
  · exact c32_b5 j hm
  · exact c32_b6 j hm
  · exact c32_b7 j hm
  · exact c32_b8 j hm
  · exact c32_b9 j hm
  · exact c32_b10 j hm
  · exact c32_b11 j hm
  · exact c32_b12 j hm
  · exact c32_b13 j hm
  · exact c32_b14 j hm
  · exact c32_b15 j hm
  · exact c32_b16 j hm
  · exact c32_b17 j hm
  · exact c32_b18 j hm
  · exact c32_b19 j hm
  · exact c32_b20 j hm
  · exact c32_b21 j hm
  · exact c32_b22 j hm
  · exact c32_b23 j hm
  · exact c32_b24 j hm
  · exact c32_b25 j hm
  · exact c32_b26 j hm
  · exact c32_b27 j hm
end Go.Proofs.YtobpnoiienpipaaGreat

/-
  What is proved: the marks of up to 4096 cells.
  Conditions: those that each fact names.
-/
namespace Go.Proofs.YtobpnoiienpipaaGreat
set_option linter.unusedVariables false
open Go.RowKit
attribute [local go_sem] run_store_float run_store_complex unary_negf neg256

theorem c32_runsB (k : Nat) (h : k < 8400) (W : World) : (convert 118 26 (.complex .f64 (floatOfInt .f64 (k : Int)) 4607182418800017408)).run Tryz.prog W = .ok (.complex .f32 (c32 k) 1065353216) W :=
  run_convert_complex (P := Tryz.prog) W 118 26 .f64 .f32 _ _ _ _ (by kernel_rfl) Tryz.underlying26 (c32_all k h).1
set_option maxHeartbeats 2000000 in
theorem markCellsKB_any (k0 base : Nat) (v : Value) (cs : List C3) (w : World) (h : RNew w base v cs) (hl : cs.length ≤ 64) (hk0 : k0 ≤ 8200) :
    Calls Tryz.prog 50 #[v, .int .i64 (k0 : Int)] w fun e w' => MarkK base k0 v cs.length w e w' := by
  rcases h with ⟨rfl, rfl⟩ | ⟨g, cap, cur, rfl, hbase, hcap, hheap, hsz, hc⟩
  · go_enter Tryz.func50, Tryz.ntmps50
    go_wp2
    go_loop [1, 5] (fun kk i => kk = .int .i64 (k0 : Int) ∧ i = .int .i64 0) (fun _ _ => 0)
    case atStart => exact ⟨rfl, rfl⟩
    case round =>
      obtain ⟨rfl, rfl⟩ := hrel
      go_wp2
      go_ret
      exact ⟨rfl, RNew.nil _ _, World.grownBy.refl _ _⟩
  · have HST := Lib.hid (show MadeC w g cs.length 0 (kmarks k0 cs.length) from ⟨cur, hheap, hsz, fun i _ hi => absurd hi (by omega)⟩)
    clear hheap hc
    go_enter Tryz.func50, Tryz.ntmps50
    go_wp2
    go_loopw [1, 5] (fun kk i wr => ∃ k m : Nat, k ≤ cs.length ∧ i = .int .i64 (k : Int) ∧ kk = .int .i64 (m : Int) ∧ m = k0 + 2 * k ∧ w.grownBy wr (some g) ∧ MadeC wr g cs.length k (kmarks k0 cs.length)) (fun _ i _ => cs.length - (intOf i).toNat)
    case atStart => exact ⟨0, k0, Nat.zero_le _, rfl, rfl, by omega, World.grownBy.refl _ _, HST.out⟩
    case round =>
      obtain ⟨k, m, hk, rfl, rfl, hm1, hg, hm⟩ := hrel
      have HM := Lib.hid hm
      have hm64 : m ≤ 8328 := by omega
      have HM1 := Lib.hid hm1
      clear hm HST hm1
      by_cases hlt : k < cs.length
      · obtain ⟨⟨x0, hx0⟩, hf0, ⟨x1, hx1⟩, hf1⟩ := HM.out.at k hlt (.float .f32 (floatOfInt .f32 (m : Int)))
        have hcv := c32_runsB (m + 1) (by omega)
        have hlm : k < (kmarks k0 cs.length).length := by rw [kmarks_len]; exact hlt
        have hm3 := HM.out.step hlm (by rw [kmarks_len]; exact Nat.le_refl _)
        rw [kmarks_get] at hm3
        simp only [kmark, show k0 + 2 * k = m from HM1.out.symm] at hm3
        have hg3 := (hg.trans (Lib.grownBy_setCell wr g (k * 2) (.float .f32 (floatOfInt .f32 (m : Int))))).trans (Lib.grownBy_setCell _ g (k * 2 + 1) (.complex .f32 (c32 (m + 1)) 1065353216))
        have HM3 := Lib.hid hm3
        have HG3 := Lib.hid hg3
        rw [show ((m + 1 : Nat) : Int) = (m : Int) + 1 from by omega] at hcv
        clear hm3 hg3
        generalize c32 (m + 1) = c2 at *
        go_wp2
        go_roundw
        case rel => exact ⟨k + 1, m + 2, by omega, by go_num, by go_num, by have := HM1.out; omega, HG3.out, HM3.out⟩
        case measure => simp [intOf]; omega
      · have hkk : k = cs.length := by omega
        subst hkk
        have hmm := HM1.out
        subst hmm
        go_wp2
        go_ret
        obtain ⟨cur', k1, k2, k3⟩ := HM.out
        exact ⟨rfl, .inr ⟨g, cap, cur', by rw [kmarks_len], hbase, by rw [kmarks_len]; exact hcap, k1, by rw [kmarks_len]; exact k2, fun i hi => k3 i hi (by rw [kmarks_len] at hi; exact hi)⟩, hg⟩
set_option maxHeartbeats 2000000 in
theorem heldCellsKB_any (k0 : Nat) (v : Value) (n : Nat) (w : World) (h : RowV w v (kmarks k0 n)) (hl : n ≤ 64) (hk0 : k0 ≤ 8200) :
    Calls Tryz.prog 51 #[v, .int .i64 (k0 : Int)] w fun e w' => e = .returned (.int .i64 ((k0 + 2 * n : Nat) : Int)) ∧ ∃ q, w' = w.drewN q := by
  obtain ⟨a, c, rfl, hcell⟩ : ∃ a c, v = .slice a n c ∧ ∀ k, k < n → ∃ g o, a = some ⟨g, o, none⟩ ∧ n ≤ c ∧ w.cell? ⟨g, o + k * 2, none⟩ = some (.float .f32 (kmark k0 k).1) ∧ w.cell? ⟨g, o + k * 2 + 1, none⟩ = some (.complex .f32 (kmark k0 k).2.1 (kmark k0 k).2.2) := by
    rcases h with ⟨rfl, h0⟩ | ⟨g, o, cap, rfl, hcap, hcell⟩
    · have e := congrArg List.length h0
      rw [kmarks_len] at e
      subst e
      exact ⟨none, 0, rfl, fun k hk => absurd hk (Nat.not_lt_zero k)⟩
    · rw [kmarks_len] at hcap ⊢
      refine ⟨_, _, rfl, fun k hk => ⟨g, o, rfl, hcap, ?_⟩⟩
      have h1 := hcell k (by rw [kmarks_len]; exact hk)
      rw [kmarks_get] at h1
      exact h1
  have HC := Lib.hid hcell
  clear hcell h
  go_enter Tryz.func51, Tryz.ntmps51
  go_wp2
  go_loopw [1, 5] (fun kk i wr => ∃ k m q : Nat, k ≤ n ∧ i = .int .i64 (k : Int) ∧ kk = .int .i64 (m : Int) ∧ m = k0 + 2 * k ∧ wr = w.drewN q) (fun _ i _ => n - (intOf i).toNat)
  case atStart => exact ⟨0, k0, 0, Nat.zero_le _, rfl, rfl, by omega, rfl⟩
  case round =>
    obtain ⟨k, m, q, hk, rfl, rfl, hm1, rfl⟩ := hrel
    have hm64 : m ≤ 8328 := by omega
    have HM1 := Lib.hid hm1
    clear hm1
    by_cases hlt : k < n
    · obtain ⟨g, o, rfl, hcap, hc0, hc1⟩ := HC.out k hlt
      simp only [kmark, show k0 + 2 * k = m from HM1.out.symm] at hc0 hc1
      have hs : FloatKind.f32.format.order (floatOfInt .f32 (m : Int)) (floatOfInt .f32 (m : Int)) = some .eq := ofInt_self _
      have hs2 : FloatKind.f32.format.order (c32 (m + 1)) (c32 (m + 1)) = some .eq := Flt.order_self (f := Ieee.single) (c32_all (m + 1) (by omega)).2
      have hs3 : FloatKind.f32.format.order 1065353216 1065353216 = some .eq := by decide +kernel
      have hcv := c32_runsB (m + 1) (by omega)
      rw [show ((m + 1 : Nat) : Int) = (m : Int) + 1 from by omega] at hcv
      have hnc := fun W => neq_colour (c32 (m + 1)) 1065353216 (c32 (m + 1)) 1065353216 W
      rw [hs2, hs3] at hnc
      generalize c32 (m + 1) = c2 at *
      go_wp2

      go_roundw
      case rel => exact ⟨k + 1, m + 2, _, by omega, by go_num, by go_num, by have := HM1.out; omega, rfl⟩
      case measure => simp [intOf]; omega
    · have hkk : k = n := by omega
      subst hkk
      have hmm := HM1.out
      subst hmm
      go_wp2
      go_ret
      exact ⟨rfl, _, rfl⟩
set_option maxHeartbeats 2000000 in
theorem markRowsB_any (base : Nat) (v : Value) (rows : List (List C3)) (ss : List SV) (w : World) (h : GridN w base v rows ss) (hl : rows.length ≤ 2000000) (hr : csum rows ≤ 4096) (hr64 : ∀ r ∈ rows, r.length ≤ 64) (hr0 : ∀ k, k < rows.length → 2 * csum (rows.take k) ≤ 8199) :
    Calls Tryz.prog 21 #[v, .int .i64 1] w fun e w' => MarkN base v rows ss w e w' := by
  obtain ⟨a, c, rfl, hcell⟩ := rowsC_any h.own.row
  have hl1 := h.len
  have HC := Lib.hid hcell
  have HST := Lib.hid h
  have HML := Lib.hid (kgrid_len 1 rows)
  have hls : ss.length ≤ 2000000 := by omega
  have HL1 := Lib.hid hl1
  have HR0 := Lib.hid hr0
  have HR64 := Lib.hid hr64
  clear hcell h hl1 hr0 hr64
  go_enter Tryz.func21, Tryz.ntmps21
  go_wp2
  go_loopw [1, 5] (fun kk i wr => ∃ k m : Nat, k ≤ ss.length ∧ i = .int .i64 (k : Int) ∧ kk = .int .i64 (m : Int) ∧ m = 1 + 2 * csum (rows.take k) ∧ Turn w wr (GBlk (.slice a ss.length c) ss) ∧ GridN wr base (.slice a ss.length c) ((kgrid 1 rows).take k ++ rows.drop k) ss) (fun _ i _ => ss.length - (intOf i).toNat)
  case atStart => exact ⟨0, 1, Nat.zero_le _, rfl, rfl, rfl, Turn.refl _ _, by simpa using HST.out⟩
  case round =>
    obtain ⟨k, m, hk, rfl, rfl, hm1, ht, hm⟩ := hrel
    have HM := Lib.hid hm
    have HT := Lib.hid ht
    have hm64 : m ≤ 8193 := by have := csum_le (rs := rows) k; omega
    have HM1 := Lib.hid hm1
    clear hm HST hm1 ht
    by_cases hlt : k < ss.length
    · have hltr : k < rows.length := by have := HL1.out; omega
      have hmr : k < (kgrid 1 rows).length := by rw [HML.out]; exact hltr
      obtain ⟨g, o, rfl, hcap, hc0⟩ := HC.out k hlt
      have hgb : GBlk (.slice (some ⟨g, o, none⟩) ss.length c) ss g := .inl rfl
      have hcell2 := (rowsC_any HM.out.own.row)
      obtain ⟨a2, c2, e2, hcell2⟩ := hcell2
      cases e2
      obtain ⟨g3, o3, e3, _, hc3⟩ := hcell2 k hlt
      cases e3
      have hrk : (kgrid 1 rows)[k] = kmarks m rows[k].length := by rw [kgrid_get 1 rows k hmr hltr, ← HM1.out]
      have htl : k < ((kgrid 1 rows).take k ++ rows.drop k).length := by rw [take_drop_len HML.out (by omega)]; exact hltr
      have hrow := HM.out.row k hlt htl
      rw [take_drop_at HML.out hltr htl] at hrow
      have hsl : rows[k].length ≤ 64 := HR64.out _ (List.getElem_mem hltr)
      have hm160 : m ≤ 8200 := by have := HR0.out k hltr; have := HM1.out; omega
      have HMF := Lib.hid (markCellsKB_any m base ss[k].v rows[k] wr hrow hsl hm160)
      have HNX := Lib.hid (fun (w' : World) (hg : wr.grownBy w' ss[k].v.ownBlock) (hn : RNew w' base ss[k].v (kmarks m rows[k].length)) => And.intro (HM.out.put hlt hg hn) ((HT.out).trans ((Turn.of hg).mono (fun j _ hj => (.inr ⟨k, hlt, hj⟩ : GBlk (.slice (some ⟨g, o, none⟩) ss.length c) ss j)))))
      have HSD := Lib.hid (set_take_drop hmr hltr hrk)
      have HGS := Lib.hid (csum_succ hltr)
      clear hc0 hrow hcell2 htl hmr hrk
      generalize rows[k].length = rl at *
      generalize ss[k].v = vk at *
      go_wp2_with fail
      refine (HMF.out).mono ?_
      rintro e w2 ⟨rfl, hn2, hg2⟩
      obtain ⟨hgr, htt⟩ := HNX.out w2 hg2 hn2
      rw [HSD.out] at hgr
      have HGR := Lib.hid hgr
      have HTT := Lib.hid htt
      clear hn2 hg2 hgr htt hc3
      go_wp2
      go_roundw
      case rel => exact ⟨k + 1, m + 2 * rl, by omega, by go_num, by go_num, by have h1 := HGS.out; have h2 := HM1.out; omega, HTT.out, HGR.out⟩
      case measure => simp [intOf]; omega
    · have hkk : k = ss.length := by omega
      subst hkk
      have HF := Lib.hid (show GridN wr base (.slice a ss.length c) (kgrid 1 rows) ss by
        have := HM.out
        rw [HL1.out] at this
        rwa [List.take_of_length_le (by rw [HML.out]; exact Nat.le_refl _), List.drop_length, List.append_nil, ← HL1.out] at this)
      have HMM := Lib.hid (show m = 1 + 2 * csum rows by rw [HM1.out, HL1.out, List.take_length])
      go_wp2
      go_ret
      exact ⟨by rw [HMM.out]; simp, HF.out, HT.out⟩
set_option maxHeartbeats 2000000 in
theorem heldRowsB_any (base : Nat) (v : Value) (rows : List (List C3)) (ss : List SV) (w : World) (h : GridN w base v (kgrid 1 rows) ss) (hl : rows.length ≤ 2000000) (hr : csum rows ≤ 4096) (hr64 : ∀ r ∈ rows, r.length ≤ 64) (hr0 : ∀ k, k < rows.length → 2 * csum (rows.take k) ≤ 8199) :
    Calls Tryz.prog 22 #[v, .int .i64 1] w fun e w' => e = .returned (.int .i64 (1 + 2 * (csum rows : Nat) : Int)) ∧ ∃ q, w' = w.drewN q := by
  obtain ⟨a, c, rfl, hcell⟩ := rowsC_any h.own.row
  have hl1 := h.len
  rw [kgrid_len] at hl1
  have HC := Lib.hid hcell
  have HST := Lib.hid h
  have HML := Lib.hid (kgrid_len 1 rows)
  have hls : ss.length ≤ 2000000 := by omega
  have HL1 := Lib.hid hl1
  have HR0 := Lib.hid hr0
  have HR64 := Lib.hid hr64
  clear hcell h hl1 hr0 hr64
  go_enter Tryz.func22, Tryz.ntmps22
  go_wp2
  go_loopw [1, 5] (fun kk i wr => ∃ k m q : Nat, k ≤ ss.length ∧ i = .int .i64 (k : Int) ∧ kk = .int .i64 (m : Int) ∧ m = 1 + 2 * csum (rows.take k) ∧ wr = w.drewN q) (fun _ i _ => ss.length - (intOf i).toNat)
  case atStart => exact ⟨0, 1, 0, Nat.zero_le _, rfl, rfl, rfl, rfl⟩
  case round =>
    obtain ⟨k, m, q, hk, rfl, rfl, hm1, rfl⟩ := hrel
    have hm64 : m ≤ 8193 := by have := csum_le (rs := rows) k; omega
    have HM1 := Lib.hid hm1
    clear hm1
    by_cases hlt : k < ss.length
    · have hltr : k < rows.length := by have := HL1.out; omega
      have hmr : k < (kgrid 1 rows).length := by rw [HML.out]; exact hltr
      obtain ⟨g, o, rfl, hcap, hc0⟩ := HC.out k hlt
      have hrow := HST.out.row k hlt hmr
      rw [kgrid_get 1 rows k hmr hltr, ← HM1.out] at hrow
      have hsl : rows[k].length ≤ 64 := HR64.out _ (List.getElem_mem hltr)
      have hm160 : m ≤ 8200 := by have := HR0.out k hltr; have := HM1.out; omega
      have HMF := Lib.hid (heldCellsKB_any m ss[k].v rows[k].length (w.drewN q) ((hrow.below (belowDN (Below.refl _ _) q)).row) hsl hm160)
      have HGS := Lib.hid (csum_succ hltr)
      have q0 : (w.drewN q).cell? ⟨g, o + k, none⟩ = some ss[k].v := hc0
      clear hc0 hrow hmr
      generalize rows[k].length = rl at *
      generalize ss[k].v = vk at *
      go_wp2_with fail
      refine (HMF.out).mono ?_
      rintro e w2 ⟨rfl, n2, rfl⟩
      go_wp2
      go_roundw
      case rel => exact ⟨k + 1, m + 2 * rl, q + n2, by omega, by go_num, by go_num, by have h1 := HGS.out; have h2 := HM1.out; omega, rfl⟩
      case measure => simp [intOf]; omega
    · have hkk : k = ss.length := by omega
      subst hkk
      have HMM := Lib.hid (show m = 1 + 2 * csum rows by rw [HM1.out, HL1.out, List.take_length])
      go_wp2
      go_ret
      exact ⟨by rw [HMM.out]; simp, _, rfl⟩
end Go.Proofs.YtobpnoiienpipaaGreat

/-
  What is proved: what is received is determined; its bounds; the model's Receive, of any set and any stream.
  Conditions: those that each fact names.
-/
namespace Go.Proofs.YtobpnoiienpipaaGreat
set_option linter.unusedVariables false
open Go.RowKit

theorem specReceive_full (x : SetC) (vl v : Value) (log : List (List UInt8)) (xs : List Nat) (w : World) (hx : x.ok) (hlog : TRow w vl log) (hll : log.length ≤ 3000000) (h : FRow w v xs) (hl : xs.length ≤ 3000000) :
    Calls Tryz.prog 13 #[x.val vl, v] w fun e w' => RecA x log.length xs w e w' :=
  specReceive_any x vl v log xs w hx hlog hll h hl (fun n out h => h.full)
/-- At most 64 rows of at most 64 cells, no number of which is NaN. -/
def Rows64 (rows : List (List C3)) : Prop := rows.length ≤ 64 ∧ ∀ r ∈ rows, r.length ≤ 64 ∧ NumL r
theorem RecR.bnd {x : SetC} {n : Nat} {xs : List Nat} {rows : List (List C3)} {ok : Bool} (h : RecR x n xs rows ok) : Rows64 rows := by
  have hnil : Rows64 [] := ⟨Nat.zero_le _, fun r hr => by cases hr⟩
  rcases h with ⟨_, _, rfl⟩ | ⟨h1, out, o, hr, ⟨_, _, rfl⟩ | ⟨rfl, _, rfl⟩⟩
  · exact hnil
  · exact hnil
  · split
    · rw [Bool.and_eq_true, decide_eq_true_iff] at h1
      obtain ⟨h2, h3⟩ := h1
      unfold setB rowCnt at h2
      simp only [Bool.and_eq_true, decide_eq_true_eq] at h2
      have h4 := h2.2.2.1
      rcases hr with ⟨_, htk⟩ | ⟨e, _⟩
      · refine ⟨by rw [wv_len]; omega, fun r hr => ?_⟩
        exact htk.row r (wv_mem htk.len r hr)
      · cases e
    · exact hnil
theorem csum_64 : ∀ {rows : List (List C3)}, (∀ r ∈ rows, r.length ≤ 64) → csum rows ≤ rows.length * 64
  | [], _ => Nat.zero_le _
  | r :: rows, h => by
    have h1 := csum_64 (rows := rows) fun x hx => h x (List.mem_cons_of_mem _ hx)
    have h2 := h r (List.mem_cons_self ..)
    unfold csum at h1 ⊢
    rw [List.map_cons, List.sum_cons, List.length_cons]
    omega
theorem Rows64.csum {rows : List (List C3)} (h : Rows64 rows) : Go.Proofs.YtobpnoiienpipaaGreat.csum rows ≤ 4096 := by
  have h1 := csum_64 fun r hr => (h.2 r hr).1
  have := h.1
  omega
/-- What is received is one thing. -/
theorem rec_fix (x : SetC) (n : Nat) (xs : List Nat) : ∃ (LL : List (List C3)) (okk : Bool), Rows64 LL ∧ ∀ rows ok, RecR x n xs rows ok → ok = okk ∧ rows = LL := by
  by_cases h : ∃ rows ok, RecR x n xs rows ok
  · obtain ⟨rows, ok, h⟩ := h
    exact ⟨rows, ok, h.bnd, fun rows' ok' h' => h'.same h⟩
  · exact ⟨[], true, ⟨Nat.zero_le _, fun r hr => by cases hr⟩, fun rows ok h' => absurd ⟨rows, ok, h'⟩ h⟩
/-- The answer, named. -/
def RecG (LL : List (List C3)) (okk : Bool) (w : World) (e : Ending) (w' : World) : Prop := ∃ v ss, e = .returned (.tuple #[v, .bool okk]) ∧ GridN w' w.heap.size v LL ss ∧ Below w.heap.size w w'
theorem rec_got {f : FuncId} {args : Array Value} {x : SetC} {n : Nat} {xs : List Nat} {LL : List (List C3)} {okk : Bool} {w : World} (hfix : ∀ rows ok, RecR x n xs rows ok → ok = okk ∧ rows = LL) (h : Calls Tryz.prog f args w fun e w' => RecA x n xs w e w') :
    Calls Tryz.prog f args w fun e w' => RecG LL okk w e w' := by
  refine h.mono ?_
  rintro e w' ⟨v, rows, ss, ok, rfl, hr, hg, hb⟩
  obtain ⟨rfl, rfl⟩ := hfix rows ok hr
  exact ⟨v, ss, rfl, hg, hb⟩
end Go.Proofs.YtobpnoiienpipaaGreat
