/-
  What is proved: the exact laws' comparing and marking of lists of bools.
  Conditions: those that each fact names.
-/
import Derived.Test.YtobpnoiienpipaaDoorPkGen
import Derived.Test.YtobpnoiienpipaaDoorFEq
import Derived.Test.YtobpnoiienpipaaDoorStrA
namespace Go.Proofs.YtobpnoiienpipaaDoor
set_option linter.unusedVariables false
open Go.RowKit
attribute [local go_sem] run_store_float run_store_complex unary_negf neg256

/-- Bools. -/
def LB : Lay Bool := ⟨30, 4, 1, 1, fun x => [.bool x]⟩
theorem info_bool : (Tryd.prog.info? 4).map (fun i => (i.zero, i.size, i.bytes)) = some (some (.bool false), 1, 1) := by kernel_rfl
theorem LB_ok : LB.Ok := by
  refine ⟨fun _ => rfl, fun x u hu => ?_, by decide, Tryd.underlying30, ?_, by decide⟩
  · obtain rfl := List.mem_singleton.1 hu; rfl
  · obtain ⟨i, h1, h2, h3, h4⟩ := info_parts info_bool
    exact ⟨i, _, h1, h2, h3, h4, rfl⟩
theorem lb_cells (xs : List Bool) : LB.cells xs = xs.map .bool := by
  induction xs with
  | nil => rfl
  | cons x xs ih => show Value.bool x :: LB.cells xs = _; rw [ih]; rfl
theorem made_bool (n : Nat) : (madeCells #[.bool false] n).toList = LB.cells (List.replicate n false) := by
  rw [lb_cells]
  refine List.ext_getElem (by simp [madeCells]) fun i h1 h2 => ?_
  simp [madeCells, Nat.mod_one]
theorem lb_made (w : World) (n : Nat) (hn : n ≤ 1000000000) : LB.Own (w.alloc (.cells (madeCells #[.bool false] n) 4)) w.heap.size (.slice (some ⟨w.heap.size, 0, none⟩) n n) (List.replicate n false) := by
  have hlen : (List.replicate n false).length = n := List.length_replicate
  refine ⟨LB_ok.cells_len _, .inr ⟨_, n, madeCells #[.bool false] n, by rw [hlen], Nat.le_refl _, heap_alloc_new w _, by rw [hlen]; exact Nat.le_refl _, by unfold maxLen; omega, by rw [size_madeCells]; exact (Nat.mul_one n).symm, ?_⟩⟩
  rw [made_bool, List.take_of_length_le (by rw [LB_ok.cells_len]; exact Nat.le_refl _)]
theorem make_bools (n : Nat) (hn : n ≤ 1000000000) (W : World) : (Instr.makeSlice 30 (.int .i64 (n : Int)) (.int .i64 (n : Int))).run Tryd.prog W = .ok (.slice (some ⟨W.heap.size, 0, none⟩) n n) (W.alloc (.cells (madeCells #[.bool false] n) 4)) := by
  obtain ⟨i0, hi, hz0, hz1, hz2⟩ := info_parts info_bool
  have h := run_make (P := Tryd.prog) W 30 4 i0 _ Tryd.underlying30 hi hz0 .i64 .i64 n n (by omega) (by omega) (by rw [hz2]; omega) (by omega)
  rw [hz1] at h
  simpa [Value.cells] using h
/-- Each bool of a list can be read. -/
theorem bools_any {w : World} {v : Value} {xs : List Bool} (h : LB.Row w v xs) : ∃ a c, v = .slice a xs.length c ∧ ∀ k (hk : k < xs.length), ∃ g o, a = some ⟨g, o, none⟩ ∧ xs.length ≤ c ∧ w.cell? ⟨g, o + k, none⟩ = some (.bool xs[k]) := by
  obtain ⟨a, c, rfl, hc⟩ := h.any LB_ok
  refine ⟨a, c, rfl, fun k hk => ?_⟩
  obtain ⟨g, o, h1, h2, h3⟩ := hc k hk
  have h4 := h3 0 (.bool xs[k]) rfl
  rw [show k * LB.size + 0 = k from Nat.mul_one k] at h4
  exact ⟨g, o, h1, h2, h4⟩
theorem own_types {w : World} {base base' : Nat} {v d : Value} {ls : List (List UInt8)} {bs : List Bool} (h : OwnS w base v ls) (h' : LB.Own w base' d bs) : ∀ k, v.ownBlock = some k → d.ownBlock ≠ some k := by
  intro k hk hk'
  rcases h.2 with ⟨rfl, _⟩ | ⟨g, cap, cur, rfl, _, hg, _⟩
  · cases hk
  rcases h'.2 with ⟨rfl, _⟩ | ⟨g', cap', cur', rfl, _, hg', _⟩
  · cases hk'
  cases hk
  cases hk'
  rw [hg] at hg'
  injection hg' with e
  injection e with _ e2
  exact absurd e2 (by decide)
/-- The bools that the laws mark with, from k0 on. -/
def bmarks (k0 n : Nat) : List Bool := (List.range n).map fun (i : Nat) => decide ((k0 + i) % 3 = 0)
theorem bmarks_len (k0 n : Nat) : (bmarks k0 n).length = n := by simp [bmarks]
theorem bmarks_get (k0 n i : Nat) (h : i < (bmarks k0 n).length) : (bmarks k0 n)[i] = decide ((k0 + i) % 3 = 0) := by simp [bmarks]
def MarkB (k0 base : Nat) (v : Value) (n : Nat) (w : World) (e : Ending) (w' : World) : Prop := e = .returned (.int .i64 ((k0 : Int) + (n : Int))) ∧ LB.Own w' base v (bmarks k0 n) ∧ w.grownBy w' v.ownBlock
theorem mod3 (k : Nat) : ((k : Int) % 3 == 0) = decide (k % 3 = 0) := by
  by_cases h : k % 3 = 0
  · rw [decide_eq_true h, show (k : Int) % 3 = 0 by omega]; rfl
  · rw [decide_eq_false h]; simp; omega
set_option maxHeartbeats 2000000 in
theorem markBools_any (k0 base : Nat) (v : Value) (xs : List Bool) (w : World) (h : LB.Own w base v xs) (hl : xs.length ≤ 1000000000) (hk0 : k0 ≤ 1000000000) :
    Calls Tryd.prog 37 #[v, .int .i64 (k0 : Int)] w fun e w' => MarkB k0 base v xs.length w e w' := by
  rcases h.shape with ⟨rfl, rfl⟩ | ⟨g, cap, rfl, hbase, hg, hcap, _⟩
  · clear h
    go_enter Tryd.func37, Tryd.ntmps37
    go_wp2
    go_loop [1, 5] (fun kk i => kk = .int .i64 (k0 : Int) ∧ i = .int .i64 0) (fun _ _ => 0)
    case atStart => exact ⟨rfl, rfl⟩
    case round =>
      obtain ⟨rfl, rfl⟩ := hrel
      go_wp2
      go_ret
      exact ⟨by simp, LB.ownNil _ _, World.grownBy.refl _ _⟩
  · have HST := Lib.hid h
    have HML := Lib.hid (bmarks_len k0 xs.length)
    clear h
    go_enter Tryd.func37, Tryd.ntmps37
    go_wp2
    go_loopw [1, 5] (fun kk i wr => ∃ k : Nat, k ≤ xs.length ∧ i = .int .i64 (k : Int) ∧ kk = .int .i64 ((k0 : Int) + (k : Int)) ∧ w.grownBy wr (some g) ∧ LB.Own wr base (.slice (some ⟨g, 0, none⟩) xs.length cap) ((bmarks k0 xs.length).take k ++ xs.drop k)) (fun _ i _ => xs.length - (intOf i).toNat)
    case atStart => exact ⟨0, Nat.zero_le _, rfl, by simp, World.grownBy.refl _ _, by simpa using HST.out⟩
    case round =>
      obtain ⟨k, hk, rfl, rfl, hg, hm⟩ := hrel
      have HM := Lib.hid hm
      clear hm HST
      by_cases hlt : k < xs.length
      · have htl : k < ((bmarks k0 xs.length).take k ++ xs.drop k).length := by rw [take_drop_len HML.out hk]; exact hlt
        have hlm : k < (bmarks k0 xs.length).length := by rw [HML.out]; exact hlt
        obtain ⟨⟨x0, hx0⟩, hf0⟩ := HM.out.at LB_ok htl (show 0 < LB.size by decide) (show k = k * LB.size + 0 from (Nat.mul_one k).symm)
        have hm3 := HM.out.put LB_ok (z := decide ((k0 + k) % 3 = 0)) htl (show 0 < LB.size by decide) (show k = k * LB.size + 0 from (Nat.mul_one k).symm) (u := .bool (decide ((k0 + k) % 3 = 0))) rfl
        rw [set_take_drop hlm hlt (bmarks_get _ _ _ _)] at hm3
        have HM3 := Lib.hid hm3
        have hg3 := hg.trans (Lib.grownBy_setCell wr g k (.bool (decide ((k0 + k) % 3 = 0))))
        have h3 := mod3 (k0 + k)
        rw [Int.natCast_add] at h3
        generalize decide ((k0 + k) % 3 = 0) = bb at *
        clear hm3 htl hlm
        go_wp2
        go_roundw
        case rel => exact ⟨k + 1, by omega, by go_num, by go_num, hg3, HM3.out⟩
        case measure => simp [intOf]; omega
      · have hkk : k = xs.length := by omega
        subst hkk
        have HF := Lib.hid (show LB.Own wr base (.slice (some ⟨g, 0, none⟩) xs.length cap) (bmarks k0 xs.length) by
          have := HM.out
          rwa [List.take_of_length_le (by rw [HML.out]; exact Nat.le_refl _), List.drop_length, List.append_nil] at this)
        go_wp2
        go_ret
        exact ⟨rfl, HF.out, hg⟩
set_option maxHeartbeats 2000000 in
theorem heldBools_any (k0 : Nat) (v : Value) (n : Nat) (w : World) (h : LB.Row w v (bmarks k0 n)) (hl : n ≤ 1000000000) (hk0 : k0 ≤ 1000000000) :
    Calls Tryd.prog 38 #[v, .int .i64 (k0 : Int)] w fun e w' => e = .returned (.int .i64 ((k0 : Int) + (n : Int))) ∧ Below w.heap.size w w' := by
  obtain ⟨a, c, rfl, hcell⟩ := bools_any h
  rw [bmarks_len]
  have HC := Lib.hid hcell
  clear hcell h
  go_enter Tryd.func38, Tryd.ntmps38
  go_wp2
  go_loopw [1, 5] (fun kk i wr => ∃ k q : Nat, k ≤ n ∧ i = .int .i64 (k : Int) ∧ kk = .int .i64 ((k0 : Int) + (k : Int)) ∧ wr = w.drewN q) (fun _ i _ => n - (intOf i).toNat)
  case atStart => exact ⟨0, 0, Nat.zero_le _, rfl, by simp, rfl⟩
  case round =>
    obtain ⟨k, q, hk, rfl, rfl, rfl⟩ := hrel
    by_cases hlt : k < n
    · have hlm : k < (bmarks k0 n).length := by rw [bmarks_len]; exact hlt
      obtain ⟨g, o, rfl, hcap, hc0⟩ := HC.out k hlm
      rw [bmarks_get] at hc0
      rw [bmarks_len] at hcap
      have h3 := mod3 (k0 + k)
      rw [Int.natCast_add] at h3
      generalize decide ((k0 + k) % 3 = 0) = bb at *
      clear hlm
      go_wp2
      go_roundw
      case rel => exact ⟨k + 1, _, by omega, by go_num, by go_num, rfl⟩
      case measure => simp [intOf]; omega
    · have hkk : k = n := by omega
      subst hkk
      go_wp2
      go_ret
      exact ⟨rfl, belowN (Below.refl _ _) _⟩
set_option maxHeartbeats 2000000 in
theorem eqBools_self (v v' : Value) (xs : List Bool) (w : World) (h : LB.Row w v xs) (h' : LB.Row w v' xs) (hl : xs.length ≤ 1000000000) :
    Calls Tryd.prog 34 #[v, v'] w fun e w' => e = .returned (.bool true) ∧ Below w.heap.size w w' := by
  obtain ⟨a, c, rfl, hcell⟩ := bools_any h
  obtain ⟨a', c', rfl, hcell'⟩ := bools_any h'
  have HC := Lib.hid hcell
  have HC' := Lib.hid hcell'
  clear hcell hcell' h h'
  go_enter Tryd.func34, Tryd.ntmps34
  go_wp2
  go_loopw [5] (fun i wr => ∃ k q : Nat, k ≤ xs.length ∧ i = .int .i64 (k : Int) ∧ wr = w.drewN q) (fun i _ => xs.length - (intOf i).toNat)
  case atStart => exact ⟨0, 0, Nat.zero_le _, rfl, rfl⟩
  case round =>
    obtain ⟨k, q, hk, rfl, rfl⟩ := hrel
    by_cases hlt : k < xs.length
    · obtain ⟨g, o, rfl, hcap, hc0⟩ := HC.out k hlt
      obtain ⟨g', o', rfl, hcap', hc0'⟩ := HC'.out k hlt
      generalize xs[k] = x at *
      go_wp2
      go_quiet (fail)
      go_wp2
      go_roundw
      case rel => exact ⟨k + 1, _, by omega, by go_num, rfl⟩
      case measure => simp [intOf]; omega
    · go_wp2
      go_ret
      exact ⟨rfl, belowN (Below.refl _ _) _⟩
end Go.Proofs.YtobpnoiienpipaaDoor
