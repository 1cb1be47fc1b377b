/-
  What is proved: the exact laws' comparing and marking of lists of runs.
  Conditions: those that each fact names.
-/
import Derived.Test.YtmelnpimoiipgaaPkStarts
import Derived.Test.YtmelnpimoiipgaaPkGEq
import Derived.Deep.RegionWith
namespace Go.Proofs.Ytmelnpimoiipgaa
set_option linter.unusedVariables false
open Go.RowKit
attribute [local go_sem] run_store_float run_store_complex unary_negf neg256

/-- The runs that the laws mark with. -/
def rmarks (n : Nat) : List R2 := (List.range n).map fun i => (2 * i + 1, 2 * i + 2)
theorem rmarks_len (n : Nat) : (rmarks n).length = n := by simp [rmarks]
theorem rmarks_get (n i : Nat) (h : i < (rmarks n).length) : (rmarks n)[i] = (2 * i + 1, 2 * i + 2) := by simp [rmarks]
def MarkR (base : Nat) (v : Value) (n : Nat) (w : World) (e : Ending) (w' : World) : Prop := e = .returned (.int .i64 (2 * (n : Int) + 1)) ∧ LR.Own w' base v (rmarks n) ∧ w.grownBy w' v.ownBlock
theorem lr_two {w : World} {base g n cap k : Nat} {xs : List R2} (h : LR.Own w base (.slice (some ⟨g, 0, none⟩) n cap) xs) (hk : k < xs.length) (a b : Nat) : LR.Own ((w.setCell ⟨g, k * 2, none⟩ (.int .i64 (a : Int))).setCell ⟨g, k * 2 + 1, none⟩ (.int .i64 (b : Int))) base (.slice (some ⟨g, 0, none⟩) n cap) (xs.set k (a, b)) := by
  have h1 := h.put LR_ok (z := (a, xs[k].2)) hk (show 0 < LR.size by decide) (show k * 2 = k * LR.size + 0 from rfl) (u := .int .i64 (a : Int)) rfl
  have h2 := h1.put LR_ok (z := (a, b)) (by rw [List.length_set]; exact hk) (show 1 < LR.size by decide) (show k * 2 + 1 = k * LR.size + 1 from rfl) (u := .int .i64 (b : Int)) (by rw [List.getElem_set_self]; rfl)
  rwa [List.set_set] at h2
theorem lr_at {w : World} {base g n cap k : Nat} {xs : List R2} (h : LR.Own w base (.slice (some ⟨g, 0, none⟩) n cap) xs) (hk : k < xs.length) (a : Nat) : (∃ x, w.cell? ⟨g, k * 2, none⟩ = some x) ∧ w.frozen? ⟨g, k * 2, none⟩ = false ∧ (∃ x, (w.setCell ⟨g, k * 2, none⟩ (.int .i64 (a : Int))).cell? ⟨g, k * 2 + 1, none⟩ = some x) ∧ (w.setCell ⟨g, k * 2, none⟩ (.int .i64 (a : Int))).frozen? ⟨g, k * 2 + 1, none⟩ = false := by
  obtain ⟨h1, h2⟩ := h.at LR_ok hk (show 0 < LR.size by decide) (show k * 2 = k * LR.size + 0 from rfl)
  have hp := h.put LR_ok (z := (a, xs[k].2)) hk (show 0 < LR.size by decide) (show k * 2 = k * LR.size + 0 from rfl) (u := .int .i64 (a : Int)) rfl
  obtain ⟨h3, h4⟩ := hp.at LR_ok (i := k) (by rw [List.length_set]; exact hk) (show 1 < LR.size by decide) (show k * 2 + 1 = k * LR.size + 1 from rfl)
  exact ⟨h1, h2, h3, h4⟩
theorem eqRun_self (a b : Nat) (w : World) :
    Calls Try.prog 76 #[.agg #[.int .i64 (a : Int), .int .i64 (b : Int)], .agg #[.int .i64 (a : Int), .int .i64 (b : Int)]] w fun e w' => e = .returned (.bool true) ∧ Below w.heap.size w w' := by
  go_enter Try.func76, Try.ntmps76
  go_wp2
  go_ret
  exact ⟨rfl, ((Below.refl _ _).alloc (Nat.le_refl _) _).alloc (by simp) _⟩
set_option maxHeartbeats 2000000 in
theorem eqRuns_self (v v' : Value) (rs : List R2) (w : World) (h : LR.Row w v rs) (h' : LR.Row w v' rs) (hl : rs.length ≤ 1000000) :
    Calls Try.prog 32 #[v, v'] w fun e w' => e = .returned (.bool true) ∧ Below w.heap.size w w' := by
  obtain ⟨a, c, rfl, hcell⟩ := runs_any h
  obtain ⟨a', c', rfl, hcell'⟩ := runs_any h'
  have HC := Lib.hid hcell
  have HC' := Lib.hid hcell'
  clear hcell hcell' h h'
  go_enter Try.func32, Try.ntmps32
  go_wp2
  go_loopw [5] (fun i wr => ∃ k : Nat, k ≤ rs.length ∧ i = .int .i64 (k : Int) ∧ Below w.heap.size w wr) (fun i _ => rs.length - (intOf i).toNat)
  case atStart => exact ⟨0, Nat.zero_le _, rfl, Below.refl _ _⟩
  case round =>
    obtain ⟨k, hk, rfl, hb⟩ := hrel
    by_cases hlt : k < rs.length
    · obtain ⟨g, o, rfl, hcap, hc0, hc1⟩ := HC.out k hlt
      obtain ⟨g', o', rfl, hcap', hc0', hc1'⟩ := HC'.out k hlt
      have q0 := (grown_of hb).cell hc0 (by simp)
      have q1 := (grown_of hb).cell hc1 (by simp)
      have q2 := (grown_of hb).cell hc0' (by simp)
      have q3 := (grown_of hb).cell hc1' (by simp)
      have HE := fun W => Lib.hid (eqRun_self rs[k].1 rs[k].2 W)
      clear hc0 hc1 hc0' hc1'
      generalize rs[k] = r at *
      have hbd : Below w.heap.size w wr.drew := belowDN hb 1
      go_wp2
      go_region_with (go_at_call 76; refine (HE _).out.mono ?_; rintro e w2 ⟨rfl, hb2⟩)
      all_goals
        have hb3 := below_trans hbd hb2 hbd.size
        clear q0 q1 q2 q3
        go_wp2
        go_roundw
        case rel => exact ⟨k + 1, by omega, by go_num, hb3⟩
        case measure => simp [intOf]; omega
    · go_wp2
      go_ret
      exact ⟨rfl, hb⟩
set_option maxHeartbeats 2000000 in
theorem markRuns_any (base : Nat) (v : Value) (rs : List R2) (w : World) (h : LR.Own w base v rs) (hl : rs.length ≤ 1000000) :
    Calls Try.prog 35 #[v, .int .i64 1] w fun e w' => MarkR base v rs.length w e w' := by
  rcases h.shape with ⟨rfl, rfl⟩ | ⟨g, cap, rfl, hbase, hg, hcap, _⟩
  · clear h
    go_enter Try.func35, Try.ntmps35
    go_wp2
    go_loop [1, 5] (fun kk i => kk = .int .i64 1 ∧ i = .int .i64 0) (fun _ _ => 0)
    case atStart => exact ⟨rfl, rfl⟩
    case round =>
      obtain ⟨rfl, rfl⟩ := hrel
      go_wp2
      go_ret
      exact ⟨rfl, LR.ownNil _ _, World.grownBy.refl _ _⟩
  · have HST := Lib.hid h
    have HML := Lib.hid (rmarks_len rs.length)
    clear h
    go_enter Try.func35, Try.ntmps35
    go_wp2
    go_loopw [1, 5] (fun kk i wr => ∃ k : Nat, k ≤ rs.length ∧ i = .int .i64 (k : Int) ∧ kk = .int .i64 (2 * (k : Int) + 1) ∧ w.grownBy wr (some g) ∧ LR.Own wr base (.slice (some ⟨g, 0, none⟩) rs.length cap) ((rmarks rs.length).take k ++ rs.drop k)) (fun _ i _ => rs.length - (intOf i).toNat)
    case atStart => exact ⟨0, Nat.zero_le _, rfl, rfl, World.grownBy.refl _ _, by simpa using HST.out⟩
    case round =>
      obtain ⟨k, hk, rfl, rfl, hg, hm⟩ := hrel
      have HM := Lib.hid hm
      clear hm HST
      by_cases hlt : k < rs.length
      · have htl : k < ((rmarks rs.length).take k ++ rs.drop k).length := by rw [take_drop_len HML.out hk]; exact hlt
        have hlm : k < (rmarks rs.length).length := by rw [HML.out]; exact hlt
        have hat := lr_at HM.out htl (2 * k + 1)
        rw [show ((2 * k + 1 : Nat) : Int) = 2 * (k : Int) + 1 by omega] at hat
        obtain ⟨⟨x0, hx0⟩, hf0, ⟨x1, hx1⟩, hf1⟩ := hat
        have hm3 := lr_two HM.out htl (2 * k + 1) (2 * k + 2)
        rw [set_take_drop hlm hlt (rmarks_get _ _ _), show ((2 * k + 1 : Nat) : Int) = 2 * (k : Int) + 1 by omega, show ((2 * k + 2 : Nat) : Int) = 2 * (k : Int) + 1 + 1 by omega] at hm3
        have HM3 := Lib.hid hm3
        have hg3 := (hg.trans (Lib.grownBy_setCell wr g (k * 2) (.int .i64 (2 * (k : Int) + 1)))).trans (Lib.grownBy_setCell _ g (k * 2 + 1) (.int .i64 (2 * (k : Int) + 1 + 1)))
        have HG3 := Lib.hid hg3
        clear hm3 htl hlm hg3
        go_wp2
        go_roundw
        case rel => exact ⟨k + 1, by omega, by go_num, by go_num, HG3.out, HM3.out⟩
        case measure => simp [intOf]; omega
      · have hkk : k = rs.length := by omega
        subst hkk
        have HF := Lib.hid (show LR.Own wr base (.slice (some ⟨g, 0, none⟩) rs.length cap) (rmarks rs.length) by
          have := HM.out
          rwa [List.take_of_length_le (by rw [HML.out]; exact Nat.le_refl _), List.drop_length, List.append_nil] at this)
        go_wp2
        go_ret
        exact ⟨rfl, HF.out, hg⟩
set_option maxHeartbeats 2000000 in
theorem heldRuns_any (v : Value) (n : Nat) (w : World) (h : LR.Row w v (rmarks n)) (hl : n ≤ 1000000) :
    Calls Try.prog 36 #[v, .int .i64 1] w fun e w' => e = .returned (.int .i64 (2 * (n : Int) + 1)) ∧ ∃ q, w' = w.drewN q := by
  obtain ⟨a, c, rfl, hcell⟩ := runs_any h
  rw [rmarks_len]
  have HC := Lib.hid hcell
  clear hcell h
  go_enter Try.func36, Try.ntmps36
  go_wp2
  go_loopw [1, 5] (fun kk i wr => ∃ k q : Nat, k ≤ n ∧ i = .int .i64 (k : Int) ∧ kk = .int .i64 (2 * (k : Int) + 1) ∧ wr = w.drewN q) (fun _ i _ => n - (intOf i).toNat)
  case atStart => exact ⟨0, 0, Nat.zero_le _, rfl, rfl, rfl⟩
  case round =>
    obtain ⟨k, q, hk, rfl, rfl, rfl⟩ := hrel
    by_cases hlt : k < n
    · have hlm : k < (rmarks n).length := by rw [rmarks_len]; exact hlt
      obtain ⟨g, o, rfl, hcap, hc0, hc1⟩ := HC.out k hlm
      rw [rmarks_get] at hc0 hc1
      rw [rmarks_len] at hcap
      simp only [show ((2 * k + 1 : Nat) : Int) = 2 * (k : Int) + 1 by omega, show ((2 * k + 2 : Nat) : Int) = 2 * (k : Int) + 1 + 1 by omega] at hc0 hc1
      clear hlm
      go_wp2
      go_roundw
      case rel => exact ⟨k + 1, _, by omega, by go_num, by go_num, rfl⟩
      case measure => simp [intOf]; omega
    · have hkk : k = n := by omega
      subst hkk
      go_wp2
      go_ret
      exact ⟨rfl, _, rfl⟩
end Go.Proofs.Ytmelnpimoiipgaa
