/-
  What is proved: the laws' comparison of two lists of integers that are the same; reading a row of a picture.
  Conditions: the lists can be read.
-/
import Derived.Test.YtmelnpimoiipgaaLinkCh
import Derived.Test.YtmelnpimoiipgaaCutRow
import Derived.BigQuiet
import Derived.Deep.QuietTactic
namespace Go.Proofs.Ytmelnpimoiipgaa
set_option linter.unusedVariables false
open Go.RowKit
attribute [local go_sem] run_store_float run_store_complex unary_negf neg256

/-- A row of a picture, read as a whole. -/
theorem GridC.rowRead {w : World} {base g n cap r : Nat} {rs : List (List C3)} {ss : List SV} (h : GridC w base (.slice (some ⟨g, 0, none⟩) n cap) rs ss) (hr : r < rs.length) (h0 : 0 < rs[r].length) :
    ∃ gr cr, w.cell? ⟨g, r, none⟩ = some (.slice (some ⟨gr, 0, none⟩) rs[r].length cr) ∧ rs[r].length ≤ cr ∧ ∀ j u, (LC.cells rs[r])[j]? = some u → w.cell? ⟨gr, 0 + j, none⟩ = some u := by
  have hs : r < ss.length := by rw [h.len]; exact hr
  obtain ⟨a, c, h1, h2⟩ := rowsC_any h.own.row
  obtain ⟨g1, o1, e, _, hc⟩ := h2 r hs
  subst e
  have e1 : g1 = g ∧ o1 = 0 := by injection h1 with x1; injection x1 with x1; injection x1 with x1 x2; exact ⟨x1.symm, x2.symm⟩
  obtain ⟨rfl, rfl⟩ := e1
  rw [Nat.zero_add] at hc
  have hrow := h.row r hs hr
  rcases hrow.shape with ⟨_, hz⟩ | ⟨gr, cr, hv, hb, hl, hcc, _⟩
  · rw [hz] at h0; exact absurd h0 (by simp)
  · rw [hv] at hrow hc
    refine ⟨gr, cr, hc, hcc, ?_⟩
    rcases Lay.Own.row (L := LC) hrow with ⟨_, hz⟩ | ⟨g', o', cap', e, _, hcell⟩
    · rw [hz] at h0; exact absurd h0 (by simp)
    · injection e with e1 e2 e3
      injection e1 with e1
      injection e1 with e1 e4
      subst e1 e4
      exact hcell
set_option maxHeartbeats 1000000 in
theorem sameInts_any (v v' : Value) (ps : List Int) (w : World) (h : LI.Row w v ps) (h' : LI.Row w v' ps) (hl : ps.length ≤ 1000000000) :
    Calls Try.prog 21 #[v, v'] w fun e w' => e = .returned (.bool true) ∧ ∃ n, w' = w.drewN n := by
  obtain ⟨a, c, rfl, hcell⟩ := ints_any h
  obtain ⟨a', c', rfl, hcell'⟩ := ints_any h'
  have HC := Lib.hid hcell
  have HC' := Lib.hid hcell'
  clear hcell hcell' h h'
  go_enter Try.func21, Try.ntmps21
  go_wp2
  go_loopw [5] (fun i wr => ∃ k q : Nat, k ≤ ps.length ∧ i = .int .i64 (k : Int) ∧ wr = w.drewN q) (fun i _ => ps.length - (intOf i).toNat)
  case atStart => exact ⟨0, 0, Nat.zero_le _, rfl, rfl⟩
  case round =>
    obtain ⟨k, q, hk, rfl, rfl⟩ := hrel
    by_cases hlt : k < ps.length
    · obtain ⟨g, o, rfl, hcap, hc0⟩ := HC.out k hlt
      obtain ⟨g', o', rfl, hcap', hc0'⟩ := HC'.out k hlt
      generalize ps[k] = x at *
      go_wp2
      go_quiet (fail)
      go_wp2
      go_roundw
      case rel => exact ⟨k + 1, _, by omega, by go_num, rfl⟩
      case measure => simp [intOf]; omega
    · go_wp2
      go_ret
      exact ⟨rfl, _, rfl⟩
end Go.Proofs.Ytmelnpimoiipgaa
