/-
  What is proved: the laws' comparison of two lists of equal numbers.
  Conditions: the lists can be read.
-/
import Derived.Test.YtmelnpimoiipgaaPkEq
namespace Go.Proofs.Ytmelnpimoiipgaa
set_option linter.unusedVariables false
open Go.RowKit
attribute [local go_sem] run_store_float run_store_complex unary_negf neg256

set_option maxHeartbeats 1000000 in
theorem equals_any (v v' : Value) (xs ys : List Nat) (w : World) (h : FRow w v xs) (h' : FRow w v' ys) (hlen : xs.length = ys.length) (heq : ∀ k (h : k < xs.length) (h' : k < ys.length), FloatKind.f32.format.order xs[k] ys[k] = some .eq) (hl : xs.length ≤ 1000000000) :
    Calls Try.prog 29 #[v, v'] w fun e w' => e = .returned (.bool true) ∧ ∃ n, w' = w.drewN n := by
  obtain ⟨a, c, rfl, hcell⟩ := h.any
  obtain ⟨a', c', rfl, hcell'⟩ := h'.any
  have HC := Lib.hid hcell
  have HC' := Lib.hid hcell'
  have HF := Lib.hid heq
  have HL := Lib.hid hlen
  rw [← hlen]
  clear hcell hcell' heq h h' hlen
  go_enter Try.func29, Try.ntmps29
  go_wp2
  go_loopw [5] (fun i wr => ∃ k q : Nat, k ≤ xs.length ∧ i = .int .i64 (k : Int) ∧ wr = w.drewN q) (fun i _ => xs.length - (intOf i).toNat)
  case atStart => exact ⟨0, 0, Nat.zero_le _, rfl, rfl⟩
  case round =>
    obtain ⟨k, q, hk, rfl, rfl⟩ := hrel
    by_cases hlt : k < xs.length
    · have hlt' : k < ys.length := by have := HL.out; omega
      obtain ⟨g, o, rfl, hcap, hc0⟩ := HC.out k hlt
      obtain ⟨g', o', rfl, hcap', hc0'⟩ := HC'.out k hlt'
      rw [← HL.out] at hcap'
      have hs := HF.out k hlt hlt'
      generalize xs[k] = x at *
      generalize ys[k] = y at *
      clear hlt'
      go_wp2
      go_quiet (fail)
      go_wp2
      go_roundw
      case rel => exact ⟨k + 1, _, by omega, by go_num, rfl⟩
      case measure => simp [intOf]; omega
    · go_wp2
      go_ret
      exact ⟨rfl, _, rfl⟩
end Go.Proofs.Ytmelnpimoiipgaa
