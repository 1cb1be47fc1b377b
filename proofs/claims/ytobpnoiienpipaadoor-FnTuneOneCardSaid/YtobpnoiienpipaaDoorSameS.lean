/-
  What is proved: the laws' comparing of texts and of sets.
  Conditions: the texts can be read.
-/
import Derived.Test.YtobpnoiienpipaaDoorSetV
namespace Go.Proofs.YtobpnoiienpipaaDoor
set_option linter.unusedVariables false
open Go.RowKit
attribute [local go_sem] run_store_float run_store_complex unary_negf neg256

set_option maxHeartbeats 1000000 in
theorem sameTextsR_any (v v' : Value) (ls : List (List UInt8)) (w : World) (h : TRow w v ls) (h' : TRow w v' ls) (hl : ls.length ≤ 10000000) :
    Calls Tryd.prog 19 #[v, v'] w fun e w' => e = .returned (.bool true) ∧ ∃ n, w' = w.drewN n := by
  obtain ⟨a, c, rfl, hcell⟩ := h.any
  obtain ⟨a', c', rfl, hcell'⟩ := h'.any
  have HC := Lib.hid hcell
  have HC' := Lib.hid hcell'
  clear hcell hcell' h h'
  go_enter Tryd.func19, Tryd.ntmps19
  go_wp2
  go_loopw [5] (fun i wr => ∃ k q : Nat, k ≤ ls.length ∧ i = .int .i64 (k : Int) ∧ wr = w.drewN q) (fun i _ => ls.length - (intOf i).toNat)
  case atStart => exact ⟨0, 0, Nat.zero_le _, rfl, rfl⟩
  case round =>
    obtain ⟨k, q, hk, rfl, rfl⟩ := hrel
    by_cases hlt : k < ls.length
    · obtain ⟨g, o, rfl, hcap, c1⟩ := HC.out k hlt
      obtain ⟨g', o', rfl, hcap', c2⟩ := HC'.out k hlt
      unfold strV at c1 c2
      generalize ls[k] = l at *
      generalize (⟨l.toArray⟩ : ByteArray) = s at *
      go_wp2
      go_quiet (fail)
      go_wp2
      go_roundw
      case rel => exact ⟨k + 1, _, by omega, by go_num, rfl⟩
      case measure => simp [intOf]; omega
    · go_wp2
      go_ret
      exact ⟨rfl, _, rfl⟩
theorem alloc2S (w : World) (o1 o2 : Obj) : ((w.alloc o1).alloc o2).heap[w.heap.size]? = some o1 ∧ ((w.alloc o1).alloc o2).heap[w.heap.size + 1]? = some o2 ∧
    ((w.alloc o1).alloc o2).heap.size = w.heap.size + 2 ∧ Below w.heap.size w ((w.alloc o1).alloc o2) := by
  have h1 : (w.alloc o1).heap.size = w.heap.size + 1 := by simp
  refine ⟨?_, ?_, by simp, ?_⟩
  · rw [alloc_keeps _ _ (by omega)]
    exact heap_alloc_new _ _
  · rw [← h1]
    exact heap_alloc_new _ _
  · exact ((Below.refl _ _).alloc (Nat.le_refl _) _).alloc (by omega) _
set_option maxRecDepth 100000 in
set_option maxHeartbeats 1000000 in
theorem sameSet_any (x : SetC) (v v' : Value) (ls : List (List UInt8)) (w : World) (h : TRow w v ls) (h' : TRow w v' ls) (hl : ls.length ≤ 3000000) :
    Calls Tryd.prog 14 #[x.val v, x.val v'] w fun e w' => e = .returned (.bool true) ∧ Below w.heap.size w w' := by
  have HE := fun W (hW : Below w.heap.size w W) => Lib.hid (sameTextsR_any v v' ls W (h.below hW) (h'.below hW) (by omega))
  have HS := fun x W => Lib.hid (same32_sm x x W (Sm.refl x))
  obtain ⟨a, c, rfl⟩ := h.lenv
  obtain ⟨a', c', rfl⟩ := h'.lenv
  obtain ⟨k1, k2, hsz, hbl⟩ := alloc2S w (.cells (x.cells (.slice a ls.length c)) 27) (.cells (x.cells (.slice a' ls.length c')) 27)
  obtain ⟨xc, xr, xs, xl, xt⟩ := x
  simp only [SetC.val, SetC.cells] at *
  clear h h' hl
  have A1 := SetAt.of (x := ⟨xc, xr, xs, xl, xt⟩) (v := .slice a ls.length c) k1
  have A2 := SetAt.of (x := ⟨xc, xr, xs, xl, xt⟩) (v := .slice a' ls.length c') k2
  obtain ⟨p0, p1, p2, p3, p4, p5⟩ := id A1
  obtain ⟨q0, q1, q2, q3, q4, q5⟩ := id A2
  go_enter Tryd.func14, Tryd.ntmps14
  go_wp2_with fail
  generalize World.alloc (World.alloc w _) _ = X at *
  refine (HS _ _).out.mono ?_
  rintro e w1 ⟨rfl, n1, rfl⟩
  go_wp2_with fail
  refine (HS _ _).out.mono ?_
  rintro e w2 ⟨rfl, n2, rfl⟩
  go_wp2_with fail
  refine (HS _ _).out.mono ?_
  rintro e w3 ⟨rfl, n3, rfl⟩
  go_wp2_with fail
  refine (HE _ ?_).out.mono ?_
  · exact belowD hbl _
  rintro e w4 ⟨rfl, n4, rfl⟩
  go_wp2
  go_ret
  exact ⟨rfl, belowD hbl _⟩
end Go.Proofs.YtobpnoiienpipaaDoor
