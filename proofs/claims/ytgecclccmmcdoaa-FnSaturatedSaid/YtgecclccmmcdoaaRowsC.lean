/-
  What is proved: when two lists of rows are alike, and what is told of them.
  Conditions: both can be read.
-/
import Derived.Test.YtgecclccmmcdoaaEq
import Derived.Test.YtgecclccmmcdoaaPkScale
import Derived.Test.YtgecclccmmcdoaaPkCh
import Derived.Test.YtgecclccmmcdoaaPicDraw
namespace Go.Proofs.Ytgecclccmmcdoaa
set_option linter.unusedVariables false
open Go.RowKit
attribute [local go_sem] run_store_float run_store_complex unary_negf neg256

/-- Lists of rows that are alike, row by row. -/
def AlikeR (a b : List (List C3)) : Prop := a.length = b.length ∧ ∀ i (h : i < a.length) (h' : i < b.length), Alike a[i] b[i]
set_option maxHeartbeats 2000000 in
theorem equalFunc_rows (v v' : Value) (a b : List (List C3)) (ss ss' : List SV) (w : World) (h : RowsV w v a ss) (h' : RowsV w v' b ss') (hl : a.length ≤ 1000000) (hr : ∀ r ∈ a, r.length ≤ 1000000) (hab : AlikeR a b) :
    Calls Try.prog 77 #[v, v', .func (.func 78) #[] #[]] w fun e w' => e = .returned (.bool true) ∧ Below w.heap.size w w' := by
  obtain ⟨ad, cap, rfl, hcell⟩ := h.any
  obtain ⟨ad', cap', rfl, hcell'⟩ := h'.any
  have l1 := h.len
  have l2 := h'.len
  have l3 := hab.1
  have hss : ss'.length = ss.length := by omega
  have HC := Lib.hid hcell
  have HC' := Lib.hid hcell'
  have HE := Lib.hid (fun k (hk : k < ss.length) (hk' : k < ss'.length) W (hW : Below w.heap.size w W) => equalCells_any ss[k].v ss'[k].v (a[k]'(by omega)) (b[k]'(by omega)) W ((h.each k hk (by omega)).below hW) ((h'.each k hk' (by omega)).below hW) (hr _ (List.getElem_mem _)) (hab.2 k (by omega) (by omega)))
  have hls : ss.length ≤ 1000000 := by omega
  clear h h' hab hcell hcell' hr l1 l2 l3
  rw [hss]
  have HSS := Lib.hid hss
  clear hss
  go_enter Try.func77, Try.ntmps77
  go_wp2
  go_loopw [17] (fun i wr => ∃ k : Nat, k ≤ ss.length ∧ i = .int .i64 (k : Int) ∧ Below w.heap.size w wr) (fun i _ => ss.length - (intOf i).toNat)
  case atStart => exact ⟨0, Nat.zero_le _, rfl, Below.refl _ _⟩
  case round =>
    obtain ⟨k, hk, rfl, hb⟩ := hrel
    by_cases hlt : k < ss.length
    · obtain ⟨g1, o1, rfl, hcap1, hc1⟩ := HC.out k hlt
      obtain ⟨g2, o2, rfl, hcap2, hc2⟩ := HC'.out k (by rw [HSS.out]; exact hlt)
      have hp1 := (grown_of hb).cell hc1 (by simp)
      have hq1 := (grown_of hb).cell hc2 (by simp)
      have HEK := Lib.hid (HE.out k hlt (by rw [HSS.out]; exact hlt))
      rw [HSS.out] at hcap2
      clear hc1 hc2
      generalize ss[k].v = x at *
      generalize (ss'[k]'(by rw [HSS.out]; exact hlt)).v = x' at *
      go_wp2_with fail
      refine (HEK.out _ hb).mono ?_
      rintro e w1 ⟨rfl, hb1⟩
      go_wp2
      go_roundw
      case rel => exact ⟨k + 1, by omega, by go_num, below_trans hb hb1 hb.size⟩
      case measure => simp [intOf]; omega
    · go_wp2
      go_ret
      exact ⟨rfl, hb⟩
theorem sameRows_any (v v' : Value) (a b : List (List C3)) (ss ss' : List SV) (w : World) (h : RowsV w v a ss) (h' : RowsV w v' b ss') (hl : a.length ≤ 1000000) (hr : ∀ r ∈ a, r.length ≤ 1000000) (hab : AlikeR a b) :
    Calls Try.prog 34 #[v, v'] w fun e w' => e = .returned (.bool true) ∧ Below w.heap.size w w' := by
  have HE := Lib.hid (equalFunc_rows v v' a b ss ss' w h h' hl hr hab)
  obtain ⟨ad, cap, rfl, _⟩ := h.any
  obtain ⟨ad', cap', rfl, _⟩ := h'.any
  clear h h' hab
  go_enter Try.func34, Try.ntmps34
  go_wp2_with fail
  refine HE.out.mono ?_
  rintro e w1 ⟨rfl, hb⟩
  go_wp2
  go_ret
  exact ⟨rfl, hb⟩
end Go.Proofs.Ytgecclccmmcdoaa
