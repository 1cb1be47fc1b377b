/-
  What is proved: the exact laws' marking of a list of cells, and the look whether the marks still stand.
  Conditions: at most 64 cells.
-/
import Derived.Test.YtgecclccmmcdoaaCellEq
namespace Go.Proofs.Ytgecclccmmcdoaa
set_option linter.unusedVariables false
open Go.RowKit
attribute [local go_sem] run_store_float run_store_complex unary_negf neg256

/-- Block b has at least n cells; the first k are those of cs. -/
def MadeC (w : World) (b n k : Nat) (cs : List C3) : Prop :=
  ∃ cur : Array Value, w.heap[b]? = some (.cells cur 40 (0, 0)) ∧ n * 2 ≤ cur.size ∧ ∀ i (h : i < cs.length), i < k → cur[i * 2]? = some (.float .f32 cs[i].1) ∧ cur[i * 2 + 1]? = some (.complex .f32 cs[i].2.1 cs[i].2.2)
theorem MadeC.step {w : World} {b n k : Nat} {cs : List C3} (h : MadeC w b n k cs) (hn : k < cs.length) (hk : cs.length ≤ n) :
    MadeC ((w.setCell ⟨b, k * 2, none⟩ (.float .f32 cs[k].1)).setCell ⟨b, k * 2 + 1, none⟩ (.complex .f32 cs[k].2.1 cs[k].2.2)) b n (k + 1) cs := by
  obtain ⟨cur, h1, h2, h3⟩ := h
  refine ⟨(cur.setIfInBounds (k * 2) (.float .f32 cs[k].1)).setIfInBounds (k * 2 + 1) (.complex .f32 cs[k].2.1 cs[k].2.2), heap_put (heap_put h1), by simp [h2], fun i hi hik => ?_⟩
  by_cases e : i = k
  · subst e
    constructor
    · rw [Array.getElem?_setIfInBounds, if_neg (by omega), Array.getElem?_setIfInBounds, if_pos rfl, if_pos (by omega)]
    · rw [Array.getElem?_setIfInBounds, if_pos rfl, if_pos (by simp; omega)]
  · obtain ⟨g1, g2⟩ := h3 i hi (by omega)
    constructor
    · rw [Array.getElem?_setIfInBounds, if_neg (by omega), Array.getElem?_setIfInBounds, if_neg (by omega)]; exact g1
    · rw [Array.getElem?_setIfInBounds, if_neg (by omega), Array.getElem?_setIfInBounds, if_neg (by omega)]; exact g2
theorem MadeC.at {w : World} {b n k : Nat} {cs : List C3} (h : MadeC w b n k cs) (i : Nat) (hi : i < n) (v : Value) : (∃ x, w.cell? ⟨b, i * 2, none⟩ = some x) ∧ w.frozen? ⟨b, i * 2, none⟩ = false ∧ (∃ x, (w.setCell ⟨b, i * 2, none⟩ v).cell? ⟨b, i * 2 + 1, none⟩ = some x) ∧ (w.setCell ⟨b, i * 2, none⟩ v).frozen? ⟨b, i * 2 + 1, none⟩ = false := by
  obtain ⟨cur, h1, h2, _⟩ := h
  have h3 := heap_put (i := i * 2) (v := v) h1
  refine ⟨⟨cur[i * 2]'(by omega), ?_⟩, ?_, ⟨cur[i * 2 + 1]'(by omega), ?_⟩, ?_⟩
  · simp [World.cell?, h1, Array.getElem?_eq_getElem (show i * 2 < cur.size by omega)]
  · simp [World.frozen?, h1]
  · simp [World.cell?, h3, Array.getElem?_setIfInBounds, Array.getElem?_eq_getElem (show i * 2 + 1 < cur.size by omega)]
  · simp [World.frozen?, h3]
def MarkC (base : Nat) (v : Value) (n : Nat) (w : World) (e : Ending) (w' : World) : Prop := e = .returned (.int .i64 ((2 * n + 1 : Nat) : Int)) ∧ RNew w' base v (cmarks n) ∧ w.grownBy w' v.ownBlock
set_option maxHeartbeats 2000000 in
theorem markCells_any (base : Nat) (v : Value) (cs : List C3) (w : World) (h : RNew w base v cs) (hl : cs.length ≤ 64) :
    Calls Try.prog 42 #[v, .int .i64 1] w fun e w' => MarkC base v cs.length w e w' := by
  rcases h with ⟨rfl, rfl⟩ | ⟨g, cap, cur, rfl, hbase, hcap, hheap, hsz, hc⟩
  · go_enter Try.func42, Try.ntmps42
    go_wp2
    go_loop [1, 5] (fun kk i => kk = .int .i64 1 ∧ i = .int .i64 0) (fun _ _ => 0)
    case atStart => exact ⟨rfl, rfl⟩
    case round =>
      obtain ⟨rfl, rfl⟩ := hrel
      go_wp2
      go_ret
      exact ⟨rfl, RNew.nil _ _, World.grownBy.refl _ _⟩
  · have HST := Lib.hid (show MadeC w g cs.length 0 (cmarks cs.length) from ⟨cur, hheap, hsz, fun i _ hi => absurd hi (by omega)⟩)
    clear hheap hc
    go_enter Try.func42, Try.ntmps42
    go_wp2
    go_loopw [1, 5] (fun kk i wr => ∃ k m : Nat, k ≤ cs.length ∧ i = .int .i64 (k : Int) ∧ kk = .int .i64 (m : Int) ∧ m = 2 * k + 1 ∧ w.grownBy wr (some g) ∧ MadeC wr g cs.length k (cmarks cs.length)) (fun _ i _ => cs.length - (intOf i).toNat)
    case atStart => exact ⟨0, 1, Nat.zero_le _, rfl, rfl, rfl, World.grownBy.refl _ _, HST.out⟩
    case round =>
      obtain ⟨k, m, hk, rfl, rfl, hm1, hg, hm⟩ := hrel
      have HM := Lib.hid hm
      have hm64 : m ≤ 129 := by omega
      have HM1 := Lib.hid hm1
      clear hm HST hm1
      by_cases hlt : k < cs.length
      · obtain ⟨⟨x0, hx0⟩, hf0, ⟨x1, hx1⟩, hf1⟩ := HM.out.at k hlt (.float .f32 (floatOfInt .f32 (m : Int)))
        have hcv := c32_run (m + 1) (by omega)
        have hlm : k < (cmarks cs.length).length := by rw [cmarks_len]; exact hlt
        have hm3 := HM.out.step hlm (by rw [cmarks_len]; exact Nat.le_refl _)
        rw [cmarks_get] at hm3
        simp only [cmark, show 2 * k + 2 = m + 1 from by have := HM1.out; omega, show 2 * k + 1 = m from HM1.out.symm] at hm3
        have hg3 := (hg.trans (Lib.grownBy_setCell wr g (k * 2) (.float .f32 (floatOfInt .f32 (m : Int))))).trans (Lib.grownBy_setCell _ g (k * 2 + 1) (.complex .f32 (c32 (m + 1)) 1065353216))
        have HM3 := Lib.hid hm3
        have HG3 := Lib.hid hg3
        rw [show ((m + 1 : Nat) : Int) = (m : Int) + 1 from by omega] at hcv
        clear hm3 hg3
        generalize c32 (m + 1) = c2 at *
        go_wp2
        go_roundw
        case rel => exact ⟨k + 1, m + 2, by omega, by go_num, by go_num, by have := HM1.out; omega, HG3.out, HM3.out⟩
        case measure => simp [intOf]; omega
      · have hkk : k = cs.length := by omega
        subst hkk
        have hmm := HM1.out
        subst hmm
        go_wp2
        go_ret
        obtain ⟨cur', k1, k2, k3⟩ := HM.out
        exact ⟨rfl, .inr ⟨g, cap, cur', by rw [cmarks_len], hbase, by rw [cmarks_len]; exact hcap, k1, by rw [cmarks_len]; exact k2, fun i hi => k3 i hi (by rw [cmarks_len] at hi; exact hi)⟩, hg⟩
/-- Are two complex numbers different? -/
theorem neq_colour (u v u' v' : Nat) (W : World) : (binOp .neq 27 (.complex .f32 u v) (.complex .f32 u' v')).run Try.prog W = .ok (.bool (!(FloatKind.f32.format.order u u' == some .eq && FloatKind.f32.format.order v v' == some .eq))) W := by
  have u2 := Try.underlying27
  simp [binOp, Op.complexOp, Op.Complex.cmp, Op.floatCmp, asBool]
set_option maxHeartbeats 2000000 in
theorem heldCells_any (v : Value) (n : Nat) (w : World) (h : RowV w v (cmarks n)) (hl : n ≤ 64) :
    Calls Try.prog 43 #[v, .int .i64 1] w fun e w' => e = .returned (.int .i64 ((2 * n + 1 : Nat) : Int)) ∧ ∃ q, w' = w.drewN q := by
  obtain ⟨a, c, rfl, hcell⟩ : ∃ a c, v = .slice a n c ∧ ∀ k, k < n → ∃ g o, a = some ⟨g, o, none⟩ ∧ n ≤ c ∧ w.cell? ⟨g, o + k * 2, none⟩ = some (.float .f32 (cmark k).1) ∧ w.cell? ⟨g, o + k * 2 + 1, none⟩ = some (.complex .f32 (cmark k).2.1 (cmark k).2.2) := by
    rcases h with ⟨rfl, h0⟩ | ⟨g, o, cap, rfl, hcap, hcell⟩
    · have e := congrArg List.length h0
      rw [cmarks_len] at e
      subst e
      exact ⟨none, 0, rfl, fun k hk => absurd hk (Nat.not_lt_zero k)⟩
    · rw [cmarks_len] at hcap ⊢
      refine ⟨_, _, rfl, fun k hk => ⟨g, o, rfl, hcap, ?_⟩⟩
      have h1 := hcell k (by rw [cmarks_len]; exact hk)
      rw [cmarks_get] at h1
      exact h1
  have HC := Lib.hid hcell
  clear hcell h
  go_enter Try.func43, Try.ntmps43
  go_wp2
  go_loopw [1, 5] (fun kk i wr => ∃ k m q : Nat, k ≤ n ∧ i = .int .i64 (k : Int) ∧ kk = .int .i64 (m : Int) ∧ m = 2 * k + 1 ∧ wr = w.drewN q) (fun _ i _ => n - (intOf i).toNat)
  case atStart => exact ⟨0, 1, 0, Nat.zero_le _, rfl, rfl, rfl, rfl⟩
  case round =>
    obtain ⟨k, m, q, hk, rfl, rfl, hm1, rfl⟩ := hrel
    have hm64 : m ≤ 129 := by omega
    have HM1 := Lib.hid hm1
    clear hm1
    by_cases hlt : k < n
    · obtain ⟨g, o, rfl, hcap, hc0, hc1⟩ := HC.out k hlt
      simp only [cmark, show 2 * k + 2 = m + 1 from by have := HM1.out; omega, show 2 * k + 1 = m from HM1.out.symm] at hc0 hc1
      have hs : FloatKind.f32.format.order (floatOfInt .f32 (m : Int)) (floatOfInt .f32 (m : Int)) = some .eq := ofInt_self _
      have hs2 : FloatKind.f32.format.order (c32 (m + 1)) (c32 (m + 1)) = some .eq := Flt.order_self (f := Ieee.single) (c32_ok (m + 1) (by omega)).2
      have hs3 : FloatKind.f32.format.order 1065353216 1065353216 = some .eq := by decide +kernel
      have hcv := c32_run (m + 1) (by omega)
      rw [show ((m + 1 : Nat) : Int) = (m : Int) + 1 from by omega] at hcv
      have hnc := fun W => neq_colour (c32 (m + 1)) 1065353216 (c32 (m + 1)) 1065353216 W
      rw [hs2, hs3] at hnc
      generalize c32 (m + 1) = c2 at *
      go_wp2

      go_roundw
      case rel => exact ⟨k + 1, m + 2, _, by omega, by go_num, by go_num, by have := HM1.out; omega, rfl⟩
      case measure => simp [intOf]; omega
    · have hkk : k = n := by omega
      subst hkk
      have hmm := HM1.out
      subst hmm
      go_wp2
      go_ret
      exact ⟨rfl, _, rfl⟩
end Go.Proofs.Ytgecclccmmcdoaa
