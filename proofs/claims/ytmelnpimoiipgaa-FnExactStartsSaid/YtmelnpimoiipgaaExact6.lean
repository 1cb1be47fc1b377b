/-
  What is proved: what the exact laws of chapter 6 ask of the answers' sizes, and arguments that are lists of ints.
  Conditions: those that each fact names.
-/
import Derived.Test.YtmelnpimoiipgaaPkStarts
import Derived.Test.YtmelnpimoiipgaaSpecCut
import Derived.Test.YtmelnpimoiipgaaSpecToLev
import Derived.Test.YtmelnpimoiipgaaPkGEq
namespace Go.Proofs.Ytmelnpimoiipgaa
set_option linter.unusedVariables false
open Go.RowKit

theorem startsGo_len {rs : List R2} {N len gap : Nat} : ∀ (f p m : Nat) (out : List Int), (startsGo rs N len gap f p m out).length ≤ out.length + f
  | 0, _, _, out => Nat.le_refl _
  | f + 1, p, m, out => by
    unfold startsGo
    split
    · split
      · have := startsGo_len (rs := rs) (N := N) (len := len) (gap := gap) f ‹Nat› 0 (out ++ [(‹Nat› : Int)])
        simp at this ⊢; omega
      · split
        · omega
        · have := startsGo_len (rs := rs) (N := N) (len := len) (gap := gap) f (p + len) (m + 1) (out ++ [((p + len : Nat) : Int)])
          simp at this ⊢; omega
    · omega
theorem starts_len (xs : List Nat) (s : Nat) (n g : Int) : (starts xs s n g).length ≤ 20003 := by
  unfold starts
  split
  · simp
  · rename_i r rs hr
    split
    · have hx : xs.length ≤ 20000 := by
        by_cases hh : xs.length ≤ 20000
        · exact hh
        · unfold lows at hr; rw [if_neg hh] at hr; cases hr
      have := startsGo_len (rs := r :: rs) (N := xs.length) (len := n.toNat) (gap := g.toNat) (xs.length + 1) r.1 0 [(r.1 : Int)]
      simp at this; omega
    · simp
theorem cuts_len (xs : List Nat) (ps : List Int) (n : Int) : (cuts xs ps n).length ≤ ps.length := by
  unfold cuts
  split
  · unfold cutsK; rw [List.length_map]; exact List.length_filter_le _ _
  · simp
theorem cuts_row (xs : List Nat) (ps : List Int) (n : Int) : ∀ r ∈ cuts xs ps n, r.length ≤ 280 := by
  intro r hr
  unfold cuts at hr
  split at hr
  · rename_i h
    obtain ⟨p, _, rfl⟩ := List.mem_map.1 hr
    have h1 : (decide (28 ≤ n) && decide (n ≤ 280)) = true := h.1
    have h2 : 28 ≤ n ∧ n ≤ 280 := by simpa using h1
    unfold part
    rw [List.length_take]
    omega
  · cases hr
def lvA (xs : List Nat) : Nat := if lvOk xs = true then tipOf xs else 0
def lvB (xs : List Nat) : Nat := if lvOk xs = true then blackOf xs else 0
theorem lvA_num (xs : List Nat) : isN (lvA xs) = false := by
  unfold lvA; split
  · rename_i h; exact (tip_run (lvOk_line h)).2.ok
  · show (Ieee.single.read 0).isNaN = false; rw [Flt.read_zero]; rfl
theorem lvB_num (xs : List Nat) : isN (lvB xs) = false := by
  unfold lvB; split
  · rename_i h; exact (black_run (lvOk_line h)).2.ok
  · show (Ieee.single.read 0).isNaN = false; rw [Flt.read_zero]; rfl
theorem lev_got {xs : List Nat} {k : FuncId} {args : Array Value} {w : World} (h : Calls Try.prog k args w fun e w' => LevPost xs w e w') : Calls Try.prog k args w fun e w' => e = .returned (.tuple #[.float .f32 (lvA xs), .float .f32 (lvB xs), .bool (lvOk xs)]) ∧ Below w.heap.size w w' := h
def levA (xs : List Nat) : List Nat := if levOk xs = true then levs xs else []
theorem levA_len (xs : List Nat) : (levA xs).length ≤ xs.length := by
  unfold levA; split
  · rw [levs_len]; exact Nat.le_refl _
  · simp
theorem ans_got {xs : List Nat} {k : FuncId} {args : Array Value} {w : World} (h : Calls Try.prog k args w fun e w' => Ans (levOk xs) (levR xs) w e w') : Calls Try.prog k args w fun e w' => ∃ v, e = .returned (.tuple #[v, .bool (levOk xs)]) ∧ FNew w' w.heap.size v (levA xs) ∧ Below w.heap.size w w' := by
  refine h.mono ?_
  rintro e w' ⟨v, ys, rfl, hy, hn, hb⟩
  subst hy
  exact ⟨v, rfl, hn, hb⟩
theorem isRow_ints {w : World} {a : Option Addr} {len cap : Nat} {zs : List Int} (h : IsRow .i64 w a len cap zs) : ∃ ys, LI.Row w (.slice a len cap) ys ∧ (∀ z ∈ ys, I64 z) ∧ ys.length = len := by
  rcases h with ⟨rfl, rfl, rfl, rfl⟩ | ⟨⟨g, o, spot⟩, rfl, hl, hm, hz, hcell, hw⟩
  · exact ⟨[], .inl ⟨⟨_, _, rfl⟩, rfl⟩, by simp, rfl⟩
  · by_cases h0 : len = 0
    · subst h0
      exact ⟨[], .inl ⟨⟨_, _, rfl⟩, rfl⟩, by simp, rfl⟩
    · have hs : spot = none := by
        have h1 := hcell 0 (by omega)
        cases spot with
        | none => rfl
        | some s =>
          rw [show (⟨g, o, some s⟩ : Addr).add 0 = ⟨g, o, some s⟩ from rfl] at h1
          unfold World.cell? at h1
          split at h1
          · simp at h1
          · cases h1
      subst hs
      have hlen : (zs.take len).length = len := by rw [List.length_take]; omega
      refine ⟨zs.take len, .inr ⟨g, o, cap, by rw [hlen], by rw [hlen]; exact hl, fun j u hu => ?_⟩, fun z hzm => ?_, hlen⟩
      · rw [li_cells, List.getElem?_map] at hu
        by_cases hj : j < (zs.take len).length
        · rw [List.getElem?_eq_getElem hj] at hu
          cases hu
          have hj2 : j < zs.length := by rw [hlen] at hj; omega
          have h1 := hcell j hj2
          have hadd : (⟨g, o, none⟩ : Addr).add j = ⟨g, o + j, none⟩ := by unfold Addr.add; split <;> simp_all
          rw [hadd, List.getD_eq_getElem?_getD, List.getElem?_eq_getElem hj2] at h1
          rw [h1, List.getElem_take]
          rfl
        · rw [List.getElem?_eq_none (by omega)] at hu; cases hu
      · have h1 := hw z (List.mem_of_mem_take hzm)
        unfold I64
        simpa [Lit.wf, IntKind.min, IntKind.max, IntKind.signed, IntKind.bits] using h1
end Go.Proofs.Ytmelnpimoiipgaa
