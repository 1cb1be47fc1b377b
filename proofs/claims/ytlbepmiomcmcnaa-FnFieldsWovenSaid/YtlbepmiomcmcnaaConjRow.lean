/-
  What is proved: the walks of Conjugate, and of ScaleRow by 1.
  Conditions: the row's numbers fit their kind; at most 1000000 cells.
-/
import Derived.Test.YtlbepmiomcmcnaaChg
namespace Go.Proofs.Ytlbepmiomcmcnaa
set_option linter.unusedVariables false
open Go.RowKit
attribute [local go_sem] run_store_float run_store_complex unary_negf neg256

def cj (c : C3) : C3 := (c.1, c.2.1, Op.negFloat .f32 c.2.2)
/-- The bits fit. -/
def Fit (cs : List C3) : Prop := ∀ c ∈ cs, c.1 < 2 ^ 32 ∧ c.2.1 < 2 ^ 32 ∧ c.2.2 < 2 ^ 32
theorem cj_cj (cs : List C3) : (cs.map cj).map cj = cs := by
  rw [List.map_map]
  have : cj ∘ cj = id := by funext c; simp [cj, Flt.neg_neg32]
  rw [this, List.map_id]
theorem rok_iff {cs : List C3} : rok cs = true ↔ (1 ≤ cs.length ∧ cs.length ≤ 64) ∧ ∀ c ∈ cs, Flt.fin c.1 = true ∧ Flt.fin c.2.1 = true ∧ Flt.fin c.2.2 = true := by
  unfold rok
  rw [Bool.and_eq_true, Bool.and_eq_true, decide_eq_true_iff, decide_eq_true_iff, List.all_eq_true]
  refine and_congr Iff.rfl (forall_congr' fun c => ?_)
  unfold okc
  rw [Bool.and_eq_true, Bool.and_eq_true]
theorem rok_cj {cs : List C3} (hf : Fit cs) (h : rok cs = true) : rok (cs.map cj) = true := by
  obtain ⟨h1, h2⟩ := rok_iff.1 h
  refine rok_iff.2 ⟨by simpa using h1, fun c hc => ?_⟩
  obtain ⟨d, hd, rfl⟩ := List.mem_map.1 hc
  obtain ⟨g1, g2, g3⟩ := h2 d hd
  exact ⟨g1, g2, Flt.fin_neg (hf d hd).2.2 g3⟩
theorem rok_ne {cs : List C3} (h : rok cs = true) : cs ≠ [] := by
  rintro rfl
  exact absurd h (by decide)
theorem RowV.nil (w : World) : RowV w (.slice none 0 0) [] := .inl ⟨rfl, rfl⟩

theorem conjugateRow_any (v : Value) (cs : List C3) (w : World) (h : RowV w v cs) (hl : cs.length ≤ 1000000) :
    Calls Try.prog 19 #[v] w fun e w' => RowPost (if rok cs = true then cs.map cj else []) w e w' := by
  have HR := Lib.hid (rowOk_any v cs w h hl)
  cases hr : rok cs with
  | false =>
    simp only [Bool.false_eq_true, if_false]
    rw [hr] at HR
    clear h hr
    go_enter Try.func19, Try.ntmps19
    go_wp2_with fail
    refine HR.out.mono ?_
    rintro e w1 ⟨rfl, hb⟩
    go_wp2
    go_ret
    exact RowPost.mk (RowV.nil _) hb
  | true =>
    simp only [if_true]
    have HC := fun W hW => Lib.hid (changedConj_any cj v cs W hW (rok_ne hr) hl fun c hc W' _ => conjugated_any c.1 c.2.1 c.2.2 W')
    have HV := Lib.hid h
    rw [hr] at HR
    clear hr h
    go_enter Try.func19, Try.ntmps19
    go_wp2_with fail
    refine HR.out.mono ?_
    rintro e w1 ⟨rfl, hb⟩
    go_wp2_with fail
    refine (HC w1 (HV.out.below hb)).out.mono ?_
    rintro e w2 ⟨v', rfl, hv, hb2⟩
    go_wp2
    go_ret
    exact RowPost.mk hv (below_trans hb hb2 hb.size)

def ScalePost (cs : List C3) (w : World) (e : Ending) (w' : World) : Prop := ∃ v', e = .returned (.tuple #[v', .bool (rok cs)]) ∧ RowV w' v' (if rok cs = true then cs else []) ∧ Below w.heap.size w w'
theorem ScalePost.no {cs : List C3} {w w' : World} {v' : Value} (hr : rok cs = false) (h : RowV w' v' []) (hb : Below w.heap.size w w') : ScalePost cs w (.returned (.tuple #[v', .bool false])) w' := ⟨v', by rw [hr], by simpa [hr] using h, hb⟩
theorem ScalePost.yes {cs : List C3} {w w' : World} {v' : Value} (hr : rok cs = true) (h : RowV w' v' cs) (hb : Below w.heap.size w w') : ScalePost cs w (.returned (.tuple #[v', .bool true])) w' := ⟨v', by rw [hr], by simpa [hr] using h, hb⟩
set_option maxHeartbeats 1000000 in
theorem scaleRow_one (v : Value) (cs : List C3) (w : World) (h : RowV w v cs) (hl : cs.length ≤ 1000000) (hf : Fit cs) :
    Calls Try.prog 20 #[v, .float .f32 1065353216] w fun e w' => ScalePost cs w e w' := by
  have HR := fun W hW => Lib.hid (rowOk_any v cs W hW hl)
  have HR2 := fun v' W hW => Lib.hid (rowOk_any v' cs W hW hl)
  have HV := Lib.hid h
  cases hr : rok cs with
  | false =>
    have HH := Lib.hid hr
    rw [hr] at HR
    clear h hr HR2
    go_enter Try.func20, Try.ntmps20
    go_wp2_with fail
    have hbA := (Below.refl w.heap.size w).alloc (Nat.le_refl _) (.cells #[.float .f32 1065353216] 41)
    refine (HR _ (HV.out.below hbA)).out.mono ?_
    rintro e w1 ⟨rfl, hb⟩
    go_wp2
    go_ret2
    exact ScalePost.no HH.out (RowV.nil _) (below_trans hbA hb hbA.size)
  | true =>
    obtain ⟨_, hfin⟩ := rok_iff.1 hr
    have HC := fun b W hW (hb : W.cell? ⟨b, 0, none⟩ = some (.float .f32 1065353216)) => Lib.hid (changedScale_any b id v cs W hW (rok_ne hr) hl fun c hc W' hW' =>
      scaleLit_one c.1 c.2.1 c.2.2 b W' (hf c hc).2.1 (hf c hc).2.2 (hfin c hc).2.1 (hfin c hc).2.2 (((grown_of hW').cell hb (by simp))))
    have HH := Lib.hid hr
    rw [hr] at HR HR2
    clear hr h hfin hf
    go_enter Try.func20, Try.ntmps20
    go_wp2_with fail
    have hbA := (Below.refl w.heap.size w).alloc (Nat.le_refl _) (.cells #[.float .f32 1065353216] 41)
    have hcA : (w.alloc (.cells #[.float .f32 1065353216] 41)).cell? ⟨w.heap.size, 0, none⟩ = some (.float .f32 1065353216) := (cell_of_row _ _ 0 _ _ _ (heap_alloc_new w _)).trans rfl
    refine (HR _ (HV.out.below hbA)).out.mono ?_
    rintro e w1 ⟨rfl, hb⟩
    have hc1 := (grown_of hb).cell hcA (by simp)
    have hb1 := below_trans hbA hb hbA.size
    clear hcA hbA hb
    go_wp2_with fail
    refine (HC w.heap.size w1 (HV.out.below hb1) hc1).out.mono ?_
    rintro e w2 ⟨v', rfl, hv, hb2⟩
    rw [List.map_id] at hv
    have HV2 := Lib.hid hv
    clear hv
    go_wp2_with fail
    refine (HR2 v' w2 HV2.out).out.mono ?_
    rintro e w3 ⟨rfl, hb3⟩
    go_wp2
    go_ret2
    exact ScalePost.yes HH.out (HV2.out.below hb3) (below_trans hb1 (below_trans hb2 hb3 hb2.size) hb1.size)
end Go.Proofs.Ytlbepmiomcmcnaa
