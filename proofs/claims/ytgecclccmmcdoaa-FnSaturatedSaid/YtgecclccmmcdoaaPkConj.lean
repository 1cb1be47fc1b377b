/-
  What is proved: the walks of the functions that make a cell of a cell (conjugated, scaled by 1), and of the generic function that makes a row of a row.
  Conditions: those that each fact names.
-/
import Derived.Test.YtgecclccmmcdoaaPkCell
import Derived.Deep.RegionWith
import Derived.Laws.MakeOwn
import Derived.Laws.Rows
namespace Go.Proofs.Ytgecclccmmcdoaa
set_option linter.unusedVariables false
open Go.RowKit
attribute [local go_sem] run_store_float run_store_complex unary_negf neg256
theorem heap_put {w : World} {b i : Nat} {c : Array Value} {t : TypeId} {v : Value} (h : w.heap[b]? = some (.cells c t (0, 0))) : (w.setCell ⟨b, i, none⟩ v).heap[b]? = some (.cells (c.setIfInBounds i v) t (0, 0)) := by
  simp [World.setCell, Array.getElem?_modify, h]

theorem conjugate_any (u v : Nat) (w : World) :
    Calls Try.prog 104 #[.complex .f32 u v] w fun e w' => e = .returned (.complex .f32 u (Op.negFloat .f32 v)) ∧ w = w' := by
  go_enter Try.func104, Try.ntmps104
  go_wp2
  go_ret
  exact ⟨rfl, rfl⟩

theorem conjugated_any (y u v : Nat) (w : World) :
    Calls Try.prog 135 #[.agg #[.float .f32 y, .complex .f32 u v]] w fun e w' => e = .returned (.agg #[.float .f32 y, .complex .f32 u (Op.negFloat .f32 v)]) ∧ Below w.heap.size w w' := by
  go_enter Try.func135, Try.ntmps135
  go_wp2
  go_region_with (go_at_call 104; refine (conjugate_any _ _ _).mono ?_; rintro e w2 ⟨rfl, rfl⟩)
  all_goals go_wp2
  all_goals refine bodyPost_ret (v := .agg #[.float .f32 y, .complex .f32 u (Op.negFloat .f32 v)]) ?_ rfl ⟨rfl, ?_⟩
  all_goals first | (simp [results, Try.results135, go_sem]; done) | exact (((Below.refl _ _).alloc (Nat.le_refl _) _).alloc (by simp) _).drew

theorem scaledColour_one (u v : Nat) (w : World) (hu : u < 2 ^ 32) (hv : v < 2 ^ 32) (fu : Flt.fin u = true) (fv : Flt.fin v = true) :
    Calls Try.prog 143 #[.complex .f32 u v, .float .f32 1065353216] w fun e w' => e = .returned (.complex .f32 u v) ∧ w = w' := by
  have h1 := fun W => run_float_arith (P := Try.prog) W .mul 26 .f32 _ _ u (Flt.mul_one32 hu fu)
  have h2 := fun W => run_float_arith (P := Try.prog) W .mul 26 .f32 _ _ v (Flt.mul_one32 hv fv)
  go_enter Try.func143, Try.ntmps143
  go_wp2
  go_ret
  exact ⟨rfl, rfl⟩
theorem scaled_one (y u v : Nat) (w : World) (hu : u < 2 ^ 32) (hv : v < 2 ^ 32) (fu : Flt.fin u = true) (fv : Flt.fin v = true) :
    Calls Try.prog 116 #[.agg #[.float .f32 y, .complex .f32 u v], .float .f32 1065353216] w fun e w' => e = .returned (.agg #[.float .f32 y, .complex .f32 u v]) ∧ Below w.heap.size w w' := by
  have HS := fun W => Lib.hid (scaledColour_one u v W hu hv fu fv)
  clear hu hv fu fv
  go_enter Try.func116, Try.ntmps116
  go_wp2
  go_region_with (go_at_call 143; refine (HS _).out.mono ?_; rintro e w2 ⟨rfl, rfl⟩)
  all_goals go_wp2
  all_goals refine bodyPost_ret (v := .agg #[.float .f32 y, .complex .f32 u v]) ?_ rfl ⟨rfl, ?_⟩
  all_goals first | (simp [results, Try.results116, go_sem]; done) | exact (((Below.refl _ _).alloc (Nat.le_refl _) _).alloc (by simp) _).drew
theorem scaleLit_one (y u v b : Nat) (w : World) (hu : u < 2 ^ 32) (hv : v < 2 ^ 32) (fu : Flt.fin u = true) (fv : Flt.fin v = true) (hb : w.cell? ⟨b, 0, none⟩ = some (.float .f32 1065353216)) :
    Calls Try.prog 115 #[.agg #[.float .f32 y, .complex .f32 u v], .pointer (some ⟨b, 0, none⟩)] w fun e w' => e = .returned (.agg #[.float .f32 y, .complex .f32 u v]) ∧ Below w.heap.size w w' := by
  have HS := fun W => Lib.hid (scaled_one y u v W hu hv fu fv)
  have hlt : b < w.heap.size := World.block_lt_of_cell? w _ hb
  clear hu hv fu fv
  go_enter Try.func115, Try.ntmps115
  go_wp2_with fail
  refine (HS _).out.mono ?_
  rintro e w1 ⟨rfl, hb1⟩
  have hz : ((w.alloc (.cells #[.float .f32 y, .complex .f32 u v] 40)).alloc (.cells #[.float .f32 0, .complex .f32 0 0] 40)).heap[w.heap.size + 1]? = some (.cells #[.float .f32 0, .complex .f32 0 0] 40 (0, 0)) := by
    have := heap_alloc_new (w.alloc (.cells #[.float .f32 y, .complex .f32 u v] 40)) (.cells #[.float .f32 0, .complex .f32 0 0] 40)
    simpa using this
  have hB : w1.heap[w.heap.size + 1]? = some (.cells #[.float .f32 0, .complex .f32 0 0] 40 (0, 0)) := (hb1.block _ (by simp)).trans hz
  have c0 : w1.cell? ⟨w.heap.size + 1, 0, none⟩ = some (.float .f32 0) := by simp [World.cell?, hB]
  have c1 : w1.cell? ⟨w.heap.size + 1, 1, none⟩ = some (.complex .f32 0 0) := by simp [World.cell?, hB]
  have f0 : w1.frozen? ⟨w.heap.size + 1, 0, none⟩ = false := by simp [World.frozen?, hB]
  have f1 : w1.frozen? ⟨w.heap.size + 1, 1, none⟩ = false := by simp [World.frozen?, hB]
  have hB2 := heap_put (i := 1) (v := .complex .f32 u v) (heap_put (i := 0) (v := .float .f32 y) hB)
  have d0 : ((w1.setCell ⟨w.heap.size + 1, 0, none⟩ (.float .f32 y)).setCell ⟨w.heap.size + 1, 1, none⟩ (.complex .f32 u v)).cell? ⟨w.heap.size + 1, 0, none⟩ = some (.float .f32 y) := by simp [World.cell?, hB2]
  have d1 : ((w1.setCell ⟨w.heap.size + 1, 0, none⟩ (.float .f32 y)).setCell ⟨w.heap.size + 1, 1, none⟩ (.complex .f32 u v)).cell? ⟨w.heap.size + 1, 1, none⟩ = some (.complex .f32 u v) := by simp [World.cell?, hB2]
  clear hz hB hB2
  have hbel : Below w.heap.size w w1 := ((Below.refl w.heap.size w).alloc (Nat.le_refl _) _ |>.alloc (by simp) _).trans (hb1.mono (by simp; omega))
  clear hb1
  have hbel2 := (hbel.setCell (p := ⟨w.heap.size + 1, 0, none⟩) (by simp) (.float .f32 y)).setCell (p := ⟨w.heap.size + 1, 1, none⟩) (by simp) (.complex .f32 u v)
  go_wp2
  generalize ((w1.setCell ⟨w.heap.size + 1, 0, none⟩ (.float .f32 y)).setCell ⟨w.heap.size + 1, 1, none⟩ (.complex .f32 u v)) = w2 at *
  refine bodyPost_ret (v := .agg #[.float .f32 y, .complex .f32 u v]) ?_ rfl ⟨rfl, ?_⟩
  · simp [results, Try.results115, go_sem, d0, d1]
  · exact hbel2
end Go.Proofs.Ytgecclccmmcdoaa

/-
  What is proved: the walk of the generic function that makes a row of a row, over whatever function value makes a cell of a cell.
  Conditions: the row is not empty and has at most 64 cells; the function value answers a cell and writes into new memory alone.
-/
namespace Go.Proofs.Ytgecclccmmcdoaa
set_option linter.unusedVariables false
open Go.RowKit
attribute [local go_sem] run_store_float run_store_complex unary_negf neg256

theorem info_cell : (Try.prog.info? 40).map (fun i => (i.zero, i.size, i.bytes)) = some (some (.agg #[.float .f32 0, .complex .f32 0 0]), 2, 12) := by kernel_rfl
theorem make_cells (n : Nat) (hn : n ≤ 1000000) (W : World) : (Instr.makeSlice 36 (.int .i64 (n : Int)) (.int .i64 (n : Int))).run Try.prog W = .ok (.slice (some ⟨W.heap.size, 0, none⟩) n n) (W.alloc (.cells (madeCells #[.float .f32 0, .complex .f32 0 0] (n * 2)) 40)) := by
  obtain ⟨i0, hi, hz0, hz1, hz2⟩ := info_parts info_cell
  have h := run_make (P := Try.prog) W 36 40 i0 _ Try.underlying36 hi hz0 .i64 .i64 n n (by omega) (by omega) (by rw [hz2]; omega) (by omega)
  rw [hz1] at h
  simpa [Value.cells] using h

/-- The block holds n cells; the first k are those of cs. -/
def Made (w : World) (b n k : Nat) (cs : List C3) : Prop :=
  ∃ cur : Array Value, w.heap[b]? = some (.cells cur 40 (0, 0)) ∧ cur.size = n * 2 ∧ ∀ i (h : i < cs.length), i < k → cur[i * 2]? = some (.float .f32 cs[i].1) ∧ cur[i * 2 + 1]? = some (.complex .f32 cs[i].2.1 cs[i].2.2)
theorem Made.start (w : World) (n : Nat) (cs : List C3) : Made (w.alloc (.cells (madeCells #[.float .f32 0, .complex .f32 0 0] (n * 2)) 40)) w.heap.size n 0 cs :=
  ⟨_, heap_alloc_new w _, size_madeCells _ _, fun i h hi => by omega⟩
theorem Made.kept {w w' : World} {b n k : Nat} {cs : List C3} (h : Made w b n k cs) (hb : w'.heap[b]? = w.heap[b]?) : Made w' b n k cs := by
  obtain ⟨cur, h1, h2⟩ := h
  exact ⟨cur, hb.trans h1, h2⟩
theorem Made.step {w : World} {b n k : Nat} {cs : List C3} (h : Made w b n k cs) (hn : k < cs.length) (hk : cs.length ≤ n) :
    Made ((w.setCell ⟨b, k * 2, none⟩ (.float .f32 cs[k].1)).setCell ⟨b, k * 2 + 1, none⟩ (.complex .f32 cs[k].2.1 cs[k].2.2)) b n (k + 1) cs := by
  obtain ⟨cur, h1, h2, h3⟩ := h
  refine ⟨(cur.setIfInBounds (k * 2) (.float .f32 cs[k].1)).setIfInBounds (k * 2 + 1) (.complex .f32 cs[k].2.1 cs[k].2.2), heap_put (heap_put h1), by simp [h2], fun i hi hik => ?_⟩
  by_cases e : i = k
  · subst e
    constructor
    · rw [Array.getElem?_setIfInBounds, if_neg (by omega), Array.getElem?_setIfInBounds, if_pos rfl, if_pos (by omega)]
    · rw [Array.getElem?_setIfInBounds, if_pos rfl, if_pos (by simp; omega)]
  · obtain ⟨g1, g2⟩ := h3 i hi (by omega)
    constructor
    · rw [Array.getElem?_setIfInBounds, if_neg (by omega), Array.getElem?_setIfInBounds, if_neg (by omega)]; exact g1
    · rw [Array.getElem?_setIfInBounds, if_neg (by omega), Array.getElem?_setIfInBounds, if_neg (by omega)]; exact g2
theorem Made.row {w : World} {b n : Nat} {cs : List C3} (h : Made w b n n cs) (hn : cs.length = n) : RowV w (.slice (some ⟨b, 0, none⟩) n n) cs := by
  obtain ⟨cur, h1, h2, h3⟩ := h
  subst hn
  refine .inr ⟨b, 0, cs.length, rfl, Nat.le_refl _, fun i hi => ?_⟩
  obtain ⟨g1, g2⟩ := h3 i hi hi
  exact ⟨by simp [World.cell?, h1, g1], by simp [World.cell?, h1, g2]⟩
theorem Made.at {w : World} {b n k : Nat} {cs : List C3} (h : Made w b n k cs) (i : Nat) (hi : i < n) : (∃ x, w.cell? ⟨b, i * 2, none⟩ = some x) ∧ (∃ x, w.cell? ⟨b, i * 2 + 1, none⟩ = some x) ∧ w.frozen? ⟨b, i * 2, none⟩ = false ∧ w.frozen? ⟨b, i * 2 + 1, none⟩ = false := by
  obtain ⟨cur, h1, h2, _⟩ := h
  refine ⟨⟨cur[i * 2]'(by omega), ?_⟩, ⟨cur[i * 2 + 1]'(by omega), ?_⟩, ?_, ?_⟩
  · simp [World.cell?, h1, Array.getElem?_eq_getElem (show i * 2 < cur.size by omega)]
  · simp [World.cell?, h1, Array.getElem?_eq_getElem (show i * 2 + 1 < cur.size by omega)]
  · simp [World.frozen?, h1]
  · simp [World.frozen?, h1]

def RowPost (cs : List C3) (w : World) (e : Ending) (w' : World) : Prop := ∃ v', e = .returned v' ∧ RowV w' v' cs ∧ Below w.heap.size w w'
theorem RowPost.mk {cs : List C3} {w w' : World} {v' : Value} (h : RowV w' v' cs) (hb : Below w.heap.size w w') : RowPost cs w (.returned v') w' := ⟨v', rfl, h, hb⟩
set_option maxHeartbeats 1000000 in
theorem changedConj_any (φ : C3 → C3) (v : Value) (cs : List C3) (w : World) (h : RowV w v cs) (hne : cs ≠ []) (hl : cs.length ≤ 1000000)
    (HX : ∀ c ∈ cs, ∀ W, Below w.heap.size w W → Calls Try.prog 135 #[.agg #[.float .f32 c.1, .complex .f32 c.2.1 c.2.2]] W fun e w' => e = .returned (.agg #[.float .f32 (φ c).1, .complex .f32 (φ c).2.1 (φ c).2.2]) ∧ Below W.heap.size W w') :
    Calls Try.prog 69 #[v, .func (.func 135) #[] #[]] w fun e w' => RowPost (cs.map φ) w e w' := by
  rcases h with ⟨_, h1⟩ | ⟨g, o, cap, rfl, hcap, hcell⟩
  · exact absurd h1 hne
  · have HC := Lib.hid hcell
    have HXX := Lib.hid HX
    have hmk := make_cells cs.length hl
    clear hcell HX hne
    go_enter Try.func69, Try.ntmps69
    go_wp2
    have hst := Made.start w cs.length (cs.map φ)
    have hbel : Below w.heap.size w (w.alloc (.cells (madeCells #[.float .f32 0, .complex .f32 0 0] (cs.length * 2)) 40)) := (Below.refl _ _).alloc (Nat.le_refl _) _
    have hsz : w.heap.size < (w.alloc (.cells (madeCells #[.float .f32 0, .complex .f32 0 0] (cs.length * 2)) 40)).heap.size := by simp
    clear hmk
    generalize w.alloc (.cells (madeCells #[.float .f32 0, .complex .f32 0 0] (cs.length * 2)) 40) = w1 at *
    go_loopw [13] (fun i wr => ∃ k : Nat, k ≤ cs.length ∧ i = .int .i64 (k : Int) ∧ Below w.heap.size w wr ∧ w.heap.size < wr.heap.size ∧ Made wr w.heap.size cs.length k (cs.map φ)) (fun i _ => cs.length - (intOf i).toNat)
    case atStart => exact ⟨0, Nat.zero_le _, rfl, hbel, hsz, hst⟩
    case round =>
      obtain ⟨k, hk, rfl, hb, hs, hm⟩ := hrel
      have HM := Lib.hid hm
      clear hm
      by_cases hlt : k < cs.length
      · obtain ⟨hc0, hc1⟩ := HC.out k hlt
        have hd0 := (grown_of hb).cell hc0 (by simp)
        have hd1 := (grown_of hb).cell hc1 (by simp)
        have HK := fun W hW => Lib.hid (HXX.out cs[k] (List.getElem_mem hlt) W hW)
        have hlm : k < (cs.map φ).length := by simpa using hlt
        have hmk := List.getElem_map φ (h := hlm)
        have HMK := Lib.hid hmk
        clear hc0 hc1 hmk
        generalize hck : cs[k] = c at *
        have HCK := Lib.hid hck
        clear hck
        go_wp2_with fail
        have hbA := hb.alloc hb.size (.cells #[.float .f32 c.1, .complex .f32 c.2.1 c.2.2] 40)
        refine (HK _ hbA).out.mono ?_
        rintro e w2 ⟨rfl, hb2⟩
        have hm2 : Made w2 w.heap.size cs.length k (cs.map φ) := HM.out.kept ((hb2.block _ (by simp; omega)).trans (Below.heap_alloc _ _ _ hs))
        have hbw : Below w.heap.size w w2 := hbA.trans (hb2.mono (by simp; omega))
        have hs2 : w.heap.size < w2.heap.size := Nat.lt_of_lt_of_le hs (Nat.le_trans (by simp) hb2.size)
        obtain ⟨⟨x0, hx0⟩, ⟨x1, hx1⟩, hf0, hf1⟩ := hm2.at k hlt
        have hm3 := hm2.step hlm (by simp)
        rw [HMK.out] at hm3
        have HM3 := Lib.hid hm3
        clear hm2 hm3 hb2 hbA hd0 hd1
        go_wp2
        go_roundw
        case rel => exact ⟨k + 1, by omega, by go_num, (hbw.setCell (Nat.le_refl _) _).setCell (Nat.le_refl _) _, by simpa [World.setCell] using hs2, HM3.out⟩
        case measure => simp [intOf]; omega
      · have hkk : k = cs.length := by omega
        subst hkk
        have hrow := HM.out.row (by simp)
        have HR := Lib.hid hrow
        clear hrow
        go_wp2
        go_ret
        exact RowPost.mk HR.out hb
set_option maxHeartbeats 1000000 in
theorem changedScale_any (b : Nat) (φ : C3 → C3) (v : Value) (cs : List C3) (w : World) (h : RowV w v cs) (hne : cs ≠ []) (hl : cs.length ≤ 1000000)
    (HX : ∀ c ∈ cs, ∀ W, Below w.heap.size w W → Calls Try.prog 115 #[.agg #[.float .f32 c.1, .complex .f32 c.2.1 c.2.2], .pointer (some ⟨b, 0, none⟩)] W fun e w' => e = .returned (.agg #[.float .f32 (φ c).1, .complex .f32 (φ c).2.1 (φ c).2.2]) ∧ Below W.heap.size W w') :
    Calls Try.prog 69 #[v, .func (.func 115) #[] #[.pointer (some ⟨b, 0, none⟩)]] w fun e w' => RowPost (cs.map φ) w e w' := by
  rcases h with ⟨_, h1⟩ | ⟨g, o, cap, rfl, hcap, hcell⟩
  · exact absurd h1 hne
  · have HC := Lib.hid hcell
    have HXX := Lib.hid HX
    have hmk := make_cells cs.length hl
    clear hcell HX hne
    go_enter Try.func69, Try.ntmps69
    go_wp2
    have hst := Made.start w cs.length (cs.map φ)
    have hbel : Below w.heap.size w (w.alloc (.cells (madeCells #[.float .f32 0, .complex .f32 0 0] (cs.length * 2)) 40)) := (Below.refl _ _).alloc (Nat.le_refl _) _
    have hsz : w.heap.size < (w.alloc (.cells (madeCells #[.float .f32 0, .complex .f32 0 0] (cs.length * 2)) 40)).heap.size := by simp
    clear hmk
    generalize w.alloc (.cells (madeCells #[.float .f32 0, .complex .f32 0 0] (cs.length * 2)) 40) = w1 at *
    go_loopw [13] (fun i wr => ∃ k : Nat, k ≤ cs.length ∧ i = .int .i64 (k : Int) ∧ Below w.heap.size w wr ∧ w.heap.size < wr.heap.size ∧ Made wr w.heap.size cs.length k (cs.map φ)) (fun i _ => cs.length - (intOf i).toNat)
    case atStart => exact ⟨0, Nat.zero_le _, rfl, hbel, hsz, hst⟩
    case round =>
      obtain ⟨k, hk, rfl, hb, hs, hm⟩ := hrel
      have HM := Lib.hid hm
      clear hm
      by_cases hlt : k < cs.length
      · obtain ⟨hc0, hc1⟩ := HC.out k hlt
        have hd0 := (grown_of hb).cell hc0 (by simp)
        have hd1 := (grown_of hb).cell hc1 (by simp)
        have HK := fun W hW => Lib.hid (HXX.out cs[k] (List.getElem_mem hlt) W hW)
        have hlm : k < (cs.map φ).length := by simpa using hlt
        have hmk := List.getElem_map φ (h := hlm)
        have HMK := Lib.hid hmk
        clear hc0 hc1 hmk
        generalize hck : cs[k] = c at *
        have HCK := Lib.hid hck
        clear hck
        go_wp2_with fail
        have hbA := hb.alloc hb.size (.cells #[.float .f32 c.1, .complex .f32 c.2.1 c.2.2] 40)
        refine (HK _ hbA).out.mono ?_
        rintro e w2 ⟨rfl, hb2⟩
        have hm2 : Made w2 w.heap.size cs.length k (cs.map φ) := HM.out.kept ((hb2.block _ (by simp; omega)).trans (Below.heap_alloc _ _ _ hs))
        have hbw : Below w.heap.size w w2 := hbA.trans (hb2.mono (by simp; omega))
        have hs2 : w.heap.size < w2.heap.size := Nat.lt_of_lt_of_le hs (Nat.le_trans (by simp) hb2.size)
        obtain ⟨⟨x0, hx0⟩, ⟨x1, hx1⟩, hf0, hf1⟩ := hm2.at k hlt
        have hm3 := hm2.step hlm (by simp)
        rw [HMK.out] at hm3
        have HM3 := Lib.hid hm3
        clear hm2 hm3 hb2 hbA hd0 hd1
        go_wp2
        go_roundw
        case rel => exact ⟨k + 1, by omega, by go_num, (hbw.setCell (Nat.le_refl _) _).setCell (Nat.le_refl _) _, by simpa [World.setCell] using hs2, HM3.out⟩
        case measure => simp [intOf]; omega
      · have hkk : k = cs.length := by omega
        subst hkk
        have hrow := HM.out.row (by simp)
        have HR := Lib.hid hrow
        clear hrow
        go_wp2
        go_ret
        exact RowPost.mk HR.out hb
end Go.Proofs.Ytgecclccmmcdoaa

/-
  What is proved: the walks of Conjugate, and of ScaleRow by 1.
  Conditions: the row's numbers fit their kind; at most 1000000 cells.
-/
namespace Go.Proofs.Ytgecclccmmcdoaa
set_option linter.unusedVariables false
open Go.RowKit
attribute [local go_sem] run_store_float run_store_complex unary_negf neg256

def cj (c : C3) : C3 := (c.1, c.2.1, Op.negFloat .f32 c.2.2)
/-- The bits fit. -/
def Fit (cs : List C3) : Prop := ∀ c ∈ cs, c.1 < 2 ^ 32 ∧ c.2.1 < 2 ^ 32 ∧ c.2.2 < 2 ^ 32
theorem cj_cj (cs : List C3) : (cs.map cj).map cj = cs := by
  rw [List.map_map]
  have : cj ∘ cj = id := by funext c; simp [cj, Flt.neg_neg32]
  rw [this, List.map_id]
theorem rok_iff {cs : List C3} : rok cs = true ↔ (1 ≤ cs.length ∧ cs.length ≤ 64) ∧ ∀ c ∈ cs, Flt.fin c.1 = true ∧ Flt.fin c.2.1 = true ∧ Flt.fin c.2.2 = true := by
  unfold rok
  rw [Bool.and_eq_true, Bool.and_eq_true, decide_eq_true_iff, decide_eq_true_iff, List.all_eq_true]
  refine and_congr Iff.rfl (forall_congr' fun c => ?_)
  unfold okc
  rw [Bool.and_eq_true, Bool.and_eq_true]
theorem rok_cj {cs : List C3} (hf : Fit cs) (h : rok cs = true) : rok (cs.map cj) = true := by
  obtain ⟨h1, h2⟩ := rok_iff.1 h
  refine rok_iff.2 ⟨by simpa using h1, fun c hc => ?_⟩
  obtain ⟨d, hd, rfl⟩ := List.mem_map.1 hc
  obtain ⟨g1, g2, g3⟩ := h2 d hd
  exact ⟨g1, g2, Flt.fin_neg (hf d hd).2.2 g3⟩
theorem rok_ne {cs : List C3} (h : rok cs = true) : cs ≠ [] := by
  rintro rfl
  exact absurd h (by decide)
theorem RowV.nil (w : World) : RowV w (.slice none 0 0) [] := .inl ⟨rfl, rfl⟩

theorem conjugateRow_any (v : Value) (cs : List C3) (w : World) (h : RowV w v cs) (hl : cs.length ≤ 1000000) :
    Calls Try.prog 110 #[v] w fun e w' => RowPost (if rok cs = true then cs.map cj else []) w e w' := by
  have HR := Lib.hid (rowOk_any v cs w h hl)
  cases hr : rok cs with
  | false =>
    simp only [Bool.false_eq_true, if_false]
    rw [hr] at HR
    clear h hr
    go_enter Try.func110, Try.ntmps110
    go_wp2_with fail
    refine HR.out.mono ?_
    rintro e w1 ⟨rfl, hb⟩
    go_wp2
    go_ret
    exact RowPost.mk (RowV.nil _) hb
  | true =>
    simp only [if_true]
    have HC := fun W hW => Lib.hid (changedConj_any cj v cs W hW (rok_ne hr) hl fun c hc W' _ => conjugated_any c.1 c.2.1 c.2.2 W')
    have HV := Lib.hid h
    rw [hr] at HR
    clear hr h
    go_enter Try.func110, Try.ntmps110
    go_wp2_with fail
    refine HR.out.mono ?_
    rintro e w1 ⟨rfl, hb⟩
    go_wp2_with fail
    refine (HC w1 (HV.out.below hb)).out.mono ?_
    rintro e w2 ⟨v', rfl, hv, hb2⟩
    go_wp2
    go_ret
    exact RowPost.mk hv (below_trans hb hb2 hb.size)

def ScalePost (cs : List C3) (w : World) (e : Ending) (w' : World) : Prop := ∃ v', e = .returned (.tuple #[v', .bool (rok cs)]) ∧ RowV w' v' (if rok cs = true then cs else []) ∧ Below w.heap.size w w'
theorem ScalePost.no {cs : List C3} {w w' : World} {v' : Value} (hr : rok cs = false) (h : RowV w' v' []) (hb : Below w.heap.size w w') : ScalePost cs w (.returned (.tuple #[v', .bool false])) w' := ⟨v', by rw [hr], by simpa [hr] using h, hb⟩
theorem ScalePost.yes {cs : List C3} {w w' : World} {v' : Value} (hr : rok cs = true) (h : RowV w' v' cs) (hb : Below w.heap.size w w') : ScalePost cs w (.returned (.tuple #[v', .bool true])) w' := ⟨v', by rw [hr], by simpa [hr] using h, hb⟩
set_option maxHeartbeats 1000000 in
theorem scaleRow_one (v : Value) (cs : List C3) (w : World) (h : RowV w v cs) (hl : cs.length ≤ 1000000) (hf : Fit cs) :
    Calls Try.prog 75 #[v, .float .f32 1065353216] w fun e w' => ScalePost cs w e w' := by
  have HR := fun W hW => Lib.hid (rowOk_any v cs W hW hl)
  have HR2 := fun v' W hW => Lib.hid (rowOk_any v' cs W hW hl)
  have HV := Lib.hid h
  cases hr : rok cs with
  | false =>
    have HH := Lib.hid hr
    rw [hr] at HR
    clear h hr HR2
    go_enter Try.func75, Try.ntmps75
    go_wp2_with fail
    have hbA := (Below.refl w.heap.size w).alloc (Nat.le_refl _) (.cells #[.float .f32 1065353216] 26)
    refine (HR _ (HV.out.below hbA)).out.mono ?_
    rintro e w1 ⟨rfl, hb⟩
    go_wp2
    go_ret2
    exact ScalePost.no HH.out (RowV.nil _) (below_trans hbA hb hbA.size)
  | true =>
    obtain ⟨_, hfin⟩ := rok_iff.1 hr
    have HC := fun b W hW (hb : W.cell? ⟨b, 0, none⟩ = some (.float .f32 1065353216)) => Lib.hid (changedScale_any b id v cs W hW (rok_ne hr) hl fun c hc W' hW' =>
      scaleLit_one c.1 c.2.1 c.2.2 b W' (hf c hc).2.1 (hf c hc).2.2 (hfin c hc).2.1 (hfin c hc).2.2 (((grown_of hW').cell hb (by simp))))
    have HH := Lib.hid hr
    rw [hr] at HR HR2
    clear hr h hfin hf
    go_enter Try.func75, Try.ntmps75
    go_wp2_with fail
    have hbA := (Below.refl w.heap.size w).alloc (Nat.le_refl _) (.cells #[.float .f32 1065353216] 26)
    have hcA : (w.alloc (.cells #[.float .f32 1065353216] 26)).cell? ⟨w.heap.size, 0, none⟩ = some (.float .f32 1065353216) := (cell_of_row _ _ 0 _ _ _ (heap_alloc_new w _)).trans rfl
    refine (HR _ (HV.out.below hbA)).out.mono ?_
    rintro e w1 ⟨rfl, hb⟩
    have hc1 := (grown_of hb).cell hcA (by simp)
    have hb1 := below_trans hbA hb hbA.size
    clear hcA hbA hb
    go_wp2_with fail
    refine (HC w.heap.size w1 (HV.out.below hb1) hc1).out.mono ?_
    rintro e w2 ⟨v', rfl, hv, hb2⟩
    rw [List.map_id] at hv
    have HV2 := Lib.hid hv
    clear hv
    go_wp2_with fail
    refine (HR2 v' w2 HV2.out).out.mono ?_
    rintro e w3 ⟨rfl, hb3⟩
    go_wp2
    go_ret2
    exact ScalePost.yes HH.out (HV2.out.below hb3) (below_trans hb1 (below_trans hb2 hb3 hb2.size) hb1.size)
end Go.Proofs.Ytgecclccmmcdoaa

/-
  What is proved: the walks of Carrier and Carried (the program's and the model's) at every number.
  Conditions: those that each fact names.
-/
namespace Go.Proofs.Ytgecclccmmcdoaa
set_option linter.unusedVariables false
open Go.RowKit
attribute [local go_sem] run_store_float run_store_complex unary_negf neg256

theorem and_three (n : Int) : bits .and .i64 n 3 = n % 4 := by
  have h2 : (BitVec.ofInt 64 n &&& BitVec.ofInt 64 3).toNat = (n % 18446744073709551616).toNat % 4 := by
    rw [BitVec.toNat_and, BitVec.toNat_ofInt]
    exact Nat.and_two_pow_sub_one_eq_mod _ 2
  show IntKind.i64.wrap ((BitVec.ofInt 64 n &&& BitVec.ofInt 64 3).toNat : Int) = _
  rw [h2]
  have h3 : (((n % 18446744073709551616).toNat % 4 : Nat) : Int) = n % 4 := by omega
  rw [h3]
  exact IntWalk.i64_in _ (by omega)
theorem sampleNumber_any (n : Int) (w : World) : Calls Try.prog 156 #[.int .i64 n] w fun e w' => e = .returned (.int .i64 (n % 4)) ∧ w = w' := by
  have h := and_three n
  go_enter Try.func156, Try.ntmps156
  go_wp2
  go_ret
  exact ⟨rfl, rfl⟩
theorem l03Mod_any (n : Int) (w : World) : Calls Try.prog 159 #[.int .i64 n] w fun e w' => e = .returned (.int .i64 (n % 4)) ∧ w = w' := by
  have h0 : -4 < n.tmod 4 ∧ n.tmod 4 < 4 := ⟨Int.lt_tmod_of_pos n (by decide), Int.tmod_lt_of_pos n (by decide)⟩
  have h1 : wrap64 (n.tmod 4 + 4) = n.tmod 4 + 4 := by unfold wrap64; omega
  have h2 : (n.tmod 4 + 4).tmod 4 = n % 4 := by
    rw [Int.tmod_eq_emod_of_nonneg (by omega), Int.add_emod_right]
    have h3 := Int.tmod_add_mul_tdiv n 4
    generalize n.tmod 4 = a at *
    generalize n.tdiv 4 = b at *
    omega
  clear h0
  go_enter Try.func159, Try.ntmps159
  go_wp2
  go_ret
  exact ⟨rfl, rfl⟩

/-- The phase of the carrier. -/
def phase (n : Int) : Nat × Nat := if n % 4 = 0 then (1065353216, 0) else if n % 4 = 1 then (0, 1065353216) else if n % 4 = 2 then (3212836864, 0) else (0, 3212836864)

/-- What a sample carries of a colour. -/
def carriedOf (u v : Nat) (n : Int) : Nat := if n % 4 = 0 then u else if n % 4 = 1 then Op.negFloat .f32 v else if n % 4 = 2 then Op.negFloat .f32 u else v
theorem carried_any (u v : Nat) (n : Int) (w : World) : Calls Try.prog 148 #[.complex .f32 u v, .int .i64 n] w fun e w' => e = .returned (.float .f32 (carriedOf u v n)) ∧ Below w.heap.size w w' := by
  have HS := fun W => Lib.hid (sampleNumber_any n W)
  unfold carriedOf
  have hr : n % 4 = 0 ∨ n % 4 = 1 ∨ n % 4 = 2 ∨ n % 4 = 3 := by omega
  have hb := (Below.refl w.heap.size w).alloc (Nat.le_refl _) (.cells #[.float .f32 u, .float .f32 (Op.negFloat .f32 v), .float .f32 (Op.negFloat .f32 u), .float .f32 v] 133)
  go_enter Try.func148, Try.ntmps148
  go_wp2_with fail
  refine (HS _).out.mono ?_
  rintro e w1 ⟨rfl, rfl⟩
  clear HS
  rcases hr with h | h | h | h <;> rw [h]
  all_goals
    go_wp2
    go_ret
    exact ⟨by simp, hb⟩
theorem specCarried_any (u v : Nat) (n : Int) (w : World) : Calls Try.prog 158 #[.complex .f32 u v, .int .i64 n] w fun e w' => e = .returned (.float .f32 (carriedOf u v n)) ∧ w = w' := by
  have HS := fun W => Lib.hid (l03Mod_any n W)
  unfold carriedOf
  have hr : n % 4 = 0 ∨ n % 4 = 1 ∨ n % 4 = 2 ∨ n % 4 = 3 := by omega
  go_enter Try.func158, Try.ntmps158
  go_wp2_with fail
  refine (HS _).out.mono ?_
  rintro e w1 ⟨rfl, rfl⟩
  clear HS
  rcases hr with h | h | h | h <;> rw [h]
  all_goals
    go_wp2
    go_ret
    exact ⟨by simp, rfl⟩
end Go.Proofs.Ytgecclccmmcdoaa
