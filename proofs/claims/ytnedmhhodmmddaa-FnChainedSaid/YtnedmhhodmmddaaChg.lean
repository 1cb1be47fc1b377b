/-
  What is proved: the walk of the generic function that makes a row of a row, over whatever function value makes a cell of a cell.
  Conditions: the row is not empty and has at most 64 cells; the function value answers a cell and writes into new memory alone.
-/
import Derived.Test.YtnedmhhodmmddaaConj
namespace Go.Proofs.Ytnedmhhodmmddaa
set_option linter.unusedVariables false
open Go.RowKit
attribute [local go_sem] run_store_float run_store_complex unary_negf neg256

theorem info_cell : (Try.prog.info? 43).map (fun i => (i.zero, i.size, i.bytes)) = some (some (.agg #[.float .f32 0, .complex .f32 0 0]), 2, 12) := by kernel_rfl
theorem make_cells (n : Nat) (hn : n ≤ 1000000) (W : World) : (Instr.makeSlice 26 (.int .i64 (n : Int)) (.int .i64 (n : Int))).run Try.prog W = .ok (.slice (some ⟨W.heap.size, 0, none⟩) n n) (W.alloc (.cells (madeCells #[.float .f32 0, .complex .f32 0 0] (n * 2)) 43)) := by
  obtain ⟨i0, hi, hz0, hz1, hz2⟩ := info_parts info_cell
  have h := run_make (P := Try.prog) W 26 43 i0 _ Try.underlying26 hi hz0 .i64 .i64 n n (by omega) (by omega) (by rw [hz2]; omega) (by omega)
  rw [hz1] at h
  simpa [Value.cells] using h

/-- The block holds n cells; the first k are those of cs. -/
def Made (w : World) (b n k : Nat) (cs : List C3) : Prop :=
  ∃ cur : Array Value, w.heap[b]? = some (.cells cur 43 (0, 0)) ∧ cur.size = n * 2 ∧ ∀ i (h : i < cs.length), i < k → cur[i * 2]? = some (.float .f32 cs[i].1) ∧ cur[i * 2 + 1]? = some (.complex .f32 cs[i].2.1 cs[i].2.2)
theorem Made.start (w : World) (n : Nat) (cs : List C3) : Made (w.alloc (.cells (madeCells #[.float .f32 0, .complex .f32 0 0] (n * 2)) 43)) w.heap.size n 0 cs :=
  ⟨_, heap_alloc_new w _, size_madeCells _ _, fun i h hi => by omega⟩
theorem Made.kept {w w' : World} {b n k : Nat} {cs : List C3} (h : Made w b n k cs) (hb : w'.heap[b]? = w.heap[b]?) : Made w' b n k cs := by
  obtain ⟨cur, h1, h2⟩ := h
  exact ⟨cur, hb.trans h1, h2⟩
theorem Made.step {w : World} {b n k : Nat} {cs : List C3} (h : Made w b n k cs) (hn : k < cs.length) (hk : cs.length ≤ n) :
    Made ((w.setCell ⟨b, k * 2, none⟩ (.float .f32 cs[k].1)).setCell ⟨b, k * 2 + 1, none⟩ (.complex .f32 cs[k].2.1 cs[k].2.2)) b n (k + 1) cs := by
  obtain ⟨cur, h1, h2, h3⟩ := h
  refine ⟨(cur.setIfInBounds (k * 2) (.float .f32 cs[k].1)).setIfInBounds (k * 2 + 1) (.complex .f32 cs[k].2.1 cs[k].2.2), heap_put (heap_put h1), by simp [h2], fun i hi hik => ?_⟩
  by_cases e : i = k
  · subst e
    constructor
    · rw [Array.getElem?_setIfInBounds, if_neg (by omega), Array.getElem?_setIfInBounds, if_pos rfl, if_pos (by omega)]
    · rw [Array.getElem?_setIfInBounds, if_pos rfl, if_pos (by simp; omega)]
  · obtain ⟨g1, g2⟩ := h3 i hi (by omega)
    constructor
    · rw [Array.getElem?_setIfInBounds, if_neg (by omega), Array.getElem?_setIfInBounds, if_neg (by omega)]; exact g1
    · rw [Array.getElem?_setIfInBounds, if_neg (by omega), Array.getElem?_setIfInBounds, if_neg (by omega)]; exact g2
theorem Made.row {w : World} {b n : Nat} {cs : List C3} (h : Made w b n n cs) (hn : cs.length = n) : RowV w (.slice (some ⟨b, 0, none⟩) n n) cs := by
  obtain ⟨cur, h1, h2, h3⟩ := h
  subst hn
  refine .inr ⟨b, 0, cs.length, rfl, Nat.le_refl _, fun i hi => ?_⟩
  obtain ⟨g1, g2⟩ := h3 i hi hi
  exact ⟨by simp [World.cell?, h1, g1], by simp [World.cell?, h1, g2]⟩
theorem Made.at {w : World} {b n k : Nat} {cs : List C3} (h : Made w b n k cs) (i : Nat) (hi : i < n) : (∃ x, w.cell? ⟨b, i * 2, none⟩ = some x) ∧ (∃ x, w.cell? ⟨b, i * 2 + 1, none⟩ = some x) ∧ w.frozen? ⟨b, i * 2, none⟩ = false ∧ w.frozen? ⟨b, i * 2 + 1, none⟩ = false := by
  obtain ⟨cur, h1, h2, _⟩ := h
  refine ⟨⟨cur[i * 2]'(by omega), ?_⟩, ⟨cur[i * 2 + 1]'(by omega), ?_⟩, ?_, ?_⟩
  · simp [World.cell?, h1, Array.getElem?_eq_getElem (show i * 2 < cur.size by omega)]
  · simp [World.cell?, h1, Array.getElem?_eq_getElem (show i * 2 + 1 < cur.size by omega)]
  · simp [World.frozen?, h1]
  · simp [World.frozen?, h1]

def RowPost (cs : List C3) (w : World) (e : Ending) (w' : World) : Prop := ∃ v', e = .returned v' ∧ RowV w' v' cs ∧ Below w.heap.size w w'
theorem RowPost.mk {cs : List C3} {w w' : World} {v' : Value} (h : RowV w' v' cs) (hb : Below w.heap.size w w') : RowPost cs w (.returned v') w' := ⟨v', rfl, h, hb⟩
set_option maxHeartbeats 1000000 in
theorem changedConj_any (φ : C3 → C3) (v : Value) (cs : List C3) (w : World) (h : RowV w v cs) (hne : cs ≠ []) (hl : cs.length ≤ 1000000)
    (HX : ∀ c ∈ cs, ∀ W, Below w.heap.size w W → Calls Try.prog 56 #[.agg #[.float .f32 c.1, .complex .f32 c.2.1 c.2.2]] W fun e w' => e = .returned (.agg #[.float .f32 (φ c).1, .complex .f32 (φ c).2.1 (φ c).2.2]) ∧ Below W.heap.size W w') :
    Calls Try.prog 55 #[v, .func (.func 56) #[] #[]] w fun e w' => RowPost (cs.map φ) w e w' := by
  rcases h with ⟨_, h1⟩ | ⟨g, o, cap, rfl, hcap, hcell⟩
  · exact absurd h1 hne
  · have HC := Lib.hid hcell
    have HXX := Lib.hid HX
    have hmk := make_cells cs.length hl
    clear hcell HX hne
    go_enter Try.func55, Try.ntmps55
    go_wp2
    have hst := Made.start w cs.length (cs.map φ)
    have hbel : Below w.heap.size w (w.alloc (.cells (madeCells #[.float .f32 0, .complex .f32 0 0] (cs.length * 2)) 43)) := (Below.refl _ _).alloc (Nat.le_refl _) _
    have hsz : w.heap.size < (w.alloc (.cells (madeCells #[.float .f32 0, .complex .f32 0 0] (cs.length * 2)) 43)).heap.size := by simp
    clear hmk
    generalize w.alloc (.cells (madeCells #[.float .f32 0, .complex .f32 0 0] (cs.length * 2)) 43) = w1 at *
    go_loopw [13] (fun i wr => ∃ k : Nat, k ≤ cs.length ∧ i = .int .i64 (k : Int) ∧ Below w.heap.size w wr ∧ w.heap.size < wr.heap.size ∧ Made wr w.heap.size cs.length k (cs.map φ)) (fun i _ => cs.length - (intOf i).toNat)
    case atStart => exact ⟨0, Nat.zero_le _, rfl, hbel, hsz, hst⟩
    case round =>
      obtain ⟨k, hk, rfl, hb, hs, hm⟩ := hrel
      have HM := Lib.hid hm
      clear hm
      by_cases hlt : k < cs.length
      · obtain ⟨hc0, hc1⟩ := HC.out k hlt
        have hd0 := (grown_of hb).cell hc0 (by simp)
        have hd1 := (grown_of hb).cell hc1 (by simp)
        have HK := fun W hW => Lib.hid (HXX.out cs[k] (List.getElem_mem hlt) W hW)
        have hlm : k < (cs.map φ).length := by simpa using hlt
        have hmk := List.getElem_map φ (h := hlm)
        have HMK := Lib.hid hmk
        clear hc0 hc1 hmk
        generalize hck : cs[k] = c at *
        have HCK := Lib.hid hck
        clear hck
        go_wp2_with fail
        have hbA := hb.alloc hb.size (.cells #[.float .f32 c.1, .complex .f32 c.2.1 c.2.2] 43)
        refine (HK _ hbA).out.mono ?_
        rintro e w2 ⟨rfl, hb2⟩
        have hm2 : Made w2 w.heap.size cs.length k (cs.map φ) := HM.out.kept ((hb2.block _ (by simp; omega)).trans (Below.heap_alloc _ _ _ hs))
        have hbw : Below w.heap.size w w2 := hbA.trans (hb2.mono (by simp; omega))
        have hs2 : w.heap.size < w2.heap.size := Nat.lt_of_lt_of_le hs (Nat.le_trans (by simp) hb2.size)
        obtain ⟨⟨x0, hx0⟩, ⟨x1, hx1⟩, hf0, hf1⟩ := hm2.at k hlt
        have hm3 := hm2.step hlm (by simp)
        rw [HMK.out] at hm3
        have HM3 := Lib.hid hm3
        clear hm2 hm3 hb2 hbA hd0 hd1
        go_wp2
        go_roundw
        case rel => exact ⟨k + 1, by omega, by go_num, (hbw.setCell (Nat.le_refl _) _).setCell (Nat.le_refl _) _, by simpa [World.setCell] using hs2, HM3.out⟩
        case measure => simp [intOf]; omega
      · have hkk : k = cs.length := by omega
        subst hkk
        have hrow := HM.out.row (by simp)
        have HR := Lib.hid hrow
        clear hrow
        go_wp2
        go_ret
        exact RowPost.mk HR.out hb
end Go.Proofs.Ytnedmhhodmmddaa
