/-
  What is proved: the walk of the program's EncodeCells.
  Conditions: the row can be read; its bits fit.
-/
import Derived.Test.YtobpnoiienpipaaGreatPz05
import Derived.Test.YtobpnoiienpipaaGreatPz08
import Derived.Deep.RegionHeld3
namespace Go.Proofs.YtobpnoiienpipaaGreat
set_option linter.unusedVariables false
open Go.RowKit
attribute [local go_sem] run_store_float run_store_complex unary_negf neg256

theorem make_cap (n : Nat) (hn : n ≤ 1000000000) (W : World) : (Instr.makeSlice 31 (.int .i64 0) (.int .i64 (n : Int))).run Tryz.prog W = .ok (.slice (some ⟨W.heap.size, 0, none⟩) 0 n) (W.alloc (.cells (madeCells #[.float .f32 0] n) 25)) := by
  obtain ⟨i0, hi, hz0, hz1, hz2⟩ := info_parts info_f32
  have h := run_make (P := Tryz.prog) W 31 25 i0 _ Tryz.underlying31 hi hz0 .i64 .i64 0 n (by omega) (by omega) (by rw [hz2]; omega) (by omega)
  rw [hz1] at h
  simpa [Value.cells] using h
theorem own_cap (w : World) (n : Nat) (hn : n ≤ 1000000000) : OwnF (w.alloc (.cells (madeCells #[.float .f32 0] n) 25)) w.heap.size (.slice (some ⟨w.heap.size, 0, none⟩) 0 n) [] :=
  World.ownsRow_made w _ n (Nat.le_refl _) (by unfold maxLen; omega) (by rw [size_madeCells, Nat.mul_one])
def EncPost (ys : List Nat) (w : World) (e : Ending) (w' : World) : Prop := ∃ v', e = .returned v' ∧ FNew w' w.heap.size v' ys ∧ Below w.heap.size w w'
theorem EncPost.mk {ys : List Nat} {w w' : World} {v' : Value} (h : FNew w' w.heap.size v' ys) (hb : Below w.heap.size w w') : EncPost ys w (.returned v') w' := ⟨v', rfl, h, hb⟩
theorem arr4_cell (c : C3) (W : World) : ∀ i (h : i < (enc4 c).length), (W.alloc (.cells #[.float .f32 (addv c.1 c.2.1), .float .f32 (addv c.1 (Op.negFloat .f32 c.2.2)), .float .f32 (addv c.1 (Op.negFloat .f32 c.2.1)), .float .f32 (addv c.1 c.2.2)] 162)).cell? ⟨W.heap.size, 0 + i, none⟩ = some (.float .f32 (enc4 c)[i]) := by
  intro i hi
  have hi4 : i = 0 ∨ i = 1 ∨ i = 2 ∨ i = 3 := by have : i < 4 := hi; omega
  have hn := heap_alloc_new W (.cells #[.float .f32 (addv c.1 c.2.1), .float .f32 (addv c.1 (Op.negFloat .f32 c.2.2)), .float .f32 (addv c.1 (Op.negFloat .f32 c.2.1)), .float .f32 (addv c.1 c.2.2)] 162)
  rcases hi4 with rfl | rfl | rfl | rfl <;> exact (cell_of_row _ _ _ _ _ _ hn).trans rfl
set_option maxHeartbeats 2000000 in
theorem encode_even (v : Value) (cs : List C3) (w : World) (h : RowV w v cs) (hf : Fit cs) (hl : cs.length ≤ 1000000) :
    Calls Tryz.prog 116 #[v, .bool false] w fun e w' => EncPost (if rok cs = true then enc cs else []) w e w' := by
  have HV := Lib.hid h
  have HRO := fun W hW => Lib.hid (rowOk_any v cs W hW hl)
  clear h
  cases hrk : rok cs with
  | false =>
    rw [hrk] at HRO
    clear hrk hf
    go_enter Tryz.func116, Tryz.ntmps116
    go_wp2_with fail
    refine (HRO _ HV.out).out.mono ?_
    rintro e w1 ⟨rfl, hb1⟩
    go_wp2
    go_ret
    exact EncPost.mk (by simpa using FNew.nil _ _) hb1
  | true =>
    obtain ⟨⟨hl1, hl64⟩, hfin⟩ := rok_iff.1 hrk
    have HOK := Lib.hid (fun (c : C3) (hc : c ∈ cs) => And.intro (hf c hc) (show okc c.1 c.2.1 c.2.2 = true by obtain ⟨a, b, d⟩ := hfin c hc; unfold okc; rw [a, b, d]; rfl))
    obtain ⟨g, o, cap, rfl, hcap, hcell⟩ : ∃ g o cap, v = .slice (some ⟨g, o, none⟩) cs.length cap ∧ cs.length ≤ cap ∧ ∀ i (h : i < cs.length), w.cell? ⟨g, o + i * 2, none⟩ = some (.float .f32 cs[i].1) ∧ w.cell? ⟨g, o + i * 2 + 1, none⟩ = some (.complex .f32 cs[i].2.1 cs[i].2.2) := by
      rcases HV.out with ⟨_, h1⟩ | h1
      · exact absurd h1 (rok_ne hrk)
      · exact h1
    have HC := Lib.hid hcell
    have hmk := fun W => make_cap (4 * cs.length) (by omega) W
    simp only [Int.natCast_mul, Int.cast_ofNat_Int] at hmk
    have HOC := Lib.hid (fun W => own_cap W (4 * cs.length) (by omega))
    rw [hrk] at HRO
    simp only [if_true]
    clear hrk hf hfin hcell
    go_enter Tryz.func116, Tryz.ntmps116
    go_wp2_with fail
    refine (HRO _ HV.out).out.mono ?_
    rintro e w1 ⟨rfl, hb1⟩
    have hbA := hb1.alloc hb1.size (.cells (madeCells #[.float .f32 0] (4 * cs.length)) 25)
    have HOA := Lib.hid (OwnF.mono (HOC.out w1) hb1.size)
    go_wp2
    clear hmk
    generalize w1.alloc (.cells (madeCells #[.float .f32 0] (4 * cs.length)) 25) = w2 at *
    have hs2 : w.heap.size ≤ w2.heap.size := hbA.size
    go_loopw [5, 21] (fun out i wr => ∃ (k g1 cap1 : Nat), k ≤ cs.length ∧ i = .int .i64 (k : Int) ∧ out = .slice (some ⟨g1, 0, none⟩) (4 * k) cap1 ∧ Below w.heap.size w wr ∧ OwnF wr w.heap.size (.slice (some ⟨g1, 0, none⟩) (4 * k) cap1) (enc (cs.take k))) (fun _ i => fun _ => cs.length - (intOf i).toNat)
    case atStart => exact ⟨0, _, _, Nat.zero_le _, rfl, rfl, hbA, HOA.out⟩
    case round =>
      obtain ⟨k, g1, cap1, hk, rfl, rfl, hb, hown⟩ := hrel
      have HO := Lib.hid hown
      clear hown HOA
      by_cases hlt : k < cs.length
      · obtain ⟨hc0, hc1⟩ := HC.out k hlt
        have m0 := (grown_of hb).cell hc0 (by simp)
        have m1 := (grown_of hb).cell hc1 (by simp)
        have hmem := HOK.out cs[k] (List.getElem_mem hlt)
        have htk := take_snoc cs k hlt
        generalize cs[k] = c at *
        have HTK := Lib.hid htk
        have HE := fun W => Lib.hid (encodedCell_any c.1 c.2.1 c.2.2 W hmem.1 hmem.2)
        clear hc0 hc1 htk hmem
        go_wp2_with fail
        refine (HE _).out.mono ?_
        rintro e w3 ⟨rfl, hb3⟩
        unfold Arr4
        have HO3 := Lib.hid ((HO.out.alloc (.cells #[.float .f32 c.1, .complex .f32 c.2.1 c.2.2] 61)).kept (grown_of hb3) (.inr (by intro e; cases e)))
        have hbw3 := below_trans (hb.alloc hb.size (.cells #[.float .f32 c.1, .complex .f32 c.2.1 c.2.2] 61)) hb3 (hb.alloc hb.size (.cells #[.float .f32 c.1, .complex .f32 c.2.1 c.2.2] 61)).size
        have hsw := hbw3.size
        have HLN := Lib.hid (show (enc (cs.take k)).length = 4 * k by rw [enc_len, List.length_take]; omega)
        clear HO hb3
        go_wp2_with (at_builtin; refine ownF_append rfl (.tmp 27) (.tmp 28) rfl w.heap.size _ (enc (cs.take k)) (enc4 c) rfl (HO3.out.alloc _) _ 0 4 rfl (arr4_cell c w3) (show 0 < 4 from Nat.zero_lt_succ 3) (Nat.le_trans (Nat.le_of_eq (congrArg (· + 4) HLN.out)) (by omega)) (by simp; omega) ?_; intro g6 cap6 w6 ho6 hg6 hor6 hlt6)
        have hb6 := snoc_below hbw3 HO3.out _ hg6
        rw [← enc_one c, ← enc_append, ← HTK.out] at ho6
        have HO6 := Lib.hid ho6
        clear ho6 hg6 hor6
        rw [HLN.out, enc_one, enc4_len] at HO6
        go_wp2
        go_roundw
        case rel => exact ⟨k + 1, g6, cap6, by omega, by go_num, by rw [HLN.out, enc4_len]; rfl, hb6, HO6.out⟩
        case measure => simp [intOf]; omega
      · have hkk : k = cs.length := by omega
        subst hkk
        have hall : enc (cs.take cs.length) = enc cs := by rw [List.take_length]
        have HN := Lib.hid (fnew_of HO.out hall (enc_len cs))
        clear hall
        go_wp2
        go_ret
        exact EncPost.mk HN.out hb
set_option maxHeartbeats 2000000 in
theorem encode_odd (v : Value) (cs : List C3) (w : World) (h : RowV w v cs) (hf : Fit cs) (hl : cs.length ≤ 1000000) :
    Calls Tryz.prog 116 #[v, .bool true] w fun e w' => EncPost (if rok cs = true then enc (cs.map cj) else []) w e w' := by
  have HCJ := Lib.hid (conjugateRow_any v cs w h hl)
  cases hrk : rok cs with
  | false =>
    rw [hrk] at HCJ
    simp only [Bool.false_eq_true, if_false] at HCJ ⊢
    clear hrk hf h
    go_enter Tryz.func116, Tryz.ntmps116
    go_wp2_with fail
    refine HCJ.out.mono ?_
    rintro e w0 ⟨v0, rfl, hv0, hb0⟩
    have HB0 := Lib.hid hb0
    have HRO := Lib.hid (rowOk_any v0 [] w0 hv0 (by simp))
    rw [show rok [] = false from rfl] at HRO
    clear hv0 hb0
    go_wp2_with fail
    refine HRO.out.mono ?_
    rintro e w1 ⟨rfl, hb1⟩
    go_wp2
    go_ret
    exact EncPost.mk (FNew.nil _ _) (below_trans HB0.out hb1 HB0.out.size)
  | true =>
    have hrd := rok_cj hf hrk
    have hfd : Fit (cs.map cj) := by
      intro c hc
      obtain ⟨d, hd, rfl⟩ := List.mem_map.1 hc
      exact ⟨(hf d hd).1, (hf d hd).2.1, Flt.neg_lt32 (hf d hd).2.2⟩
    rw [hrk] at HCJ
    simp only [if_true] at HCJ ⊢
    have hl : (cs.map cj).length ≤ 1000000 := by simpa using hl
    generalize cs.map cj = ds at *
    clear hrk hf h
    go_enter Tryz.func116, Tryz.ntmps116
    go_wp2_with fail
    refine HCJ.out.mono ?_
    rintro e w0 ⟨v0, rfl, hv0, hb0⟩
    have HB0 := Lib.hid hb0
    have HV := Lib.hid hv0
    have HRO := fun W hW => Lib.hid (rowOk_any v0 ds W hW hl)
    clear hv0 hb0
    obtain ⟨⟨hl1, hl64⟩, hfin⟩ := rok_iff.1 hrd
    have HOK := Lib.hid (fun (c : C3) (hc : c ∈ ds) => And.intro (hfd c hc) (show okc c.1 c.2.1 c.2.2 = true by obtain ⟨a, b, d⟩ := hfin c hc; unfold okc; rw [a, b, d]; rfl))
    obtain ⟨g, o, cap, rfl, hcap, hcell⟩ : ∃ g o cap, v0 = .slice (some ⟨g, o, none⟩) ds.length cap ∧ ds.length ≤ cap ∧ ∀ i (h : i < ds.length), w0.cell? ⟨g, o + i * 2, none⟩ = some (.float .f32 ds[i].1) ∧ w0.cell? ⟨g, o + i * 2 + 1, none⟩ = some (.complex .f32 ds[i].2.1 ds[i].2.2) := by
      rcases HV.out with ⟨_, h1⟩ | h1
      · exact absurd h1 (rok_ne hrd)
      · exact h1
    have HC := Lib.hid hcell
    have hmk := fun W => make_cap (4 * ds.length) (by omega) W
    simp only [Int.natCast_mul, Int.cast_ofNat_Int] at hmk
    have HOC := Lib.hid (fun W => own_cap W (4 * ds.length) (by omega))
    rw [hrd] at HRO
    clear hrd hfd hfin hcell
    go_wp2_with fail
    refine (HRO _ HV.out).out.mono ?_
    rintro e w1 ⟨rfl, hb1⟩
    have hbA := hb1.alloc hb1.size (.cells (madeCells #[.float .f32 0] (4 * ds.length)) 25)
    have HOA := Lib.hid (OwnF.mono (HOC.out w1) hb1.size)
    go_wp2
    clear hmk
    generalize w1.alloc (.cells (madeCells #[.float .f32 0] (4 * ds.length)) 25) = w2 at *
    have hs2 : w0.heap.size ≤ w2.heap.size := hbA.size
    go_loopw [5, 21] (fun out i wr => ∃ (k g1 cap1 : Nat), k ≤ ds.length ∧ i = .int .i64 (k : Int) ∧ out = .slice (some ⟨g1, 0, none⟩) (4 * k) cap1 ∧ Below w0.heap.size w0 wr ∧ OwnF wr w0.heap.size (.slice (some ⟨g1, 0, none⟩) (4 * k) cap1) (enc (ds.take k))) (fun _ i => fun _ => ds.length - (intOf i).toNat)
    case atStart => exact ⟨0, _, _, Nat.zero_le _, rfl, rfl, hbA, HOA.out⟩
    case round =>
      obtain ⟨k, g1, cap1, hk, rfl, rfl, hb, hown⟩ := hrel
      have HO := Lib.hid hown
      clear hown HOA
      by_cases hlt : k < ds.length
      · obtain ⟨hc0, hc1⟩ := HC.out k hlt
        have m0 := (grown_of hb).cell hc0 (by simp)
        have m1 := (grown_of hb).cell hc1 (by simp)
        have hmem := HOK.out ds[k] (List.getElem_mem hlt)
        have htk := take_snoc ds k hlt
        generalize ds[k] = c at *
        have HTK := Lib.hid htk
        have HE := fun W => Lib.hid (encodedCell_any c.1 c.2.1 c.2.2 W hmem.1 hmem.2)
        clear hc0 hc1 htk hmem
        go_wp2_with fail
        refine (HE _).out.mono ?_
        rintro e w3 ⟨rfl, hb3⟩
        unfold Arr4
        have HO3 := Lib.hid ((HO.out.alloc (.cells #[.float .f32 c.1, .complex .f32 c.2.1 c.2.2] 61)).kept (grown_of hb3) (.inr (by intro e; cases e)))
        have hbw3 := below_trans (hb.alloc hb.size (.cells #[.float .f32 c.1, .complex .f32 c.2.1 c.2.2] 61)) hb3 (hb.alloc hb.size (.cells #[.float .f32 c.1, .complex .f32 c.2.1 c.2.2] 61)).size
        have hsw := hbw3.size
        have HLN := Lib.hid (show (enc (ds.take k)).length = 4 * k by rw [enc_len, List.length_take]; omega)
        clear HO hb3
        go_wp2_with (at_builtin; refine ownF_append rfl (.tmp 27) (.tmp 28) rfl w0.heap.size _ (enc (ds.take k)) (enc4 c) rfl (HO3.out.alloc _) _ 0 4 rfl (arr4_cell c w3) (show 0 < 4 from Nat.zero_lt_succ 3) (Nat.le_trans (Nat.le_of_eq (congrArg (· + 4) HLN.out)) (by omega)) (by simp; omega) ?_; intro g6 cap6 w6 ho6 hg6 hor6 hlt6)
        have hb6 := snoc_below hbw3 HO3.out _ hg6
        rw [← enc_one c, ← enc_append, ← HTK.out] at ho6
        have HO6 := Lib.hid ho6
        clear ho6 hg6 hor6
        rw [HLN.out, enc_one, enc4_len] at HO6
        go_wp2
        go_roundw
        case rel => exact ⟨k + 1, g6, cap6, by omega, by go_num, by rw [HLN.out, enc4_len]; rfl, hb6, HO6.out⟩
        case measure => simp [intOf]; omega
      · have hkk : k = ds.length := by omega
        subst hkk
        have hall : enc (ds.take ds.length) = enc ds := by rw [List.take_length]
        have HN := Lib.hid (fnew_of HO.out hall (enc_len ds))
        clear hall
        go_wp2
        go_ret
        exact EncPost.mk (HN.out.mono HB0.out.size) (below_trans HB0.out hb HB0.out.size)
end Go.Proofs.YtobpnoiienpipaaGreat

/-
  What is proved: the walk of MakeLine.
  Conditions: the row can be read.
-/
namespace Go.Proofs.YtobpnoiienpipaaGreat
set_option linter.unusedVariables false
open Go.RowKit
attribute [local go_sem] run_store_float run_store_complex unary_negf neg256

/-- Block g holds these cells. -/
def Mem (w : World) (g : Nat) (L : List Value) : Prop := w.heap[g]? = some (.cells L.toArray 25 (0, 0))
def fl (xs : List Nat) : List Value := xs.map (.float .f32)
theorem fl_len (xs : List Nat) : (fl xs).length = xs.length := by simp [fl]
theorem grown_setRow (w : World) (g : Nat) (cs : Array Value) : w.grownBy (w.setRow g cs) (some g) := ⟨rfl, rfl, rfl, by simp [World.setRow], fun k hk hne => setRow_other w g k cs (fun e => hne (by rw [e]))⟩
theorem grown_any {w w' : World} (row : Option Nat) (hb : Below w.heap.size w w') : w.grownBy w' row := ⟨hb.os, hb.tape, hb.output, hb.size, fun k hk _ => hb.block k hk⟩
theorem copy_mem {w : World} {g : Nat} {L : List Value} (h : Mem w g L) (off m dcap g' o' c : Nat) (ys : List Nat) (hy : FRow w (.slice (some ⟨g', o', none⟩) m c) ys) (hm : ys.length = m) (hf : off + m ≤ L.length) :
    ∃ w', (Builtin.copy_ #[31, 31] 3 #[.slice (some ⟨g, off, none⟩) m dcap, .slice (some ⟨g', o', none⟩) m c]).run Tryz.prog w = .ok (.int .i64 (m : Int)) w' ∧ Mem w' g (splice L off (fl ys)) ∧ w.grownBy w' (some g) := by
  have hc := hy.cells
  have hrun := run_copy_row (P := Tryz.prog) w 31 31 3 25 g off m dcap ⟨g', o', none⟩ m c L.toArray 25 (fl ys) Tryz.underlying31 f32_size h (by rw [fl_len, hm]; exact (Nat.min_self m).symm)
    (fun j v hj => by
      have hadd : (⟨g', o', none⟩ : Addr).add j = ⟨g', o' + j, none⟩ := by unfold Addr.add; split <;> simp_all
      have hl : j < ys.length := by have := (List.getElem?_eq_some_iff.1 hj).1; rwa [fl_len] at this
      rw [hadd, hc j hl]
      rw [fl, List.getElem?_map, List.getElem?_eq_getElem hl] at hj
      exact hj)
    (by rw [fl_len, hm]; simpa using hf) (fun v hv => by obtain ⟨x, _, rfl⟩ := List.mem_map.1 hv; rfl)
  refine ⟨_, by rw [fl_len, hm] at hrun; exact hrun, ?_, grown_setRow w g _⟩
  unfold Mem
  rw [setRow_heap w g _ _ 25 _ h]
  simp [splice, fl_len, hm]
theorem Mem.kept {w w' : World} {g : Nat} {L : List Value} (h : Mem w g L) (hb : w'.heap[g]? = w.heap[g]?) : Mem w' g L := hb.trans h
theorem Mem.lt {w : World} {g : Nat} {L : List Value} (h : Mem w g L) : g < w.heap.size := (Array.getElem?_eq_some_iff.1 h).1
theorem Mem.below {w w' : World} {g : Nat} {L : List Value} (h : Mem w g L) (hb : Below w.heap.size w w') : Mem w' g L := h.kept ((grown_of hb).block g (Array.getElem?_eq_some_iff.1 h).1 (by simp))
theorem lit_cell2 (z : Nat) (w : World) (o : Obj) : ((w.alloc o).alloc (.cells #[.float .f32 z] 25)).cell? ⟨w.heap.size + 1, 0, none⟩ = some (.float .f32 z) := by
  have h := lit_cell z (w.alloc o)
  rwa [show (w.alloc o).heap.size = w.heap.size + 1 by simp] at h
theorem litC0 (W : World) (y u v : Nat) : (W.alloc (.cells #[.float .f32 y, .complex .f32 u v] 61)).cell? ⟨W.heap.size, 0, none⟩ = some (.float .f32 y) :=
  (cell_of_row _ _ 0 _ _ _ (heap_alloc_new W _)).trans rfl
theorem litC1 (W : World) (y u v : Nat) : (W.alloc (.cells #[.float .f32 y, .complex .f32 u v] 61)).cell? ⟨W.heap.size, 1, none⟩ = some (.complex .f32 u v) :=
  (cell_of_row _ _ 1 _ _ _ (heap_alloc_new W _)).trans rfl
theorem litA0 (W : World) (x y : Value) (o : Obj) (t : TypeId) : ((W.alloc (.cells #[x, y] t)).alloc o).cell? ⟨W.heap.size, 0, none⟩ = some x :=
  (cell_of_row _ _ 0 _ _ _ ((Below.heap_alloc _ _ _ (by simp)).trans (heap_alloc_new W _))).trans rfl
theorem litA1 (W : World) (x y : Value) (o : Obj) (t : TypeId) : ((W.alloc (.cells #[x, y] t)).alloc o).cell? ⟨W.heap.size, 1, none⟩ = some y :=
  (cell_of_row _ _ 1 _ _ _ ((Below.heap_alloc _ _ _ (by simp)).trans (heap_alloc_new W _))).trans rfl
/-- What a walk that writes into a line leaves. -/
def PutM (g : Nat) (L' : List Value) (w : World) (e : Ending) (w' : World) : Prop := (∃ v, e = .returned v) ∧ Mem w' g L' ∧ w.grownBy w' (some g)
set_option maxHeartbeats 1000000 in
set_option maxRecDepth 100000 in
theorem putPulse_any (g N : Nat) (odd : Bool) (L : List Value) (w : World) (hm : Mem w g L) (hl : L.length = N) (hN : 28 ≤ N) (hN2 : N ≤ 1000) :
    Calls Tryz.prog 87 #[.agg #[.slice (some ⟨g, 0, none⟩) N N, .bool odd]] w fun e w' => PutM g (splice L 0 (fl (List.replicate 8 3263168512))) w e w' := by
  have HP := fun W => Lib.hid (pulse_any g 0 N N W (by omega) (Nat.le_refl _) (by omega))
  have HM := Lib.hid hm
  have HL := Lib.hid hl
  clear hm hl
  go_enter Tryz.func87, Tryz.ntmps87
  go_wp2_with fail
  refine (HP _).out.mono ?_
  rintro e w1 ⟨rfl, rfl⟩
  go_wp2_with fail
  refine (repeat8_any 3263168512 _ _ (lit_cell2 3263168512 _ _)).mono ?_
  rintro e w2 ⟨g2, rfl, hr2, hb2⟩
  have hbw : Below w.heap.size w w2 := below_trans (((Below.refl _ _).alloc (Nat.le_refl _) _).alloc (by simp) _) hb2 (by simp; omega)
  obtain ⟨w3, hrun, hm3, hb3⟩ := copy_mem (HM.out.below hbw) 0 8 8 g2 0 8 _ hr2 (by simp) (by have := HL.out; omega)
  have HM3 := Lib.hid hm3
  have HB3 := Lib.hid ((grown_any (some g) hbw).trans hb3)
  clear hr2 hb2 hm3 hb3
  go_wp2
  go_end0
  exact ⟨⟨_, rfl⟩, HM3.out, HB3.out⟩
def oddRow (cs : List C3) (odd : Bool) : List C3 := if odd = true then cs.map cj else cs
theorem oddRow_len (cs : List C3) (odd : Bool) : (oddRow cs odd).length = cs.length := by unfold oddRow; split <;> simp
theorem encode_both (v : Value) (cs : List C3) (odd : Bool) (w : World) (h : RowV w v cs) (hf : Fit cs) (hl : cs.length ≤ 1000000) (hr : rok cs = true) :
    Calls Tryz.prog 116 #[v, .bool odd] w fun e w' => EncPost (enc (oddRow cs odd)) w e w' := by
  cases odd with
  | false =>
    have := encode_even v cs w h hf hl
    rw [hr] at this
    exact this
  | true =>
    have := encode_odd v cs w h hf hl
    rw [hr] at this
    exact this
theorem bcells_fit : Fit (bcells 4) := by
  intro c hc
  obtain ⟨_, rfl⟩ := List.mem_replicate.1 hc
  exact ⟨by decide, by decide, by decide⟩
theorem FNew.row4 {w : World} {base : Nat} {v : Value} {xs : List Nat} (h : FNew w base v xs) (h0 : 0 < xs.length) : ∃ g c, v = .slice (some ⟨g, 0, none⟩) xs.length c := by
  rcases h with ⟨_, e⟩ | ⟨g, c, e, _⟩
  · subst e; simp at h0
  · exact ⟨g, c, e⟩
set_option maxHeartbeats 1000000 in
set_option maxRecDepth 100000 in
theorem putBurst_any (g N : Nat) (odd : Bool) (L : List Value) (w : World) (hm : Mem w g L) (hl : L.length = N) (hN : 28 ≤ N) (hN2 : N ≤ 1000) :
    Calls Tryz.prog 88 #[.agg #[.slice (some ⟨g, 0, none⟩) N N, .bool odd]] w fun e w' => PutM g (splice L 8 (fl (enc (oddRow (bcells 4) odd)))) w e w' := by
  have HP := fun W => Lib.hid (burst_any g 0 N N W (by omega) (Nat.le_refl _) (by omega))
  have HE := fun v W h => Lib.hid (encode_both v (bcells 4) odd W h bcells_fit (by simp [bcells]) bcells_ok)
  have HEL := Lib.hid (show (enc (oddRow (bcells 4) odd)).length = 16 by rw [enc_len, oddRow_len, bcells_len])
  have HM := Lib.hid hm
  have HL := Lib.hid hl
  clear hm hl
  generalize enc (oddRow (bcells 4) odd) = ys at *
  have c0 := litA0 w (.slice (some ⟨g, 0, none⟩) N N) (.bool odd) (.cells #[.float .f32 0, .complex .f32 3246391296 1098907648] 61) 127
  have c1 := litA1 w (.slice (some ⟨g, 0, none⟩) N N) (.bool odd) (.cells #[.float .f32 0, .complex .f32 3246391296 1098907648] 61) 127
  have d0 := litC0 (w.alloc (.cells #[.slice (some ⟨g, 0, none⟩) N N, .bool odd] 127)) 0 3246391296 1098907648
  have d1 := litC1 (w.alloc (.cells #[.slice (some ⟨g, 0, none⟩) N N, .bool odd] 127)) 0 3246391296 1098907648
  rw [show (w.alloc (.cells #[.slice (some ⟨g, 0, none⟩) N N, .bool odd] 127)).heap.size = w.heap.size + 1 by simp] at d0 d1
  have hb0 : Below w.heap.size w ((w.alloc (.cells #[.slice (some ⟨g, 0, none⟩) N N, .bool odd] 127)).alloc (.cells #[.float .f32 0, .complex .f32 3246391296 1098907648] 61)) := ((Below.refl _ _).alloc (Nat.le_refl _) _).alloc (by simp) _
  have HC0 := fun (W : World) (h : W.cell? ⟨w.heap.size, 0, none⟩ = some (.slice (some ⟨g, 0, none⟩) N N)) => Lib.hid (show (W.alloc (.cells #[.float .f32 0, .complex .f32 3246391296 1098907648] 61)).cell? ⟨w.heap.size, 0, none⟩ = some (.slice (some ⟨g, 0, none⟩) N N) from (grown_of ((Below.refl W.heap.size W).alloc (Nat.le_refl _) _)).cell h (by simp))
  have HC1 := fun (W : World) (h : W.cell? ⟨w.heap.size, 1, none⟩ = some (.bool odd)) => Lib.hid (show (W.alloc (.cells #[.float .f32 0, .complex .f32 3246391296 1098907648] 61)).cell? ⟨w.heap.size, 1, none⟩ = some (.bool odd) from (grown_of ((Below.refl W.heap.size W).alloc (Nat.le_refl _) _)).cell h (by simp))
  have HLC := fun (W : World) => Lib.hid (And.intro (litC0 W 0 3246391296 1098907648) (litC1 W 0 3246391296 1098907648))
  go_enter Tryz.func88, Tryz.ntmps88
  go_wp2_with fail
  generalize (w.alloc (.cells #[.slice (some ⟨g, 0, none⟩) N N, .bool odd] 127)).alloc (.cells #[.float .f32 0, .complex .f32 3246391296 1098907648] 61) = W0 at *
  have e0 := (HC1 W0 c1).out
  have e00 := (HC0 W0 c0).out
  go_region_law (first
    | ((try go_simp); go_at_call 115; refine (HP _).out.mono ?_; rintro e w1 ⟨rfl, rfl⟩)
    | ((try go_simp); go_at_call 117; refine (repeat4_any 0 3246391296 1098907648 W0.heap.size (W0.alloc (.cells #[.float .f32 0, .complex .f32 3246391296 1098907648] 61)).drew (HLC W0).out.1 (HLC W0).out.2).mono ?_; rintro e w2 ⟨g2, rfl, hr2, hb2⟩; have e1 := (grown_of hb2).cell (HC1 W0 c1).out (by simp))
    | ((try go_simp); go_at_call 116; refine (HE _ _ hr2).out.mono ?_; rintro e w3 ⟨v3, rfl, hn3, hb3⟩
       obtain ⟨g3, c3, hv3⟩ := hn3.row4 (by have := HEL.out; omega)
       rw [HEL.out] at hv3
       subst hv3
       have hbA : Below w.heap.size w (W0.alloc (.cells #[.float .f32 0, .complex .f32 3246391296 1098907648] 61)).drew := belowDN (hb0.alloc hb0.size _) 1
       have hbB := below_trans hbA hb2 hbA.size
       have hbw := below_trans hbB hb3 hbB.size
       obtain ⟨w4, hrun, hm4, hb4⟩ := copy_mem (HM.out.below hbw) 8 16 16 g3 0 c3 ys hn3.row HEL.out (by have := HL.out; omega)
       have HM4 := Lib.hid hm4
       have HB4 := Lib.hid ((grown_any (some g) hbw).trans hb4)
       clear hm4 hb4 hn3 hr2))
  all_goals
    go_end0
    exact ⟨⟨_, rfl⟩, HM4.out, HB4.out⟩
end Go.Proofs.YtobpnoiienpipaaGreat
