/-
  What is proved: the walk of the program's EncodeCells.
  Conditions: the row can be read; its bits fit.
-/
import Derived.Test.YtgecclccmmcdoaaEnc
import Derived.Test.YtgecclccmmcdoaaDrawF32
import Derived.Test.YtgecclccmmcdoaaDelay
import Derived.Deep.RegionHeld3
namespace Go.Proofs.Ytgecclccmmcdoaa
set_option linter.unusedVariables false
open Go.RowKit
attribute [local go_sem] run_store_float run_store_complex unary_negf neg256

theorem make_cap (n : Nat) (hn : n ≤ 1000000000) (W : World) : (Instr.makeSlice 32 (.int .i64 0) (.int .i64 (n : Int))).run Try.prog W = .ok (.slice (some ⟨W.heap.size, 0, none⟩) 0 n) (W.alloc (.cells (madeCells #[.float .f32 0] n) 26)) := by
  obtain ⟨i0, hi, hz0, hz1, hz2⟩ := info_parts info_f32
  have h := run_make (P := Try.prog) W 32 26 i0 _ Try.underlying32 hi hz0 .i64 .i64 0 n (by omega) (by omega) (by rw [hz2]; omega) (by omega)
  rw [hz1] at h
  simpa [Value.cells] using h
theorem own_cap (w : World) (n : Nat) (hn : n ≤ 1000000000) : OwnF (w.alloc (.cells (madeCells #[.float .f32 0] n) 26)) w.heap.size (.slice (some ⟨w.heap.size, 0, none⟩) 0 n) [] :=
  World.ownsRow_made w _ n (Nat.le_refl _) (by unfold maxLen; omega) (by rw [size_madeCells, Nat.mul_one])
def EncPost (ys : List Nat) (w : World) (e : Ending) (w' : World) : Prop := ∃ v', e = .returned v' ∧ FNew w' w.heap.size v' ys ∧ Below w.heap.size w w'
theorem EncPost.mk {ys : List Nat} {w w' : World} {v' : Value} (h : FNew w' w.heap.size v' ys) (hb : Below w.heap.size w w') : EncPost ys w (.returned v') w' := ⟨v', rfl, h, hb⟩
theorem arr4_cell (c : C3) (W : World) : ∀ i (h : i < (enc4 c).length), (W.alloc (.cells #[.float .f32 (addv c.1 c.2.1), .float .f32 (addv c.1 (Op.negFloat .f32 c.2.2)), .float .f32 (addv c.1 (Op.negFloat .f32 c.2.1)), .float .f32 (addv c.1 c.2.2)] 133)).cell? ⟨W.heap.size, 0 + i, none⟩ = some (.float .f32 (enc4 c)[i]) := by
  intro i hi
  have hi4 : i = 0 ∨ i = 1 ∨ i = 2 ∨ i = 3 := by have : i < 4 := hi; omega
  have hn := heap_alloc_new W (.cells #[.float .f32 (addv c.1 c.2.1), .float .f32 (addv c.1 (Op.negFloat .f32 c.2.2)), .float .f32 (addv c.1 (Op.negFloat .f32 c.2.1)), .float .f32 (addv c.1 c.2.2)] 133)
  rcases hi4 with rfl | rfl | rfl | rfl <;> exact (cell_of_row _ _ _ _ _ _ hn).trans rfl
set_option maxHeartbeats 2000000 in
theorem encode_even (v : Value) (cs : List C3) (w : World) (h : RowV w v cs) (hf : Fit cs) (hl : cs.length ≤ 1000000) :
    Calls Try.prog 99 #[v, .bool false] w fun e w' => EncPost (if rok cs = true then enc cs else []) w e w' := by
  have HV := Lib.hid h
  have HRO := fun W hW => Lib.hid (rowOk_any v cs W hW hl)
  clear h
  cases hrk : rok cs with
  | false =>
    rw [hrk] at HRO
    clear hrk hf
    go_enter Try.func99, Try.ntmps99
    go_wp2_with fail
    refine (HRO _ HV.out).out.mono ?_
    rintro e w1 ⟨rfl, hb1⟩
    go_wp2
    go_ret
    exact EncPost.mk (by simpa using FNew.nil _ _) hb1
  | true =>
    obtain ⟨⟨hl1, hl64⟩, hfin⟩ := rok_iff.1 hrk
    have HOK := Lib.hid (fun (c : C3) (hc : c ∈ cs) => And.intro (hf c hc) (show okc c.1 c.2.1 c.2.2 = true by obtain ⟨a, b, d⟩ := hfin c hc; unfold okc; rw [a, b, d]; rfl))
    obtain ⟨g, o, cap, rfl, hcap, hcell⟩ : ∃ g o cap, v = .slice (some ⟨g, o, none⟩) cs.length cap ∧ cs.length ≤ cap ∧ ∀ i (h : i < cs.length), w.cell? ⟨g, o + i * 2, none⟩ = some (.float .f32 cs[i].1) ∧ w.cell? ⟨g, o + i * 2 + 1, none⟩ = some (.complex .f32 cs[i].2.1 cs[i].2.2) := by
      rcases HV.out with ⟨_, h1⟩ | h1
      · exact absurd h1 (rok_ne hrk)
      · exact h1
    have HC := Lib.hid hcell
    have hmk := fun W => make_cap (4 * cs.length) (by omega) W
    simp only [Int.natCast_mul, Int.cast_ofNat_Int] at hmk
    have HOC := Lib.hid (fun W => own_cap W (4 * cs.length) (by omega))
    rw [hrk] at HRO
    simp only [if_true]
    clear hrk hf hfin hcell
    go_enter Try.func99, Try.ntmps99
    go_wp2_with fail
    refine (HRO _ HV.out).out.mono ?_
    rintro e w1 ⟨rfl, hb1⟩
    have hbA := hb1.alloc hb1.size (.cells (madeCells #[.float .f32 0] (4 * cs.length)) 26)
    have HOA := Lib.hid (OwnF.mono (HOC.out w1) hb1.size)
    go_wp2
    clear hmk
    generalize w1.alloc (.cells (madeCells #[.float .f32 0] (4 * cs.length)) 26) = w2 at *
    have hs2 : w.heap.size ≤ w2.heap.size := hbA.size
    go_loopw [5, 21] (fun out i wr => ∃ (k g1 cap1 : Nat), k ≤ cs.length ∧ i = .int .i64 (k : Int) ∧ out = .slice (some ⟨g1, 0, none⟩) (4 * k) cap1 ∧ Below w.heap.size w wr ∧ OwnF wr w.heap.size (.slice (some ⟨g1, 0, none⟩) (4 * k) cap1) (enc (cs.take k))) (fun _ i => fun _ => cs.length - (intOf i).toNat)
    case atStart => exact ⟨0, _, _, Nat.zero_le _, rfl, rfl, hbA, HOA.out⟩
    case round =>
      obtain ⟨k, g1, cap1, hk, rfl, rfl, hb, hown⟩ := hrel
      have HO := Lib.hid hown
      clear hown HOA
      by_cases hlt : k < cs.length
      · obtain ⟨hc0, hc1⟩ := HC.out k hlt
        have m0 := (grown_of hb).cell hc0 (by simp)
        have m1 := (grown_of hb).cell hc1 (by simp)
        have hmem := HOK.out cs[k] (List.getElem_mem hlt)
        have htk := take_snoc cs k hlt
        generalize cs[k] = c at *
        have HTK := Lib.hid htk
        have HE := fun W => Lib.hid (encodedCell_any c.1 c.2.1 c.2.2 W hmem.1 hmem.2)
        clear hc0 hc1 htk hmem
        go_wp2_with fail
        refine (HE _).out.mono ?_
        rintro e w3 ⟨rfl, hb3⟩
        unfold Arr4
        have HO3 := Lib.hid ((HO.out.alloc (.cells #[.float .f32 c.1, .complex .f32 c.2.1 c.2.2] 40)).kept (grown_of hb3) (.inr (by intro e; cases e)))
        have hbw3 := below_trans (hb.alloc hb.size (.cells #[.float .f32 c.1, .complex .f32 c.2.1 c.2.2] 40)) hb3 (hb.alloc hb.size (.cells #[.float .f32 c.1, .complex .f32 c.2.1 c.2.2] 40)).size
        have hsw := hbw3.size
        have HLN := Lib.hid (show (enc (cs.take k)).length = 4 * k by rw [enc_len, List.length_take]; omega)
        clear HO hb3
        go_wp2_with (at_builtin; refine ownF_append rfl (.tmp 27) (.tmp 28) rfl w.heap.size _ (enc (cs.take k)) (enc4 c) rfl (HO3.out.alloc _) _ 0 4 rfl (arr4_cell c w3) (show 0 < 4 from Nat.zero_lt_succ 3) (Nat.le_trans (Nat.le_of_eq (congrArg (· + 4) HLN.out)) (by omega)) (by simp; omega) ?_; intro g6 cap6 w6 ho6 hg6 hor6 hlt6)
        have hb6 := snoc_below hbw3 HO3.out _ hg6
        rw [← enc_one c, ← enc_append, ← HTK.out] at ho6
        have HO6 := Lib.hid ho6
        clear ho6 hg6 hor6
        rw [HLN.out, enc_one, enc4_len] at HO6
        go_wp2
        go_roundw
        case rel => exact ⟨k + 1, g6, cap6, by omega, by go_num, by rw [HLN.out, enc4_len]; rfl, hb6, HO6.out⟩
        case measure => simp [intOf]; omega
      · have hkk : k = cs.length := by omega
        subst hkk
        have hall : enc (cs.take cs.length) = enc cs := by rw [List.take_length]
        have HN := Lib.hid (fnew_of HO.out hall (enc_len cs))
        clear hall
        go_wp2
        go_ret
        exact EncPost.mk HN.out hb
set_option maxHeartbeats 2000000 in
theorem encode_odd (v : Value) (cs : List C3) (w : World) (h : RowV w v cs) (hf : Fit cs) (hl : cs.length ≤ 1000000) :
    Calls Try.prog 99 #[v, .bool true] w fun e w' => EncPost (if rok cs = true then enc (cs.map cj) else []) w e w' := by
  have HCJ := Lib.hid (conjugateRow_any v cs w h hl)
  cases hrk : rok cs with
  | false =>
    rw [hrk] at HCJ
    simp only [Bool.false_eq_true, if_false] at HCJ ⊢
    clear hrk hf h
    go_enter Try.func99, Try.ntmps99
    go_wp2_with fail
    refine HCJ.out.mono ?_
    rintro e w0 ⟨v0, rfl, hv0, hb0⟩
    have HB0 := Lib.hid hb0
    have HRO := Lib.hid (rowOk_any v0 [] w0 hv0 (by simp))
    rw [show rok [] = false from rfl] at HRO
    clear hv0 hb0
    go_wp2_with fail
    refine HRO.out.mono ?_
    rintro e w1 ⟨rfl, hb1⟩
    go_wp2
    go_ret
    exact EncPost.mk (FNew.nil _ _) (below_trans HB0.out hb1 HB0.out.size)
  | true =>
    have hrd := rok_cj hf hrk
    have hfd : Fit (cs.map cj) := by
      intro c hc
      obtain ⟨d, hd, rfl⟩ := List.mem_map.1 hc
      exact ⟨(hf d hd).1, (hf d hd).2.1, Flt.neg_lt32 (hf d hd).2.2⟩
    rw [hrk] at HCJ
    simp only [if_true] at HCJ ⊢
    have hl : (cs.map cj).length ≤ 1000000 := by simpa using hl
    generalize cs.map cj = ds at *
    clear hrk hf h
    go_enter Try.func99, Try.ntmps99
    go_wp2_with fail
    refine HCJ.out.mono ?_
    rintro e w0 ⟨v0, rfl, hv0, hb0⟩
    have HB0 := Lib.hid hb0
    have HV := Lib.hid hv0
    have HRO := fun W hW => Lib.hid (rowOk_any v0 ds W hW hl)
    clear hv0 hb0
    obtain ⟨⟨hl1, hl64⟩, hfin⟩ := rok_iff.1 hrd
    have HOK := Lib.hid (fun (c : C3) (hc : c ∈ ds) => And.intro (hfd c hc) (show okc c.1 c.2.1 c.2.2 = true by obtain ⟨a, b, d⟩ := hfin c hc; unfold okc; rw [a, b, d]; rfl))
    obtain ⟨g, o, cap, rfl, hcap, hcell⟩ : ∃ g o cap, v0 = .slice (some ⟨g, o, none⟩) ds.length cap ∧ ds.length ≤ cap ∧ ∀ i (h : i < ds.length), w0.cell? ⟨g, o + i * 2, none⟩ = some (.float .f32 ds[i].1) ∧ w0.cell? ⟨g, o + i * 2 + 1, none⟩ = some (.complex .f32 ds[i].2.1 ds[i].2.2) := by
      rcases HV.out with ⟨_, h1⟩ | h1
      · exact absurd h1 (rok_ne hrd)
      · exact h1
    have HC := Lib.hid hcell
    have hmk := fun W => make_cap (4 * ds.length) (by omega) W
    simp only [Int.natCast_mul, Int.cast_ofNat_Int] at hmk
    have HOC := Lib.hid (fun W => own_cap W (4 * ds.length) (by omega))
    rw [hrd] at HRO
    clear hrd hfd hfin hcell
    go_wp2_with fail
    refine (HRO _ HV.out).out.mono ?_
    rintro e w1 ⟨rfl, hb1⟩
    have hbA := hb1.alloc hb1.size (.cells (madeCells #[.float .f32 0] (4 * ds.length)) 26)
    have HOA := Lib.hid (OwnF.mono (HOC.out w1) hb1.size)
    go_wp2
    clear hmk
    generalize w1.alloc (.cells (madeCells #[.float .f32 0] (4 * ds.length)) 26) = w2 at *
    have hs2 : w0.heap.size ≤ w2.heap.size := hbA.size
    go_loopw [5, 21] (fun out i wr => ∃ (k g1 cap1 : Nat), k ≤ ds.length ∧ i = .int .i64 (k : Int) ∧ out = .slice (some ⟨g1, 0, none⟩) (4 * k) cap1 ∧ Below w0.heap.size w0 wr ∧ OwnF wr w0.heap.size (.slice (some ⟨g1, 0, none⟩) (4 * k) cap1) (enc (ds.take k))) (fun _ i => fun _ => ds.length - (intOf i).toNat)
    case atStart => exact ⟨0, _, _, Nat.zero_le _, rfl, rfl, hbA, HOA.out⟩
    case round =>
      obtain ⟨k, g1, cap1, hk, rfl, rfl, hb, hown⟩ := hrel
      have HO := Lib.hid hown
      clear hown HOA
      by_cases hlt : k < ds.length
      · obtain ⟨hc0, hc1⟩ := HC.out k hlt
        have m0 := (grown_of hb).cell hc0 (by simp)
        have m1 := (grown_of hb).cell hc1 (by simp)
        have hmem := HOK.out ds[k] (List.getElem_mem hlt)
        have htk := take_snoc ds k hlt
        generalize ds[k] = c at *
        have HTK := Lib.hid htk
        have HE := fun W => Lib.hid (encodedCell_any c.1 c.2.1 c.2.2 W hmem.1 hmem.2)
        clear hc0 hc1 htk hmem
        go_wp2_with fail
        refine (HE _).out.mono ?_
        rintro e w3 ⟨rfl, hb3⟩
        unfold Arr4
        have HO3 := Lib.hid ((HO.out.alloc (.cells #[.float .f32 c.1, .complex .f32 c.2.1 c.2.2] 40)).kept (grown_of hb3) (.inr (by intro e; cases e)))
        have hbw3 := below_trans (hb.alloc hb.size (.cells #[.float .f32 c.1, .complex .f32 c.2.1 c.2.2] 40)) hb3 (hb.alloc hb.size (.cells #[.float .f32 c.1, .complex .f32 c.2.1 c.2.2] 40)).size
        have hsw := hbw3.size
        have HLN := Lib.hid (show (enc (ds.take k)).length = 4 * k by rw [enc_len, List.length_take]; omega)
        clear HO hb3
        go_wp2_with (at_builtin; refine ownF_append rfl (.tmp 27) (.tmp 28) rfl w0.heap.size _ (enc (ds.take k)) (enc4 c) rfl (HO3.out.alloc _) _ 0 4 rfl (arr4_cell c w3) (show 0 < 4 from Nat.zero_lt_succ 3) (Nat.le_trans (Nat.le_of_eq (congrArg (· + 4) HLN.out)) (by omega)) (by simp; omega) ?_; intro g6 cap6 w6 ho6 hg6 hor6 hlt6)
        have hb6 := snoc_below hbw3 HO3.out _ hg6
        rw [← enc_one c, ← enc_append, ← HTK.out] at ho6
        have HO6 := Lib.hid ho6
        clear ho6 hg6 hor6
        rw [HLN.out, enc_one, enc4_len] at HO6
        go_wp2
        go_roundw
        case rel => exact ⟨k + 1, g6, cap6, by omega, by go_num, by rw [HLN.out, enc4_len]; rfl, hb6, HO6.out⟩
        case measure => simp [intOf]; omega
      · have hkk : k = ds.length := by omega
        subst hkk
        have hall : enc (ds.take ds.length) = enc ds := by rw [List.take_length]
        have HN := Lib.hid (fnew_of HO.out hall (enc_len ds))
        clear hall
        go_wp2
        go_ret
        exact EncPost.mk (HN.out.mono HB0.out.size) (below_trans HB0.out hb HB0.out.size)
end Go.Proofs.Ytgecclccmmcdoaa
