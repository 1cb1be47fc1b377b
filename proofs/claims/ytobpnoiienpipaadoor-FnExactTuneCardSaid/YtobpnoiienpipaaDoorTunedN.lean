/-
  What is proved: the walk of tuned where the line has no command's name.
  Conditions: the log can be read; its texts and the line have at most 1048576 bytes each; the library's table of spaces holds what its initialiser lays.
-/
import Derived.Test.YtobpnoiienpipaaDoorTuned
namespace Go.Proofs.YtobpnoiienpipaaDoor
set_option linter.unusedVariables false
open Go.RowKit
attribute [local go_sem] run_store_float run_store_complex unary_negf neg256

theorem ba_beq (n l : List UInt8) : ((⟨n.toArray⟩ : ByteArray) == ⟨l.toArray⟩) = decide (n = l) := by
  have h : ((⟨n.toArray⟩ : ByteArray) == ⟨l.toArray⟩) = (n.toArray == l.toArray) := rfl
  rw [h]
  by_cases e : n = l
  · subst e; simp
  · rw [decide_eq_false e]
    simpa using e
theorem find_none {n : List UInt8} (h : ¬ keyIx n < 4) : Instr.findNow .string (.string ⟨n.toArray⟩) cmdMap.toList 0 = some none := by
  unfold keyIx at h
  by_cases h0 : n = [115, 108, 105, 99, 101]
  · rw [if_pos h0] at h; exact absurd (by decide) h
  by_cases h1 : n = [107, 105, 108, 108, 101, 114]
  · rw [if_neg h0, if_pos h1] at h; exact absurd (by decide) h
  by_cases h2 : n = [115, 97, 116, 117, 114, 97, 116, 105, 111, 110]
  · rw [if_neg h0, if_neg h1, if_pos h2] at h; exact absurd (by decide) h
  by_cases h3 : n = [115, 105, 122, 101]
  · rw [if_neg h0, if_neg h1, if_neg h2, if_pos h3] at h; exact absurd (by decide) h
  have e0 := ba_beq n [115, 108, 105, 99, 101]
  have e1 := ba_beq n [107, 105, 108, 108, 101, 114]
  have e2 := ba_beq n [115, 97, 116, 117, 114, 97, 116, 105, 111, 110]
  have e3 := ba_beq n [115, 105, 122, 101]
  rw [decide_eq_false h0] at e0
  rw [decide_eq_false h1] at e1
  rw [decide_eq_false h2] at e2
  rw [decide_eq_false h3] at e3
  simp [Instr.findNow, Instr.sameNow, cmdMap, ent, e0, e1, e2, e3]
set_option maxRecDepth 100000 in
set_option maxHeartbeats 4000000 in
theorem tuned_none (x : SetC) (v : Value) (ls : List (List UInt8)) (s : ByteArray) (w : World) (hx : x.ok) (h : TRow w v ls) (hs : Short ls) (hsz : s.size ≤ 1048576) (ht : TabS w)
    (n : List UInt8) (vs : List (List UInt8)) (hspb : splB s.data.toList = true) (hspl : spl s.data.toList = n :: vs) (hset : setB x ls.length = true) (hk : ¬ keyIx n < 4) :
    Calls Tryd.prog 46 #[x.val v, .string s] w fun e w' => TunedPost x ls s.data.toList w e w' := by
  have hfnd := find_none hk
  have HFN := Lib.hid (show tuneF x ls s.data.toList = none from tuneF_do (by rw [hspl]; show (if keyIx n < 4 then _ else _) = none; rw [if_neg hk]))
  clear hk
  obtain ⟨a, c, rfl⟩ := h.lenv
  obtain ⟨k1, k2, hsz2, hbl⟩ := alloc2 w (.cells (x.cells (.slice a ls.length c)) 27) (.cells #[.int .i64 0, .int .i64 0, .float .f32 0, .float .f32 0, .float .f32 0, .slice none 0 0] 27)
  have HSP := fun W hW => Lib.hid (splitFields_any s W hsz hW)
  have HOK := fun W hr => Lib.hid (setOk_any x (.slice a ls.length c) ls W hx hr hs.1)
  rw [hset] at HOK
  have HR := Lib.hid h
  have HTS := Lib.hid ht
  have HSH := Lib.hid hs
  have HX := Lib.hid hx
  have a0 := SetAt.of k1
  obtain ⟨r0, r1, r2, r3, r4, r5⟩ := SetAt.of (x := zeroC) (v := .slice none 0 0) k2
  obtain ⟨xc, xr, xs, xl, xt⟩ := x
  simp only [SetC.val, SetC.cells, zeroC] at *
  obtain ⟨o0, o1, o2, o3, o4, o5⟩ := id a0
  have HSPL := Lib.hid hspl
  have HFND := Lib.hid hfnd
  clear h ht hx hs hset hfnd
  go_enter Tryd.func46, Tryd.ntmps46
  go_wp2_with fail
  generalize World.alloc (World.alloc w _) _ = X at *
  refine (HSP X (HTS.out.below hbl)).out.mono ?_
  rintro e w1 ⟨u, rfl, ho, hb1⟩
  rw [hspb]
  rw [hspl] at ho
  have g1 := below_trans hbl hb1 hbl.size
  have A1 := a0.keep hb1 (by omega)
  have R1 := (show SetAt X (w.heap.size + 1) zeroC (.slice none 0 0) from ⟨r0, r1, r2, r3, r4, r5⟩).keep hb1 (by omega)
  have K2 := Lib.hid ((hb1.block _ (by omega)).trans k2)
  have HO := Lib.hid ho
  rcases ho.shape with ⟨_, e⟩ | ⟨g, cap, hu, hgb, hgl, hcap, _⟩
  · cases e
  subst hu
  have hz1 : w.heap.size + 2 ≤ w1.heap.size := by have := hb1.size; omega
  have hcell0 := (ho.cell 0 (by simp)).1
  simp only [List.getElem_cons_zero, List.length_cons] at hcell0 hcap
  have hgne : ¬ g = w.heap.size ∧ ¬ g = w.heap.size + 1 := ⟨by omega, by omega⟩
  unfold strV at hcell0
  have hnl : ¬ ((vs.length + 1 : Nat) : Int) = 0 := by omega
  have hnl2 : ¬ ((vs.length : Int) + 1) = 0 := by omega
  have hnl3 : (0 : Int) < (vs.length : Int) + 1 := by omega
  have HCAP := Lib.hid hcap
  clear ho o0 o1 o2 o3 o4 o5 r0 r1 r2 r3 r4 r5 a0 k1 k2 hspl hspb hb1
  obtain ⟨o0, o1, o2, o3, o4, o5⟩ := id A1
  simp only [List.length_cons]
  go_wp2_with fail
  refine (HOK w1 (HR.out.below g1)).out.mono ?_
  rintro e w2 ⟨rfl, hb2⟩
  have g2 := below_trans g1 hb2 g1.size
  have A2 := A1.keep hb2 (by omega)
  have R2 := R1.keep hb2 (by omega)
  have K3 := Lib.hid ((hb2.block (w.heap.size + 1) (by omega)).trans K2.out)
  have hc2 : w2.cell? ⟨g, 0, none⟩ = some (.string ⟨n.toArray⟩) := (hb2.cell (p := ⟨g, 0, none⟩) hgl).trans hcell0
  have HO2 := Lib.hid (HO.out.below hb2)
  have hz2 : w.heap.size + 2 ≤ w2.heap.size := by have := hb2.size; omega
  have hgl2 : g < w2.heap.size := Nat.lt_of_lt_of_le hgl hb2.size
  clear o0 o1 o2 o3 o4 o5 hcell0 HO K2 A1 R1 hb2 HOK HSP g1 hz1 hgl
  generalize (⟨n.toArray⟩ : ByteArray) = sk at *
  go_wp2
  go_region_held3 (fun V => Below w2.heap.size w2 V ∧ V.cell? ⟨g, 0, none⟩ = some (.string sk)) (first | exact KK | exact ⟨(Below.refl _ _).drew, hc2⟩ | go_keep) (first
    | (go_at_call 74; refine (commands_any _).mono ?_; rintro e w3 ⟨rfl, hm3, hb3⟩; have hlk := get_none (r := w2.heap.size) hm3 sk HFND.out; have KK := And.intro (show Below w2.heap.size w2 w3 from (Below.refl _ _).drew.trans (hb3.mono (Nat.le_refl _))) ((hb3.cell (p := ⟨g, 0, none⟩) hgl2).trans (show w2.drew.cell? ⟨g, 0, none⟩ = some (.string sk) from hc2))))
  have g3 := below_trans g2 KK.1 g2.size
  have R3 := R2.keep KK.1 (by omega)
  obtain ⟨f0, f1, f2, f3, f4, f5⟩ := froz6 ((KK.1.block (w.heap.size + 1) (by omega)).trans K3.out)
  obtain ⟨r0, r1, r2, r3, r4, r5⟩ := id R3
  simp only [zeroC] at r0 r1 r2 r3 r4
  go_wp2
  refine bodyPost_ret (v := .tuple #[.agg #[.int .i64 0, .int .i64 0, .float .f32 0, .float .f32 0, .float .f32 0, .slice none 0 0], .bool false]) ?_ rfl (TunedPost.no HFN.out ?_)
  · simp [results, Tryd.results46, go_sem, r0, r1, r2, r3, r4, r5]
  · exact below6 g3 (by omega) _ _ _ _ _ _
end Go.Proofs.YtobpnoiienpipaaDoor
