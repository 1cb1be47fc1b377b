/-
  What is proved: the walk of tuned: what a command makes of a set.
  Conditions: the log can be read; its texts and the line have at most 1048576 bytes each; the library's table of spaces holds what its initialiser lays.
-/
import Derived.Test.YtobpnoiienpipaaDoorPkCmd
import Derived.Test.YtobpnoiienpipaaDoorTabS
import Derived.Deep.RegionHeld3
namespace Go.Proofs.YtobpnoiienpipaaDoor
set_option linter.unusedVariables false
open Go.RowKit
attribute [local go_sem] run_store_float run_store_complex unary_negf neg256

/-- The number of a command's name; 4 where there is none. -/
def keyIx (n : List UInt8) : Nat := if n = [115, 108, 105, 99, 101] then 0 else if n = [107, 105, 108, 108, 101, 114] then 1 else if n = [115, 97, 116, 117, 114, 97, 116, 105, 111, 110] then 2 else if n = [115, 105, 122, 101] then 3 else 4
def doF (x : SetC) : List (List UInt8) → Option SetC
  | [] => none
  | n :: vs => if keyIx n < 4 then cmdF (keyIx n) x vs else none
/-- What a line makes of a set. -/
def tuneF (x : SetC) (ls : List (List UInt8)) (line : List UInt8) : Option (SetC × List (List UInt8)) :=
  if (splB line && setB x ls.length) = true then (doF x (spl line)).bind fun y => if setB y (ls.length + 1) = true then some (y, ls ++ [Lib.join (spl line) [32]]) else none else none
def TunedPost (x : SetC) (ls : List (List UInt8)) (line : List UInt8) (w : World) (e : Ending) (w' : World) : Prop :=
  ∃ y a n c b, e = .returned (.tuple #[SetC.val y (.slice a n c), .bool b]) ∧ (b = true → ∃ out, tuneF x ls line = some (y, out) ∧ OwnS w' w.heap.size (.slice a n c) out ∧ y.ok) ∧ (b = false → tuneF x ls line = none) ∧ Below w.heap.size w w'
theorem TunedPost.no {x : SetC} {ls : List (List UInt8)} {line : List UInt8} {w w' : World} (h : tuneF x ls line = none) (hb : Below w.heap.size w w') : TunedPost x ls line w (.returned (.tuple #[zeroC.val (.slice none 0 0), .bool false])) w' :=
  ⟨zeroC, none, 0, 0, false, rfl, (fun h => by cases h), fun _ => h, hb⟩
theorem tuneF_split {x : SetC} {ls : List (List UInt8)} {line : List UInt8} (h : splB line = false) : tuneF x ls line = none := by unfold tuneF; rw [h]; rfl
theorem tuneF_empty {x : SetC} {ls : List (List UInt8)} {line : List UInt8} (h : spl line = []) : tuneF x ls line = none := by unfold tuneF; rw [h]; split <;> rfl
theorem tuneF_set {x : SetC} {ls : List (List UInt8)} {line : List UInt8} (h : setB x ls.length = false) : tuneF x ls line = none := by unfold tuneF; rw [h, Bool.and_false]; rfl
theorem tuneF_do {x : SetC} {ls : List (List UInt8)} {line : List UInt8} (h : doF x (spl line) = none) : tuneF x ls line = none := by unfold tuneF; rw [h]; split <;> rfl
theorem below6 {B b : Nat} {w W : World} (h : Below B w W) (hb : B ≤ b) (v0 v1 v2 v3 v4 v5 : Value) : Below B w ((((((W.setCell ⟨b, 0, none⟩ v0).setCell ⟨b, 1, none⟩ v1).setCell ⟨b, 2, none⟩ v2).setCell ⟨b, 3, none⟩ v3).setCell ⟨b, 4, none⟩ v4).setCell ⟨b, 5, none⟩ v5) :=
  (((((h.setCell (p := ⟨b, 0, none⟩) hb _).setCell (p := ⟨b, 1, none⟩) hb _).setCell (p := ⟨b, 2, none⟩) hb _).setCell (p := ⟨b, 3, none⟩) hb _).setCell (p := ⟨b, 4, none⟩) hb _).setCell (p := ⟨b, 5, none⟩) hb _
set_option maxRecDepth 100000 in
set_option maxHeartbeats 4000000 in
theorem tuned_early (x : SetC) (v : Value) (ls : List (List UInt8)) (s : ByteArray) (w : World) (hx : x.ok) (h : TRow w v ls) (hs : Short ls) (hsz : s.size ≤ 1048576) (ht : TabS w)
    (hno : splB s.data.toList = false ∨ spl s.data.toList = [] ∨ setB x ls.length = false) :
    Calls Tryd.prog 46 #[x.val v, .string s] w fun e w' => TunedPost x ls s.data.toList w e w' := by
  have hF : tuneF x ls s.data.toList = none := by
    rcases hno with h | h | h
    · exact tuneF_split h
    · exact tuneF_empty h
    · exact tuneF_set h
  have HFN := Lib.hid hF
  obtain ⟨a, c, rfl⟩ := h.lenv
  obtain ⟨k1, k2, hsz2, hbl⟩ := alloc2 w (.cells (x.cells (.slice a ls.length c)) 27) (.cells #[.int .i64 0, .int .i64 0, .float .f32 0, .float .f32 0, .float .f32 0, .slice none 0 0] 27)
  have HSP := fun W hW => Lib.hid (splitFields_any s W hsz hW)
  have HOK := fun W hr => Lib.hid (setOk_any x (.slice a ls.length c) ls W hx hr hs.1)
  have HR := Lib.hid h
  have HTS := Lib.hid ht
  have HNO := Lib.hid hno
  have a0 := SetAt.of k1
  obtain ⟨r0, r1, r2, r3, r4, r5⟩ := SetAt.of (x := zeroC) (v := .slice none 0 0) k2
  obtain ⟨xc, xr, xs, xl, xt⟩ := x
  simp only [SetC.val, SetC.cells, zeroC] at *
  obtain ⟨o0, o1, o2, o3, o4, o5⟩ := id a0
  clear h ht hx hno hF hs
  go_enter Tryd.func46, Tryd.ntmps46
  go_wp2_with fail
  generalize World.alloc (World.alloc w _) _ = X at *
  refine (HSP X (HTS.out.below hbl)).out.mono ?_
  rintro e w1 ⟨u, rfl, ho, hb1⟩
  have g1 := below_trans hbl hb1 hbl.size
  have A1 := a0.keep hb1 (by omega)
  have R1 := (show SetAt X (w.heap.size + 1) zeroC (.slice none 0 0) from ⟨r0, r1, r2, r3, r4, r5⟩).keep hb1 (by omega)
  have k2' := (hb1.block _ (by omega)).trans k2
  obtain ⟨s0, s1, s2, s3, s4, s5⟩ := froz6 k2'
  have K2 := Lib.hid k2'
  have HO := Lib.hid ho
  obtain ⟨au, cu, hu⟩ := ho.row.lenv
  subst hu
  clear ho o0 o1 o2 o3 o4 o5 r0 r1 r2 r3 r4 r5 a0 k1 k2 k2'
  obtain ⟨o0, o1, o2, o3, o4, o5⟩ := id A1
  obtain ⟨r0, r1, r2, r3, r4, r5⟩ := id R1
  simp only [zeroC] at r0 r1 r2 r3 r4
  cases hB : splB s.data.toList with
  | false =>
    generalize (spl s.data.toList).length = n at *
    go_wp2
    refine bodyPost_ret (v := .tuple #[.agg #[.int .i64 0, .int .i64 0, .float .f32 0, .float .f32 0, .float .f32 0, .slice none 0 0], .bool false]) ?_ rfl (TunedPost.no HFN.out ?_)
    · simp [results, Tryd.results46, go_sem, r0, r1, r2, r3, r4, r5]
    · exact below6 g1 (by omega) _ _ _ _ _ _
  | true =>
    by_cases h0 : spl s.data.toList = []
    · have hn : (spl s.data.toList).length = 0 := by rw [h0]; rfl
      generalize (spl s.data.toList).length = n at *
      subst hn
      clear h0
      go_wp2
      refine bodyPost_ret (v := .tuple #[.agg #[.int .i64 0, .int .i64 0, .float .f32 0, .float .f32 0, .float .f32 0, .slice none 0 0], .bool false]) ?_ rfl (TunedPost.no HFN.out ?_)
      · simp [results, Tryd.results46, go_sem, r0, r1, r2, r3, r4, r5]
      · exact below6 g1 (by omega) _ _ _ _ _ _
    · have hn : ¬ ((spl s.data.toList).length : Int) = 0 := by
        have := List.length_pos_iff.2 h0
        omega
      have hbf : setB ⟨xc, xr, xs, xl, xt⟩ ls.length = false := by
        rcases HNO.out with h | h | h
        · rw [hB] at h; cases h
        · exact absurd h h0
        · exact h
      have HK := Lib.hid (HOK w1 (HR.out.below g1)).out
      rw [hbf] at HK
      generalize (spl s.data.toList).length = n at *
      clear h0 hbf
      go_wp2_with fail
      refine HK.out.mono ?_
      rintro e w2 ⟨rfl, hb2⟩
      have g2 := below_trans g1 hb2 g1.size
      have R2 := R1.keep hb2 (by have := hb1.size; omega)
      obtain ⟨f0, f1, f2, f3, f4, f5⟩ := froz6 ((hb2.block (w.heap.size + 1) (by have := hb1.size; omega)).trans K2.out)
      clear r0 r1 r2 r3 r4 r5 s0 s1 s2 s3 s4 s5
      obtain ⟨r0, r1, r2, r3, r4, r5⟩ := id R2
      simp only [zeroC] at r0 r1 r2 r3 r4
      go_wp2
      refine bodyPost_ret (v := .tuple #[.agg #[.int .i64 0, .int .i64 0, .float .f32 0, .float .f32 0, .float .f32 0, .slice none 0 0], .bool false]) ?_ rfl (TunedPost.no HFN.out ?_)
      · simp [results, Tryd.results46, go_sem, r0, r1, r2, r3, r4, r5]
      · exact below6 g2 (by omega) _ _ _ _ _ _
end Go.Proofs.YtobpnoiienpipaaDoor

/-
  What is proved: the walk of tuned where the line has no command's name.
  Conditions: the log can be read; its texts and the line have at most 1048576 bytes each; the library's table of spaces holds what its initialiser lays.
-/
namespace Go.Proofs.YtobpnoiienpipaaDoor
set_option linter.unusedVariables false
open Go.RowKit
attribute [local go_sem] run_store_float run_store_complex unary_negf neg256

theorem ba_beq (n l : List UInt8) : ((⟨n.toArray⟩ : ByteArray) == ⟨l.toArray⟩) = decide (n = l) := by
  have h : ((⟨n.toArray⟩ : ByteArray) == ⟨l.toArray⟩) = (n.toArray == l.toArray) := rfl
  rw [h]
  by_cases e : n = l
  · subst e; simp
  · rw [decide_eq_false e]
    simpa using e
theorem find_none {n : List UInt8} (h : ¬ keyIx n < 4) : Instr.findNow .string (.string ⟨n.toArray⟩) cmdMap.toList 0 = some none := by
  unfold keyIx at h
  by_cases h0 : n = [115, 108, 105, 99, 101]
  · rw [if_pos h0] at h; exact absurd (by decide) h
  by_cases h1 : n = [107, 105, 108, 108, 101, 114]
  · rw [if_neg h0, if_pos h1] at h; exact absurd (by decide) h
  by_cases h2 : n = [115, 97, 116, 117, 114, 97, 116, 105, 111, 110]
  · rw [if_neg h0, if_neg h1, if_pos h2] at h; exact absurd (by decide) h
  by_cases h3 : n = [115, 105, 122, 101]
  · rw [if_neg h0, if_neg h1, if_neg h2, if_pos h3] at h; exact absurd (by decide) h
  have e0 := ba_beq n [115, 108, 105, 99, 101]
  have e1 := ba_beq n [107, 105, 108, 108, 101, 114]
  have e2 := ba_beq n [115, 97, 116, 117, 114, 97, 116, 105, 111, 110]
  have e3 := ba_beq n [115, 105, 122, 101]
  rw [decide_eq_false h0] at e0
  rw [decide_eq_false h1] at e1
  rw [decide_eq_false h2] at e2
  rw [decide_eq_false h3] at e3
  simp [Instr.findNow, Instr.sameNow, cmdMap, ent, e0, e1, e2, e3]
set_option maxRecDepth 100000 in
set_option maxHeartbeats 4000000 in
theorem tuned_none (x : SetC) (v : Value) (ls : List (List UInt8)) (s : ByteArray) (w : World) (hx : x.ok) (h : TRow w v ls) (hs : Short ls) (hsz : s.size ≤ 1048576) (ht : TabS w)
    (n : List UInt8) (vs : List (List UInt8)) (hspb : splB s.data.toList = true) (hspl : spl s.data.toList = n :: vs) (hset : setB x ls.length = true) (hk : ¬ keyIx n < 4) :
    Calls Tryd.prog 46 #[x.val v, .string s] w fun e w' => TunedPost x ls s.data.toList w e w' := by
  have hfnd := find_none hk
  have HFN := Lib.hid (show tuneF x ls s.data.toList = none from tuneF_do (by rw [hspl]; show (if keyIx n < 4 then _ else _) = none; rw [if_neg hk]))
  clear hk
  obtain ⟨a, c, rfl⟩ := h.lenv
  obtain ⟨k1, k2, hsz2, hbl⟩ := alloc2 w (.cells (x.cells (.slice a ls.length c)) 27) (.cells #[.int .i64 0, .int .i64 0, .float .f32 0, .float .f32 0, .float .f32 0, .slice none 0 0] 27)
  have HSP := fun W hW => Lib.hid (splitFields_any s W hsz hW)
  have HOK := fun W hr => Lib.hid (setOk_any x (.slice a ls.length c) ls W hx hr hs.1)
  rw [hset] at HOK
  have HR := Lib.hid h
  have HTS := Lib.hid ht
  have HSH := Lib.hid hs
  have HX := Lib.hid hx
  have a0 := SetAt.of k1
  obtain ⟨r0, r1, r2, r3, r4, r5⟩ := SetAt.of (x := zeroC) (v := .slice none 0 0) k2
  obtain ⟨xc, xr, xs, xl, xt⟩ := x
  simp only [SetC.val, SetC.cells, zeroC] at *
  obtain ⟨o0, o1, o2, o3, o4, o5⟩ := id a0
  have HSPL := Lib.hid hspl
  have HFND := Lib.hid hfnd
  clear h ht hx hs hset hfnd
  go_enter Tryd.func46, Tryd.ntmps46
  go_wp2_with fail
  generalize World.alloc (World.alloc w _) _ = X at *
  refine (HSP X (HTS.out.below hbl)).out.mono ?_
  rintro e w1 ⟨u, rfl, ho, hb1⟩
  rw [hspb]
  rw [hspl] at ho
  have g1 := below_trans hbl hb1 hbl.size
  have A1 := a0.keep hb1 (by omega)
  have R1 := (show SetAt X (w.heap.size + 1) zeroC (.slice none 0 0) from ⟨r0, r1, r2, r3, r4, r5⟩).keep hb1 (by omega)
  have K2 := Lib.hid ((hb1.block _ (by omega)).trans k2)
  have HO := Lib.hid ho
  rcases ho.shape with ⟨_, e⟩ | ⟨g, cap, hu, hgb, hgl, hcap, _⟩
  · cases e
  subst hu
  have hz1 : w.heap.size + 2 ≤ w1.heap.size := by have := hb1.size; omega
  have hcell0 := (ho.cell 0 (by simp)).1
  simp only [List.getElem_cons_zero, List.length_cons] at hcell0 hcap
  have hgne : ¬ g = w.heap.size ∧ ¬ g = w.heap.size + 1 := ⟨by omega, by omega⟩
  unfold strV at hcell0
  have hnl : ¬ ((vs.length + 1 : Nat) : Int) = 0 := by omega
  have hnl2 : ¬ ((vs.length : Int) + 1) = 0 := by omega
  have hnl3 : (0 : Int) < (vs.length : Int) + 1 := by omega
  have HCAP := Lib.hid hcap
  clear ho o0 o1 o2 o3 o4 o5 r0 r1 r2 r3 r4 r5 a0 k1 k2 hspl hspb hb1
  obtain ⟨o0, o1, o2, o3, o4, o5⟩ := id A1
  simp only [List.length_cons]
  go_wp2_with fail
  refine (HOK w1 (HR.out.below g1)).out.mono ?_
  rintro e w2 ⟨rfl, hb2⟩
  have g2 := below_trans g1 hb2 g1.size
  have A2 := A1.keep hb2 (by omega)
  have R2 := R1.keep hb2 (by omega)
  have K3 := Lib.hid ((hb2.block (w.heap.size + 1) (by omega)).trans K2.out)
  have hc2 : w2.cell? ⟨g, 0, none⟩ = some (.string ⟨n.toArray⟩) := (hb2.cell (p := ⟨g, 0, none⟩) hgl).trans hcell0
  have HO2 := Lib.hid (HO.out.below hb2)
  have hz2 : w.heap.size + 2 ≤ w2.heap.size := by have := hb2.size; omega
  have hgl2 : g < w2.heap.size := Nat.lt_of_lt_of_le hgl hb2.size
  clear o0 o1 o2 o3 o4 o5 hcell0 HO K2 A1 R1 hb2 HOK HSP g1 hz1 hgl
  generalize (⟨n.toArray⟩ : ByteArray) = sk at *
  go_wp2
  go_region_held3 (fun V => Below w2.heap.size w2 V ∧ V.cell? ⟨g, 0, none⟩ = some (.string sk)) (first | exact KK | exact ⟨(Below.refl _ _).drew, hc2⟩ | go_keep) (first
    | (go_at_call 74; refine (commands_any _).mono ?_; rintro e w3 ⟨rfl, hm3, hb3⟩; have hlk := get_none (r := w2.heap.size) hm3 sk HFND.out; have KK := And.intro (show Below w2.heap.size w2 w3 from (Below.refl _ _).drew.trans (hb3.mono (Nat.le_refl _))) ((hb3.cell (p := ⟨g, 0, none⟩) hgl2).trans (show w2.drew.cell? ⟨g, 0, none⟩ = some (.string sk) from hc2))))
  have g3 := below_trans g2 KK.1 g2.size
  have R3 := R2.keep KK.1 (by omega)
  obtain ⟨f0, f1, f2, f3, f4, f5⟩ := froz6 ((KK.1.block (w.heap.size + 1) (by omega)).trans K3.out)
  obtain ⟨r0, r1, r2, r3, r4, r5⟩ := id R3
  simp only [zeroC] at r0 r1 r2 r3 r4
  go_wp2
  refine bodyPost_ret (v := .tuple #[.agg #[.int .i64 0, .int .i64 0, .float .f32 0, .float .f32 0, .float .f32 0, .slice none 0 0], .bool false]) ?_ rfl (TunedPost.no HFN.out ?_)
  · simp [results, Tryd.results46, go_sem, r0, r1, r2, r3, r4, r5]
  · exact below6 g3 (by omega) _ _ _ _ _ _
end Go.Proofs.YtobpnoiienpipaaDoor

/-
  What is proved: the fields of a line, joined.
  Conditions: the log can be read; its texts and the line have at most 1048576 bytes each; the library's table of spaces holds what its initialiser lays.
-/
namespace Go.Proofs.YtobpnoiienpipaaDoor
set_option linter.unusedVariables false
open Go.RowKit
attribute [local go_sem] run_store_float run_store_complex unary_negf neg256

theorem lens_le : ∀ (fs : List (List UInt8)), (∀ f ∈ fs, f.length ≤ 600) → Lib.lens fs ≤ 600 * fs.length
  | [], _ => by simp [Lib.lens]
  | f :: fs, h => by
    have h1 := lens_le fs (fun g hg => h g (by simp [hg]))
    have h2 := h f (by simp)
    unfold Lib.lens at h1 ⊢
    simp only [List.map_cons, List.sum_cons, List.length_cons]
    omega
theorem join_bound (f : List UInt8) (fs : List (List UInt8)) (h : ∀ g ∈ f :: fs, g.length ≤ 600) : (Lib.join (f :: fs) [32]).length ≤ 601 * (fs.length + 1) := by
  have h1 := lens_le (f :: fs) h
  rw [Lib.join_length]
  simp only [List.length_cons, List.length_nil] at *
  omega
theorem spl_small {l : List UInt8} (h : splB l = true) : (∀ f ∈ spl l, f.length ≤ 600) ∧ (spl l).length ≤ 24 := by
  unfold splB at h
  simp only [decide_eq_true_eq] at h
  have e := (spl_yes h).1
  rw [e]
  exact ⟨fun f hf => by have := fields_mem l [] f hf; simp at this; omega, h.2.2⟩
theorem join_any (g cap base m : Nat) (f : List UInt8) (fs : List (List UInt8)) (W : World) (h : OwnS W base (.slice (some ⟨g, 0, none⟩) m cap) (f :: fs)) (hm : fs.length + 1 = m) (hb : ∀ x ∈ f :: fs, x.length ≤ 600) (hc : fs.length ≤ 24) :
    Calls Tryd.prog 59 #[.slice (some ⟨g, 0, none⟩) m cap, .string ⟨#[32]⟩] W fun e w' => e = .returned (.string ⟨(Lib.join (f :: fs) [32]).toArray⟩) ∧ Below W.heap.size W w' := by
  rcases h.shape with ⟨_, e⟩ | ⟨g', cap', hv, _, hgl, hcap, _⟩
  · cases e
  injection hv with hv1 hv2 hv3
  injection hv1 with hv1
  injection hv1 with hv1
  subst hv1 hv3
  have hmap : ((f :: fs).map fun l => (⟨l.toArray⟩ : ByteArray)).map (fun x : ByteArray => x.data.toList) = f :: fs := by
    rw [List.map_map]
    exact (List.map_congr_left (fun x _ => by simp)).trans (List.map_id _)
  have hj := Tryd.strings_Join g 0 cap ((f :: fs).map fun l => (⟨l.toArray⟩ : ByteArray)) ⟨#[32]⟩ W (fun j q hj => by
    obtain ⟨hlt, rfl⟩ := List.getElem?_eq_some_iff.1 hj
    have hlt' : j < (f :: fs).length := by simpa using hlt
    rw [Nat.zero_add, (h.cell j hlt').1, List.getElem_map]
    rfl) hgl (by simp; omega) (by simpa using hcap) (by
      rw [hmap]
      have := join_bound f fs hb
      exact Nat.le_trans this (by omega))
  rw [hmap, List.length_map, List.length_cons, hm] at hj
  exact hj
def CmdOut (k : Nat) (x : SetC) (v : Value) (vs : List (List UInt8)) (w : World) (e : Ending) (w' : World) : Prop :=
  ∃ yc yr ys yl yt a n c b, e = .returned (.tuple #[.agg #[.int .i64 yc, .int .i64 yr, .float .f32 ys, .float .f32 yl, .float .f32 yt, .slice a n c], .bool b]) ∧ (.slice a n c = v ∨ Value.slice a n c = .slice none 0 0) ∧ (b = true → .slice a n c = v ∧ cmdF k x vs = some ⟨yc, yr, ys, yl, yt⟩) ∧ (b = false → cmdF k x vs = none) ∧ Below w.heap.size w w'
theorem CmdPost.out {k n0 c0 : Nat} {a0 : Option Addr} {x : SetC} {vs : List (List UInt8)} {w w' : World} {e : Ending} (h : CmdPost k x (.slice a0 n0 c0) vs w e w') : CmdOut k x (.slice a0 n0 c0) vs w e w' := by
  obtain ⟨⟨yc, yr, ys, yl, yt⟩, v', b, rfl, hv, h1, h2, hb⟩ := h
  obtain ⟨a, n, c, rfl⟩ : ∃ a n c, v' = .slice a n c := by rcases hv with rfl | rfl <;> exact ⟨_, _, _, rfl⟩
  exact ⟨yc, yr, ys, yl, yt, a, n, c, b, rfl, hv, h1, h2, hb⟩
theorem SetAt.put6 {W : World} {h b : Nat} {x : SetC} {v : Value} (k : SetAt W h x v) (hne : ¬ b = h) (v0 v1 v2 v3 v4 v5 : Value) : SetAt ((((((W.setCell ⟨b, 0, none⟩ v0).setCell ⟨b, 1, none⟩ v1).setCell ⟨b, 2, none⟩ v2).setCell ⟨b, 3, none⟩ v3).setCell ⟨b, 4, none⟩ v4).setCell ⟨b, 5, none⟩ v5) h x v := by
  have e : ((((((W.setCell ⟨b, 0, none⟩ v0).setCell ⟨b, 1, none⟩ v1).setCell ⟨b, 2, none⟩ v2).setCell ⟨b, 3, none⟩ v3).setCell ⟨b, 4, none⟩ v4).setCell ⟨b, 5, none⟩ v5).heap[h]? = W.heap[h]? := by
    simp [World.setCell, Array.getElem?_modify, hne]
  generalize ((((((W.setCell ⟨b, 0, none⟩ v0).setCell ⟨b, 1, none⟩ v1).setCell ⟨b, 2, none⟩ v2).setCell ⟨b, 3, none⟩ v3).setCell ⟨b, 4, none⟩ v4).setCell ⟨b, 5, none⟩ v5) = W' at *
  have c : ∀ i, W'.cell? ⟨h, i, none⟩ = W.cell? ⟨h, i, none⟩ := fun i => by unfold World.cell?; rw [e]
  obtain ⟨k0, k1, k2, k3, k4, k5⟩ := k
  exact ⟨(c 0).trans k0, (c 1).trans k1, (c 2).trans k2, (c 3).trans k3, (c 4).trans k4, (c 5).trans k5⟩
theorem OwnS.put6 {W : World} {b base : Nat} {v : Value} {ls : List (List UInt8)} (h : OwnS W base v ls) (hne : ∀ k, v.ownBlock = some k → k ≠ b) (v0 v1 v2 v3 v4 v5 : Value) : OwnS ((((((W.setCell ⟨b, 0, none⟩ v0).setCell ⟨b, 1, none⟩ v1).setCell ⟨b, 2, none⟩ v2).setCell ⟨b, 3, none⟩ v3).setCell ⟨b, 4, none⟩ v4).setCell ⟨b, 5, none⟩ v5) base v ls := by
  refine ⟨h.1, h.2.imp id fun ⟨g, cap, cur, h1, h2, h3, h4⟩ => ⟨g, cap, cur, h1, h2, ?_, h4⟩⟩
  subst h1
  have hb : ¬ b = g := fun e => hne g rfl e.symm
  rw [← h3]
  simp [World.setCell, Array.getElem?_modify, hb]
theorem heap_put6 {W : World} {b : Nat} {t : TypeId} {u0 u1 u2 u3 u4 u5 : Value} (h : W.heap[b]? = some (.cells #[u0, u1, u2, u3, u4, u5] t (0, 0))) (v0 v1 v2 v3 v4 v5 : Value) :
    ((((((W.setCell ⟨b, 0, none⟩ v0).setCell ⟨b, 1, none⟩ v1).setCell ⟨b, 2, none⟩ v2).setCell ⟨b, 3, none⟩ v3).setCell ⟨b, 4, none⟩ v4).setCell ⟨b, 5, none⟩ v5).heap[b]? = some (.cells #[v0, v1, v2, v3, v4, v5] t (0, 0)) := by
  simp [World.setCell, Array.getElem?_modify, h]
theorem ne_alloc {W : World} {o : Obj} {k : Nat} (h : (W.alloc o).drew.heap.size ≤ k) : k ≠ W.heap.size := by
  have h1 : (W.alloc o).heap.size = W.heap.size + 1 := by simp
  have h2 : (W.alloc o).heap.size ≤ k := h
  omega
theorem TunedPost.refused {x : SetC} {ls : List (List UInt8)} {line : List UInt8} {w w' : World} {yc yr : Int} {ys yl yt n c : Nat} {a : Option Addr} (h : tuneF x ls line = none) (hb : Below w.heap.size w w') :
    TunedPost x ls line w (.returned (.tuple #[.agg #[.int .i64 yc, .int .i64 yr, .float .f32 ys, .float .f32 yl, .float .f32 yt, .slice a n c], .bool false])) w' :=
  ⟨⟨yc, yr, ys, yl, yt⟩, a, n, c, false, rfl, (fun h => by cases h), fun _ => h, hb⟩
theorem TunedPost.done {x : SetC} {ls out : List (List UInt8)} {line : List UInt8} {w w' : World} {yc yr : Int} {ys yl yt n c : Nat} {a : Option Addr} {b : Bool} (h : tuneF x ls line = if b = true then some (⟨yc, yr, ys, yl, yt⟩, out) else none)
    (ho : OwnS w' w.heap.size (.slice a n c) out) (hy : SetC.ok ⟨yc, yr, ys, yl, yt⟩) (hb : Below w.heap.size w w') :
    TunedPost x ls line w (.returned (.tuple #[.agg #[.int .i64 yc, .int .i64 yr, .float .f32 ys, .float .f32 yl, .float .f32 yt, .slice a n c], .bool b])) w' :=
  ⟨⟨yc, yr, ys, yl, yt⟩, a, n, c, b, rfl, fun e => ⟨out, by rw [h, if_pos e], ho, hy⟩, fun e => by rw [h, if_neg (by rw [e]; decide)], hb⟩
/-- All texts but the first. -/
theorem tail_row {W : World} {base g cap : Nat} {n : List UInt8} {vs : List (List UInt8)} (h : OwnS W base (.slice (some ⟨g, 0, none⟩) (vs.length + 1) cap) (n :: vs)) : TRow W (.slice (some ⟨g, 1, none⟩) vs.length (cap - 1)) vs := by
  rcases h.shape with ⟨hv, _⟩ | ⟨g', cap', hv, _, hgl, hcap, _⟩
  · cases hv
  injection hv with hv1 hv2 hv3
  injection hv1 with hv1
  injection hv1 with hv1
  subst hv1 hv3
  simp only [List.length_cons] at hcap
  refine .inr ⟨g, 1, cap - 1, rfl, by omega, fun k hk => ?_⟩
  have := (h.cell (k + 1) (by simp; omega)).1
  rw [Nat.add_comm 1 k]
  simpa using this
theorem step_str {ops : Array Oper} {o : Oper} {a : Act} {w : World} {K : Act → World → Prop} {Q : Exit → Act → World → Prop} {E : Prop} (hgd : o.guard = none) (s x : Operand)
    (ho : o.op = .call { callee := .builtin .append, args := #[s, x], argTypes := #[25, 25] })
    (base : Nat) (v : Value) (ls : List (List UInt8)) (hs : a.eval s = v) (hown : OwnS w base v ls) (b : Nat) (y : List UInt8) (hx : a.eval x = .slice (some ⟨b, 0, none⟩) 1 1) (hy : w.cell? ⟨b, 0, none⟩ = some (.string ⟨y.toArray⟩))
    (hlen : ls.length ≤ 1000000) (hbase : base ≤ w.heap.size)
    (h : ∀ g cap w', OwnS w' base (.slice (some ⟨g, 0, none⟩) (ls.length + 1) cap) (ls ++ [y]) → w.grownBy w' v.ownBlock → (v.ownBlock = some g ∨ g = w.heap.size) → g < w'.heap.size → K (a.put o.dst (.slice (some ⟨g, 0, none⟩) (ls.length + 1) cap)) w') :
    if Region.wanted o (yielded ops a.tmps) = true then Oper.wp Tryd.prog o a w K Q else E := by
  obtain ⟨i0, hi, hz0, hz1, hz2⟩ := info_parts info_str
  refine step_append_lies w hgd s x 25 ho base 9 i0 _ 1 16 Tryd.underlying25 hi hz0 hz1 hz2 rfl (by decide) v ls.length _ hs hown ⟨b, 0, none⟩ 1 1 [strV y] hx (by rfl) ?_ ?_ (by decide) (by unfold maxLen; omega) (by omega) hbase w.heap.size rfl ?_
  · intro j u hu
    match j, hu with
    | 0, hu => cases hu; exact hy
  · intro u hu
    obtain rfl := List.mem_singleton.1 hu
    rfl
  · intro g cap w' h2 h3 h4 h5
    refine h g cap w' ?_ h3 h4 h5
    unfold OwnS
    rw [List.length_append, List.map_append]
    exact h2
theorem cmdF_ok {k : Nat} {x y : SetC} {vs : List (List UInt8)} (hx : x.ok) (h : cmdF k x vs = some y) : y.ok := by
  have hn : ∀ z : SetC, z.ok → numF vs z = some y → y.ok := fun z hz hh => by
    unfold numF at hh
    split at hh
    · cases hh; exact hz
    · cases hh
  unfold cmdF at h
  split at h
  · exact hn (x.s' (numR vs).1) hx h
  split at h
  · exact hn (x.l' (numR vs).1) hx h
  split at h
  · exact hn (x.t' (numR vs).1) hx h
  match vs, h with
  | [], h => cases h
  | [_], h => cases h
  | [a, b], h =>
    have hle : ∀ l, (puV l : Int) ≤ 1000000000 := fun l => by
      unfold puV
      split
      · rename_i hp
        unfold puB at hp
        simp only [Bool.and_eq_true, decide_eq_true_eq] at hp
        omega
      · decide
    have h1 := hle a
    have h2 := hle b
    simp only [sizeF] at h
    split at h
    · cases h
      exact ⟨⟨by simp <;> omega, by simp <;> omega⟩, ⟨by simp <;> omega, by simp <;> omega⟩⟩
    · cases h
  | _ :: _ :: _ :: _, h => cases h
/-- Where there is no further text, the tail keeps the place. -/
theorem tail_row0 {W : World} {g : Nat} {vs : List (List UInt8)} {m : Nat} (h : vs.length + 1 ≤ 1) (hm : m = 0) : TRow W (.slice (some ⟨g, 0, none⟩) vs.length m) vs := by
  subst hm
  obtain rfl : vs = [] := List.length_eq_zero_iff.1 (by omega)
  exact .inr ⟨g, 0, 0, rfl, by simp, fun k hk => absurd hk (by simp)⟩
structure Tail (T : Prop) : Prop where
  out : T
theorem share {G : Prop} (T : Prop) (main : Tail T → G) (tail : T) : G := main ⟨tail⟩
end Go.Proofs.YtobpnoiienpipaaDoor
