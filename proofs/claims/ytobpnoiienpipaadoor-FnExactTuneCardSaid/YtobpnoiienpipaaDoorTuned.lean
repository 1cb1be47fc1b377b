/-
  What is proved: the walk of tuned: what a command makes of a set.
  Conditions: the log can be read; its texts and the line have at most 1048576 bytes each; the library's table of spaces holds what its initialiser lays.
-/
import Derived.Test.YtobpnoiienpipaaDoorMapC
import Derived.Test.YtobpnoiienpipaaDoorTabS
import Derived.Deep.RegionHeld3
namespace Go.Proofs.YtobpnoiienpipaaDoor
set_option linter.unusedVariables false
open Go.RowKit
attribute [local go_sem] run_store_float run_store_complex unary_negf neg256

/-- The number of a command's name; 4 where there is none. -/
def keyIx (n : List UInt8) : Nat := if n = [115, 108, 105, 99, 101] then 0 else if n = [107, 105, 108, 108, 101, 114] then 1 else if n = [115, 97, 116, 117, 114, 97, 116, 105, 111, 110] then 2 else if n = [115, 105, 122, 101] then 3 else 4
def doF (x : SetC) : List (List UInt8) → Option SetC
  | [] => none
  | n :: vs => if keyIx n < 4 then cmdF (keyIx n) x vs else none
/-- What a line makes of a set. -/
def tuneF (x : SetC) (ls : List (List UInt8)) (line : List UInt8) : Option (SetC × List (List UInt8)) :=
  if (splB line && setB x ls.length) = true then (doF x (spl line)).bind fun y => if setB y (ls.length + 1) = true then some (y, ls ++ [Lib.join (spl line) [32]]) else none else none
def TunedPost (x : SetC) (ls : List (List UInt8)) (line : List UInt8) (w : World) (e : Ending) (w' : World) : Prop :=
  ∃ y a n c b, e = .returned (.tuple #[SetC.val y (.slice a n c), .bool b]) ∧ (b = true → ∃ out, tuneF x ls line = some (y, out) ∧ OwnS w' w.heap.size (.slice a n c) out ∧ y.ok) ∧ (b = false → tuneF x ls line = none) ∧ Below w.heap.size w w'
theorem TunedPost.no {x : SetC} {ls : List (List UInt8)} {line : List UInt8} {w w' : World} (h : tuneF x ls line = none) (hb : Below w.heap.size w w') : TunedPost x ls line w (.returned (.tuple #[zeroC.val (.slice none 0 0), .bool false])) w' :=
  ⟨zeroC, none, 0, 0, false, rfl, (fun h => by cases h), fun _ => h, hb⟩
theorem tuneF_split {x : SetC} {ls : List (List UInt8)} {line : List UInt8} (h : splB line = false) : tuneF x ls line = none := by unfold tuneF; rw [h]; rfl
theorem tuneF_empty {x : SetC} {ls : List (List UInt8)} {line : List UInt8} (h : spl line = []) : tuneF x ls line = none := by unfold tuneF; rw [h]; split <;> rfl
theorem tuneF_set {x : SetC} {ls : List (List UInt8)} {line : List UInt8} (h : setB x ls.length = false) : tuneF x ls line = none := by unfold tuneF; rw [h, Bool.and_false]; rfl
theorem tuneF_do {x : SetC} {ls : List (List UInt8)} {line : List UInt8} (h : doF x (spl line) = none) : tuneF x ls line = none := by unfold tuneF; rw [h]; split <;> rfl
theorem below6 {B b : Nat} {w W : World} (h : Below B w W) (hb : B ≤ b) (v0 v1 v2 v3 v4 v5 : Value) : Below B w ((((((W.setCell ⟨b, 0, none⟩ v0).setCell ⟨b, 1, none⟩ v1).setCell ⟨b, 2, none⟩ v2).setCell ⟨b, 3, none⟩ v3).setCell ⟨b, 4, none⟩ v4).setCell ⟨b, 5, none⟩ v5) :=
  (((((h.setCell (p := ⟨b, 0, none⟩) hb _).setCell (p := ⟨b, 1, none⟩) hb _).setCell (p := ⟨b, 2, none⟩) hb _).setCell (p := ⟨b, 3, none⟩) hb _).setCell (p := ⟨b, 4, none⟩) hb _).setCell (p := ⟨b, 5, none⟩) hb _
set_option maxRecDepth 100000 in
set_option maxHeartbeats 4000000 in
theorem tuned_early (x : SetC) (v : Value) (ls : List (List UInt8)) (s : ByteArray) (w : World) (hx : x.ok) (h : TRow w v ls) (hs : Short ls) (hsz : s.size ≤ 1048576) (ht : TabS w)
    (hno : splB s.data.toList = false ∨ spl s.data.toList = [] ∨ setB x ls.length = false) :
    Calls Tryd.prog 46 #[x.val v, .string s] w fun e w' => TunedPost x ls s.data.toList w e w' := by
  have hF : tuneF x ls s.data.toList = none := by
    rcases hno with h | h | h
    · exact tuneF_split h
    · exact tuneF_empty h
    · exact tuneF_set h
  have HFN := Lib.hid hF
  obtain ⟨a, c, rfl⟩ := h.lenv
  obtain ⟨k1, k2, hsz2, hbl⟩ := alloc2 w (.cells (x.cells (.slice a ls.length c)) 27) (.cells #[.int .i64 0, .int .i64 0, .float .f32 0, .float .f32 0, .float .f32 0, .slice none 0 0] 27)
  have HSP := fun W hW => Lib.hid (splitFields_any s W hsz hW)
  have HOK := fun W hr => Lib.hid (setOk_any x (.slice a ls.length c) ls W hx hr hs.1)
  have HR := Lib.hid h
  have HTS := Lib.hid ht
  have HNO := Lib.hid hno
  have a0 := SetAt.of k1
  obtain ⟨r0, r1, r2, r3, r4, r5⟩ := SetAt.of (x := zeroC) (v := .slice none 0 0) k2
  obtain ⟨xc, xr, xs, xl, xt⟩ := x
  simp only [SetC.val, SetC.cells, zeroC] at *
  obtain ⟨o0, o1, o2, o3, o4, o5⟩ := id a0
  clear h ht hx hno hF hs
  go_enter Tryd.func46, Tryd.ntmps46
  go_wp2_with fail
  generalize World.alloc (World.alloc w _) _ = X at *
  refine (HSP X (HTS.out.below hbl)).out.mono ?_
  rintro e w1 ⟨u, rfl, ho, hb1⟩
  have g1 := below_trans hbl hb1 hbl.size
  have A1 := a0.keep hb1 (by omega)
  have R1 := (show SetAt X (w.heap.size + 1) zeroC (.slice none 0 0) from ⟨r0, r1, r2, r3, r4, r5⟩).keep hb1 (by omega)
  have k2' := (hb1.block _ (by omega)).trans k2
  obtain ⟨s0, s1, s2, s3, s4, s5⟩ := froz6 k2'
  have K2 := Lib.hid k2'
  have HO := Lib.hid ho
  obtain ⟨au, cu, hu⟩ := ho.row.lenv
  subst hu
  clear ho o0 o1 o2 o3 o4 o5 r0 r1 r2 r3 r4 r5 a0 k1 k2 k2'
  obtain ⟨o0, o1, o2, o3, o4, o5⟩ := id A1
  obtain ⟨r0, r1, r2, r3, r4, r5⟩ := id R1
  simp only [zeroC] at r0 r1 r2 r3 r4
  cases hB : splB s.data.toList with
  | false =>
    generalize (spl s.data.toList).length = n at *
    go_wp2
    refine bodyPost_ret (v := .tuple #[.agg #[.int .i64 0, .int .i64 0, .float .f32 0, .float .f32 0, .float .f32 0, .slice none 0 0], .bool false]) ?_ rfl (TunedPost.no HFN.out ?_)
    · simp [results, Tryd.results46, go_sem, r0, r1, r2, r3, r4, r5]
    · exact below6 g1 (by omega) _ _ _ _ _ _
  | true =>
    by_cases h0 : spl s.data.toList = []
    · have hn : (spl s.data.toList).length = 0 := by rw [h0]; rfl
      generalize (spl s.data.toList).length = n at *
      subst hn
      clear h0
      go_wp2
      refine bodyPost_ret (v := .tuple #[.agg #[.int .i64 0, .int .i64 0, .float .f32 0, .float .f32 0, .float .f32 0, .slice none 0 0], .bool false]) ?_ rfl (TunedPost.no HFN.out ?_)
      · simp [results, Tryd.results46, go_sem, r0, r1, r2, r3, r4, r5]
      · exact below6 g1 (by omega) _ _ _ _ _ _
    · have hn : ¬ ((spl s.data.toList).length : Int) = 0 := by
        have := List.length_pos_iff.2 h0
        omega
      have hbf : setB ⟨xc, xr, xs, xl, xt⟩ ls.length = false := by
        rcases HNO.out with h | h | h
        · rw [hB] at h; cases h
        · exact absurd h h0
        · exact h
      have HK := Lib.hid (HOK w1 (HR.out.below g1)).out
      rw [hbf] at HK
      generalize (spl s.data.toList).length = n at *
      clear h0 hbf
      go_wp2_with fail
      refine HK.out.mono ?_
      rintro e w2 ⟨rfl, hb2⟩
      have g2 := below_trans g1 hb2 g1.size
      have R2 := R1.keep hb2 (by have := hb1.size; omega)
      obtain ⟨f0, f1, f2, f3, f4, f5⟩ := froz6 ((hb2.block (w.heap.size + 1) (by have := hb1.size; omega)).trans K2.out)
      clear r0 r1 r2 r3 r4 r5 s0 s1 s2 s3 s4 s5
      obtain ⟨r0, r1, r2, r3, r4, r5⟩ := id R2
      simp only [zeroC] at r0 r1 r2 r3 r4
      go_wp2
      refine bodyPost_ret (v := .tuple #[.agg #[.int .i64 0, .int .i64 0, .float .f32 0, .float .f32 0, .float .f32 0, .slice none 0 0], .bool false]) ?_ rfl (TunedPost.no HFN.out ?_)
      · simp [results, Tryd.results46, go_sem, r0, r1, r2, r3, r4, r5]
      · exact below6 g2 (by omega) _ _ _ _ _ _
end Go.Proofs.YtobpnoiienpipaaDoor
