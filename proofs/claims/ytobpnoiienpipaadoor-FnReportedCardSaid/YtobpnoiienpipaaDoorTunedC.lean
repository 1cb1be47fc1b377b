/-
  What is proved: the walk of tuned where the line names a command.
  Conditions: the log can be read; its texts and the line have at most 1048576 bytes each; the library's table of spaces holds what its initialiser lays.
-/
import Derived.Test.YtobpnoiienpipaaDoorPkTune
namespace Go.Proofs.YtobpnoiienpipaaDoor
set_option linter.unusedVariables false
open Go.RowKit
attribute [local go_sem] run_store_float run_store_complex unary_negf neg256

set_option maxRecDepth 100000 in
set_option maxHeartbeats 4000000 in
theorem tuned_cmd (F k : Nat) (hk4 : k < 4) (x : SetC) (v : Value) (ls : List (List UInt8)) (s : ByteArray) (w : World) (hx : x.ok) (h : TRow w v ls) (hs : Short ls) (hsz : s.size ≤ 1048576) (ht : TabS w)
    (n : List UInt8) (vs : List (List UInt8)) (hspb : splB s.data.toList = true) (hspl : spl s.data.toList = n :: vs) (hset : setB x ls.length = true) (hk : keyIx n = k) (hfnd : Instr.findNow .string (.string ⟨n.toArray⟩) cmdMap.toList 0 = some (some (k, .func (.func F) #[] #[]))) (heg : ∀ args W, (callFunc F args).run Tryd.prog W = .ok (.enter F args) W)
    (hcp : ∀ a0 n0 c0 u W, TRow W (.slice a0 n0 c0) ls → TRow W u vs → Calls Tryd.prog F #[x.val (.slice a0 n0 c0), u] W fun e w' => CmdPost k x (.slice a0 n0 c0) vs W e w') :
    Calls Tryd.prog 46 #[x.val v, .string s] w fun e w' => TunedPost x ls s.data.toList w e w' := by
  have hlog : ls.length ≤ 100 := by
    unfold setB at hset
    simp only [Bool.and_eq_true, decide_eq_true_eq] at hset
    exact hset.2.2.2.2.2.2.2.2
  have hsm := spl_small hspb
  rw [hspl] at hsm
  have HSM := Lib.hid hsm
  have HFN := Lib.hid (show tuneF x ls s.data.toList = (cmdF k x vs).bind fun y => if setB y (ls.length + 1) = true then some (y, ls ++ [Lib.join (n :: vs) [32]]) else none by
    have e : doF x (n :: vs) = cmdF k x vs := by
      show (if keyIx n < 4 then cmdF (keyIx n) x vs else none) = _
      rw [hk, if_pos hk4]
    unfold tuneF
    rw [hspb, hset, hspl, e]
    rfl)
  have HOWN := fun v W hr => Lib.hid (ownLog_any x v ls W hr hs)
  have HCMD := fun a0 n0 c0 u W hr hu => Lib.hid ((hcp a0 n0 c0 u W hr hu).mono (fun e w' h => CmdPost.out h))
  clear hcp
  have HJO := fun W cap base g h => Lib.hid (join_any g cap base (vs.length + 1) n vs W h rfl hsm.1 (by have := hsm.2; simp at this; omega))
  clear hk hsm
  obtain ⟨a, c, rfl⟩ := h.lenv
  obtain ⟨k1, k2, hsz2, hbl⟩ := alloc2 w (.cells (x.cells (.slice a ls.length c)) 27) (.cells #[.int .i64 0, .int .i64 0, .float .f32 0, .float .f32 0, .float .f32 0, .slice none 0 0] 27)
  have HSP := fun W hW => Lib.hid (splitFields_any s W hsz hW)
  have HOK := fun W hr => Lib.hid (setOk_any x (.slice a ls.length c) ls W hx hr hs.1)
  rw [hset] at HOK
  have HR := Lib.hid h
  have HTS := Lib.hid ht
  have HSH := Lib.hid hs
  have HX := Lib.hid hx
  have a0 := SetAt.of k1
  obtain ⟨r0, r1, r2, r3, r4, r5⟩ := SetAt.of (x := zeroC) (v := .slice none 0 0) k2
  obtain ⟨xc, xr, xs, xl, xt⟩ := x
  simp only [SetC.val, SetC.cells, zeroC] at *
  obtain ⟨o0, o1, o2, o3, o4, o5⟩ := id a0
  have HSPL := Lib.hid hspl
  have HFND := Lib.hid hfnd
  clear h ht hx hs hset hfnd
  go_enter Tryd.func46, Tryd.ntmps46
  go_wp2_with fail
  generalize World.alloc (World.alloc w _) _ = X at *
  refine (HSP X (HTS.out.below hbl)).out.mono ?_
  rintro e w1 ⟨u, rfl, ho, hb1⟩
  rw [hspb]
  rw [hspl] at ho
  have g1 := below_trans hbl hb1 hbl.size
  have A1 := a0.keep hb1 (by omega)
  have R1 := (show SetAt X (w.heap.size + 1) zeroC (.slice none 0 0) from ⟨r0, r1, r2, r3, r4, r5⟩).keep hb1 (by omega)
  have K2 := Lib.hid ((hb1.block _ (by omega)).trans k2)
  have HO := Lib.hid ho
  rcases ho.shape with ⟨_, e⟩ | ⟨g, cap, hu, hgb, hgl, hcap, _⟩
  · cases e
  subst hu
  have hz1 : w.heap.size + 2 ≤ w1.heap.size := by have := hb1.size; omega
  have hcell0 := (ho.cell 0 (by simp)).1
  simp only [List.getElem_cons_zero, List.length_cons] at hcell0 hcap
  have hgne : ¬ g = w.heap.size ∧ ¬ g = w.heap.size + 1 := ⟨by omega, by omega⟩
  unfold strV at hcell0
  have hnl : ¬ ((vs.length + 1 : Nat) : Int) = 0 := by omega
  have hnl2 : ¬ ((vs.length : Int) + 1) = 0 := by omega
  have hnl3 : (0 : Int) < (vs.length : Int) + 1 := by omega
  have HCAP := Lib.hid hcap
  clear ho o0 o1 o2 o3 o4 o5 r0 r1 r2 r3 r4 r5 a0 k1 k2 hspl hspb hb1
  obtain ⟨o0, o1, o2, o3, o4, o5⟩ := id A1
  simp only [List.length_cons]
  go_wp2_with fail
  refine (HOK w1 (HR.out.below g1)).out.mono ?_
  rintro e w2 ⟨rfl, hb2⟩
  have g2 := below_trans g1 hb2 g1.size
  have A2 := A1.keep hb2 (by omega)
  have R2 := R1.keep hb2 (by omega)
  have K3 := Lib.hid ((hb2.block (w.heap.size + 1) (by omega)).trans K2.out)
  have hc2 : w2.cell? ⟨g, 0, none⟩ = some (.string ⟨n.toArray⟩) := (hb2.cell (p := ⟨g, 0, none⟩) hgl).trans hcell0
  have HO2 := Lib.hid (HO.out.below hb2)
  have hz2 : w.heap.size + 2 ≤ w2.heap.size := by have := hb2.size; omega
  have hgl2 : g < w2.heap.size := Nat.lt_of_lt_of_le hgl hb2.size
  clear o0 o1 o2 o3 o4 o5 hcell0 HO K2 A1 R1 hb2 HOK HSP g1 hz1 hgl
  generalize (⟨n.toArray⟩ : ByteArray) = sk at *
  go_wp2
  go_region_held3 (fun V => Below w2.heap.size w2 V ∧ V.cell? ⟨g, 0, none⟩ = some (.string sk)) (first | exact KK | exact ⟨(Below.refl _ _).drew, hc2⟩ | go_keep) (first
    | (go_at_call 74; refine (commands_any _).mono ?_; rintro e w3 ⟨rfl, hm3, hb3⟩; have hlk := get_some (r := w2.heap.size) hm3 sk HFND.out; have KK := And.intro (show Below w2.heap.size w2 w3 from (Below.refl _ _).drew.trans (hb3.mono (Nat.le_refl _))) ((hb3.cell (p := ⟨g, 0, none⟩) hgl2).trans (show w2.drew.cell? ⟨g, 0, none⟩ = some (.string sk) from hc2))))
  have g3 := below_trans g2 KK.1 g2.size
  have A3 := A2.keep KK.1 (by omega)
  have R3 := R2.keep KK.1 (by omega)
  have K4 := Lib.hid ((KK.1.block (w.heap.size + 1) (by omega)).trans K3.out)
  have HO3 := Lib.hid (HO2.out.below KK.1)
  have hz3 : w.heap.size + 2 ≤ w3.heap.size := by have := KK.1.size; omega
  have hgl3 : g < w3.heap.size := by have := KK.1.size; omega
  obtain ⟨o0, o1, o2, o3, o4, o5⟩ := id A3
  clear KK hlk hm3 hb3 hc2 K3 HO2 A2 R2 g2 HFND hz2 hgl2 hnl hnl2 hnl3
  go_wp2
  apply share
  · intro TAIL
    by_cases hcap1 : ¬ cap = 1
    · have hc1 : ¬ cap - 1 = 0 := by have := HCAP.out; omega
      have hl1 : (1 : Int) ≤ (vs.length : Int) + 1 := by omega
      have Z1 := fun (W : World) (hb : Below (w3.alloc (.cells #[.int .i64 0, .int .i64 0, .float .f32 0, .float .f32 0, .float .f32 0, .slice none 0 0] 27)).drew.heap.size (w3.alloc (.cells #[.int .i64 0, .int .i64 0, .float .f32 0, .float .f32 0, .float .f32 0, .slice none 0 0] 27)).drew W) => show W.heap[w3.heap.size]? = some (.cells #[.int .i64 0, .int .i64 0, .float .f32 0, .float .f32 0, .float .f32 0, .slice none 0 0] 27 (0, 0)) from (hb.block w3.heap.size (show w3.heap.size < (w3.alloc (.cells #[.int .i64 0, .int .i64 0, .float .f32 0, .float .f32 0, .float .f32 0, .slice none 0 0] 27)).heap.size by simp)).trans (heap_alloc_new w3 _)
      have Z2 := fun (V W : World) (hb : Below (V.alloc (.cells #[.int .i64 0, .int .i64 0, .float .f32 0, .float .f32 0, .float .f32 0, .slice none 0 0] 27)).heap.size (V.alloc (.cells #[.int .i64 0, .int .i64 0, .float .f32 0, .float .f32 0, .float .f32 0, .slice none 0 0] 27)) W) => show W.heap[V.heap.size]? = some (.cells #[.int .i64 0, .int .i64 0, .float .f32 0, .float .f32 0, .float .f32 0, .slice none 0 0] 27 (0, 0)) from (hb.block V.heap.size (by simp)).trans (heap_alloc_new V _)
      have hne1 : ¬ w.heap.size = w3.heap.size := by omega
      have hne2 : ¬ w3.heap.size = w.heap.size := by omega
      obtain ⟨e0, e1, e2, e3, e4, e5⟩ := (show SetAt w3.drew w.heap.size ⟨xc, xr, xs, xl, xt⟩ (.slice a ls.length c) from A3).keep ((Below.refl w3.drew.heap.size w3.drew).alloc (Nat.le_refl _) (.cells #[.int .i64 0, .int .i64 0, .float .f32 0, .float .f32 0, .float .f32 0, .slice none 0 0] 27)) (by show w.heap.size < w3.heap.size; omega)
      have KO := And.intro (Below.refl w3.heap.size w3).drew (show SetAt w3.drew w.heap.size ⟨xc, xr, xs, xl, xt⟩ (.slice a ls.length c) from A3)
      have KE := And.intro (show Below w3.heap.size w3 (w3.alloc (.cells #[.int .i64 0, .int .i64 0, .float .f32 0, .float .f32 0, .float .f32 0, .slice none 0 0] 27)).drew from ((Below.refl w3.heap.size w3).alloc (Nat.le_refl _) (.cells #[.int .i64 0, .int .i64 0, .float .f32 0, .float .f32 0, .float .f32 0, .slice none 0 0] 27)).drew) (show SetAt (w3.alloc (.cells #[.int .i64 0, .int .i64 0, .float .f32 0, .float .f32 0, .float .f32 0, .slice none 0 0] 27)).drew w.heap.size ⟨xc, xr, xs, xl, xt⟩ (.slice a ls.length c) from And.intro e0 (And.intro e1 (And.intro e2 (And.intro e3 (And.intro e4 e5)))))
      have HZ1 := Lib.hid Z1
      have HZ2 := Lib.hid Z2
      clear Z1 Z2
      go_region_held3 (fun V => Below w3.heap.size w3 V ∧ V.cell? ⟨w.heap.size, 0, none⟩ = some (.int .i64 xc) ∧ V.cell? ⟨w.heap.size, 1, none⟩ = some (.int .i64 xr) ∧ V.cell? ⟨w.heap.size, 2, none⟩ = some (.float .f32 xs) ∧ V.cell? ⟨w.heap.size, 3, none⟩ = some (.float .f32 xl) ∧ V.cell? ⟨w.heap.size, 4, none⟩ = some (.float .f32 xt) ∧ V.cell? ⟨w.heap.size, 5, none⟩ = some (.slice a ls.length c)) (with_reducible (first | exact KS _ _ _ _ _ _ | exact KA _ | exact KK2 | exact KK | exact KE | exact KO)) (first
        | (go_at_call 45
           refine (HOWN _ _ (HR.out.below (by first | exact g3.drew | exact (g3.alloc g3.size _).drew))).out.mono ?_
           rintro e w4 ⟨v4, rfl, ho4, hb4⟩
           obtain ⟨a4, c4, rfl⟩ := ho4.row.lenv
           have KB : Below w3.heap.size w3 w4 := by first | exact (Below.refl _ _).drew.trans (hb4.mono (Nat.le_refl _)) | exact ((Below.refl w3.heap.size w3).alloc (Nat.le_refl _) (.cells #[.int .i64 0, .int .i64 0, .float .f32 0, .float .f32 0, .float .f32 0, .slice none 0 0] 27)).drew.trans (hb4.mono (show w3.heap.size ≤ (w3.alloc (.cells #[.int .i64 0, .int .i64 0, .float .f32 0, .float .f32 0, .float .f32 0, .slice none 0 0] 27)).heap.size by simp))
           first | (have hz4 := HZ1.out _ hb4) | skip
           have KK := And.intro KB (A3.keep KB (by omega))
           have KA := fun o : Obj => And.intro (KB.alloc KB.size o) (KK.2.keep ((Below.refl w4.heap.size w4).alloc (Nat.le_refl _) o) (by have := KB.size; omega)))
        | (with_reducible refine (?_ : Calls Tryd.prog F _ _ _)
           refine (HCMD _ _ _ _ _ (by first | exact ho4.row | exact (ho4.alloc _).row) (tail_row (by first | exact HO3.out.below KB | exact (HO3.out.below KB).alloc _))).out.mono ?_
           rintro e w5 ⟨yc, yr, ys, yl, yt, a5, n5, c5, b5, rfl, hv5, hy5, hn5, hb5⟩
           have KB2 : Below w3.heap.size w3 w5 := by first | exact below_trans KB hb5 KB.size | exact below_trans (KB.alloc KB.size _) hb5 (by have := KB.size; simp; omega)
           have KK2 := And.intro KB2 (A3.keep KB2 (by omega))
           first
             | (have hz5 := (hb5.block w3.heap.size (Array.getElem?_eq_some_iff.1 hz4).1).trans hz4
                have KS := fun x0 x1 x2 x3 x4 x5 => And.intro (below6 KB2 (Nat.le_refl w3.heap.size) x0 x1 x2 x3 x4 x5) (KK2.2.put6 hne2 x0 x1 x2 x3 x4 x5)
                obtain ⟨u0, u1, u2, u3, u4, u5⟩ := SetAt.of (x := zeroC) (v := .slice none 0 0) hz5
                obtain ⟨v0, v1, v2, v3, v4, v5⟩ := froz6 hz5
                simp only [zeroC] at u0 u1 u2 u3 u4)
             | (have hz5 := HZ2.out _ _ hb5
                have KS := fun x0 x1 x2 x3 x4 x5 => And.intro (below6 KB2 KB.size x0 x1 x2 x3 x4 x5) (KK2.2.put6 (b := w4.heap.size) (by have := KB.size; omega) x0 x1 x2 x3 x4 x5)
                obtain ⟨u0, u1, u2, u3, u4, u5⟩ := SetAt.of (x := zeroC) (v := .slice none 0 0) hz5
                obtain ⟨v0, v1, v2, v3, v4, v5⟩ := froz6 hz5
                simp only [zeroC] at u0 u1 u2 u3 u4)
             | skip
           have KA := fun o : Obj => And.intro (KB2.alloc KB2.size o) (KK2.2.keep ((Below.refl w5.heap.size w5).alloc (Nat.le_refl _) o) (by have := KB2.size; omega))))
      all_goals
        first
            | (generalize hW : World.alloc w5 _ = W7
               obtain ⟨b9, hb9⟩ : ∃ b9, b9 = w5.heap.size := ⟨_, rfl⟩
               have hg7 : W7.heap[b9]? = some (.cells #[.int .i64 yc, .int .i64 yr, .float .f32 ys, .float .f32 yl, .float .f32 yt, .slice a5 n5 c5] 27 (0, 0)) := by rw [← hW, hb9]; exact heap_alloc_new w5 _
               have hnb : ∀ k, (Value.slice a4 ls.length c4).ownBlock = some k → k ≠ b9 := fun k hk => by have h1 := (ho4.lt k hk).2; have h2 := hb5.size; rw [hb9]; omega
               have hge : w3.heap.size ≤ b9 := by rw [hb9]; exact KB2.size
               have hb7 : Below w3.heap.size w3 W7 := by rw [← hW]; exact KB2.alloc KB2.size _
               have hog : OwnS W7 w3.heap.size (.slice a4 ls.length c4) ls := by rw [← hW]; exact (((ho4.low (by first | exact Nat.le_refl _ | (show w3.heap.size ≤ (w3.alloc (.cells #[.int .i64 0, .int .i64 0, .float .f32 0, .float .f32 0, .float .f32 0, .slice none 0 0] 27)).heap.size; simp))).below hb5).alloc _)
               rw [← hb9]
               clear hb9 hW)
            | (have hgd : w5.heap[w4.heap.size]? = some (.cells #[.int .i64 0, .int .i64 0, .float .f32 0, .float .f32 0, .float .f32 0, .slice none 0 0] 27 (0, 0)) := hz5
               generalize hW : World.setCell (World.setCell (World.setCell (World.setCell (World.setCell (World.setCell w5 ⟨w4.heap.size, 0, none⟩ _) ⟨w4.heap.size, 1, none⟩ _) ⟨w4.heap.size, 2, none⟩ _) ⟨w4.heap.size, 3, none⟩ _) ⟨w4.heap.size, 4, none⟩ _) ⟨w4.heap.size, 5, none⟩ _ = W7
               obtain ⟨b9, hb9⟩ : ∃ b9, b9 = w4.heap.size := ⟨_, rfl⟩
               have hg7 : W7.heap[b9]? = some (.cells #[.int .i64 yc, .int .i64 yr, .float .f32 ys, .float .f32 yl, .float .f32 yt, .slice a5 n5 c5] 27 (0, 0)) := by rw [← hW, hb9]; exact heap_put6 hz5 _ _ _ _ _ _
               have hnb : ∀ k, (Value.slice a4 ls.length c4).ownBlock = some k → k ≠ b9 := fun k hk => by have h1 := (ho4.lt k hk).2; rw [hb9]; omega
               have hge : w3.heap.size ≤ b9 := by rw [hb9]; exact KB.size
               have hb7 : Below w3.heap.size w3 W7 := by rw [← hW]; exact below6 KB2 KB.size _ _ _ _ _ _
               have hog : OwnS W7 w3.heap.size (.slice a4 ls.length c4) ls := by rw [← hW]; exact ((((ho4.low (by first | exact Nat.le_refl _ | (show w3.heap.size ≤ (w3.alloc (.cells #[.int .i64 0, .int .i64 0, .float .f32 0, .float .f32 0, .float .f32 0, .slice none 0 0] 27)).heap.size; simp))).alloc _).below hb5).put6 (fun k hk => by have := (ho4.lt k hk).2; omega) _ _ _ _ _ _)
               rw [← hb9]
               clear hb9 hW)
            | (have hgd : w5.heap[w3.heap.size]? = some (.cells #[.int .i64 0, .int .i64 0, .float .f32 0, .float .f32 0, .float .f32 0, .slice none 0 0] 27 (0, 0)) := hz5
               generalize hW : World.setCell (World.setCell (World.setCell (World.setCell (World.setCell (World.setCell w5 ⟨w3.heap.size, 0, none⟩ _) ⟨w3.heap.size, 1, none⟩ _) ⟨w3.heap.size, 2, none⟩ _) ⟨w3.heap.size, 3, none⟩ _) ⟨w3.heap.size, 4, none⟩ _) ⟨w3.heap.size, 5, none⟩ _ = W7
               obtain ⟨b9, hb9⟩ : ∃ b9, b9 = w3.heap.size := ⟨_, rfl⟩
               have hg7 : W7.heap[b9]? = some (.cells #[.int .i64 yc, .int .i64 yr, .float .f32 ys, .float .f32 yl, .float .f32 yt, .slice a5 n5 c5] 27 (0, 0)) := by rw [← hW, hb9]; exact heap_put6 hz5 _ _ _ _ _ _
               have hnb : ∀ k, (Value.slice a4 ls.length c4).ownBlock = some k → k ≠ b9 := fun k hk => by rw [hb9]; exact ne_alloc (ho4.lt k hk).1
               have hge : w3.heap.size ≤ b9 := by rw [hb9]; exact Nat.le_refl _
               have hb7 : Below w3.heap.size w3 W7 := by rw [← hW]; exact below6 KB2 (Nat.le_refl _) _ _ _ _ _ _
               have hog : OwnS W7 w3.heap.size (.slice a4 ls.length c4) ls := by rw [← hW]; exact (((ho4.low (by first | exact Nat.le_refl _ | (show w3.heap.size ≤ (w3.alloc (.cells #[.int .i64 0, .int .i64 0, .float .f32 0, .float .f32 0, .float .f32 0, .slice none 0 0] 27)).heap.size; simp))).below hb5).put6 (fun k hk => ne_alloc (ho4.lt k hk).1) _ _ _ _ _ _)
               rw [← hb9]
               clear hb9 hW)
        have g7 := below_trans g3 hb7 g3.size
        have HG7 := Lib.hid hg7
        have HO7 := Lib.hid (HO3.out.below hb7)
        have K7 := Lib.hid ((hb7.block (w.heap.size + 1) (by omega)).trans K4.out)
        have hz7 : w3.heap.size ≤ W7.heap.size := hb7.size
        have hl7 : b9 < W7.heap.size := (Array.getElem?_eq_some_iff.1 hg7).1
        obtain ⟨ls5, ho5, hl5, hls5, hnb5⟩ : ∃ ls5, OwnS W7 w3.heap.size (.slice a5 n5 c5) ls5 ∧ ls5.length ≤ ls.length ∧ (b5 = true → ls5 = ls) ∧ ∀ k, (Value.slice a5 n5 c5).ownBlock = some k → k ≠ b9 := by
          rcases hv5 with e | e
          · exact ⟨ls, by rw [e]; exact hog, Nat.le_refl _, fun _ => rfl, by rw [e]; exact hnb⟩
          · refine ⟨[], by rw [e]; exact OwnS.nil _ _, Nat.zero_le _, fun hb => ?_, by rw [e]; intro k hk; cases hk⟩
            have h1 := (hy5 hb).1
            rw [e] at h1
            rw [← h1] at hog
            rcases hog.shape with ⟨_, e2⟩ | ⟨_, _, e2, _⟩
            · exact e2.symm
            · cases e2
        have HO5 := Lib.hid ho5
        have HNB := Lib.hid hnb5
        have HLS5 := Lib.hid hls5
        have HY5 := Lib.hid (fun hb => (hy5 hb).2)
        have HN5 := Lib.hid hn5
        have hls : ls5.length ≤ 100 := by omega
        obtain ⟨q0, q1, q2, q3, q4, q5⟩ : SetAt W7 b9 ⟨yc, yr, ys, yl, yt⟩ (.slice a5 n5 c5) := SetAt.of hg7
        clear e0 e1 e2 e3 e4 e5 hv5 hy5 hn5 hnb5 hnb hog ho5 hls5 hg7 KE KO HZ1 HZ2 KB KB2 KK KK2 KA hb5 hb4 ho4 hb7
        generalize Value.slice (some ⟨g, 1, none⟩) vs.length (cap - 1) = vt at *
        try clear u0 u1 u2 u3 u4 u5 v0 v1 v2 v3 v4 v5 KS hz5 hgd
        try clear hz4
        rename_i hHeld
        clear hHeld
        revert W7 b9 yc yr ys yl yt a5 n5 c5 b5 ls5 vt a4 c4
        exact TAIL.out
    · have hc1 : cap - 1 = 0 := by omega
      have hle1 : (1 : Int) ≤ (cap : Int) := by omega
      clear hcap1
      have hl1 : (1 : Int) ≤ (vs.length : Int) + 1 := by omega
      have Z1 := fun (W : World) (hb : Below (w3.alloc (.cells #[.int .i64 0, .int .i64 0, .float .f32 0, .float .f32 0, .float .f32 0, .slice none 0 0] 27)).drew.heap.size (w3.alloc (.cells #[.int .i64 0, .int .i64 0, .float .f32 0, .float .f32 0, .float .f32 0, .slice none 0 0] 27)).drew W) => show W.heap[w3.heap.size]? = some (.cells #[.int .i64 0, .int .i64 0, .float .f32 0, .float .f32 0, .float .f32 0, .slice none 0 0] 27 (0, 0)) from (hb.block w3.heap.size (show w3.heap.size < (w3.alloc (.cells #[.int .i64 0, .int .i64 0, .float .f32 0, .float .f32 0, .float .f32 0, .slice none 0 0] 27)).heap.size by simp)).trans (heap_alloc_new w3 _)
      have Z2 := fun (V W : World) (hb : Below (V.alloc (.cells #[.int .i64 0, .int .i64 0, .float .f32 0, .float .f32 0, .float .f32 0, .slice none 0 0] 27)).heap.size (V.alloc (.cells #[.int .i64 0, .int .i64 0, .float .f32 0, .float .f32 0, .float .f32 0, .slice none 0 0] 27)) W) => show W.heap[V.heap.size]? = some (.cells #[.int .i64 0, .int .i64 0, .float .f32 0, .float .f32 0, .float .f32 0, .slice none 0 0] 27 (0, 0)) from (hb.block V.heap.size (by simp)).trans (heap_alloc_new V _)
      have hne1 : ¬ w.heap.size = w3.heap.size := by omega
      have hne2 : ¬ w3.heap.size = w.heap.size := by omega
      obtain ⟨e0, e1, e2, e3, e4, e5⟩ := (show SetAt w3.drew w.heap.size ⟨xc, xr, xs, xl, xt⟩ (.slice a ls.length c) from A3).keep ((Below.refl w3.drew.heap.size w3.drew).alloc (Nat.le_refl _) (.cells #[.int .i64 0, .int .i64 0, .float .f32 0, .float .f32 0, .float .f32 0, .slice none 0 0] 27)) (by show w.heap.size < w3.heap.size; omega)
      have KO := And.intro (Below.refl w3.heap.size w3).drew (show SetAt w3.drew w.heap.size ⟨xc, xr, xs, xl, xt⟩ (.slice a ls.length c) from A3)
      have KE := And.intro (show Below w3.heap.size w3 (w3.alloc (.cells #[.int .i64 0, .int .i64 0, .float .f32 0, .float .f32 0, .float .f32 0, .slice none 0 0] 27)).drew from ((Below.refl w3.heap.size w3).alloc (Nat.le_refl _) (.cells #[.int .i64 0, .int .i64 0, .float .f32 0, .float .f32 0, .float .f32 0, .slice none 0 0] 27)).drew) (show SetAt (w3.alloc (.cells #[.int .i64 0, .int .i64 0, .float .f32 0, .float .f32 0, .float .f32 0, .slice none 0 0] 27)).drew w.heap.size ⟨xc, xr, xs, xl, xt⟩ (.slice a ls.length c) from And.intro e0 (And.intro e1 (And.intro e2 (And.intro e3 (And.intro e4 e5)))))
      have HZ1 := Lib.hid Z1
      have HZ2 := Lib.hid Z2
      clear Z1 Z2
      go_region_held3 (fun V => Below w3.heap.size w3 V ∧ V.cell? ⟨w.heap.size, 0, none⟩ = some (.int .i64 xc) ∧ V.cell? ⟨w.heap.size, 1, none⟩ = some (.int .i64 xr) ∧ V.cell? ⟨w.heap.size, 2, none⟩ = some (.float .f32 xs) ∧ V.cell? ⟨w.heap.size, 3, none⟩ = some (.float .f32 xl) ∧ V.cell? ⟨w.heap.size, 4, none⟩ = some (.float .f32 xt) ∧ V.cell? ⟨w.heap.size, 5, none⟩ = some (.slice a ls.length c)) (with_reducible (first | exact KS _ _ _ _ _ _ | exact KA _ | exact KK2 | exact KK | exact KE | exact KO)) (first
        | (go_at_call 45
           refine (HOWN _ _ (HR.out.below (by first | exact g3.drew | exact (g3.alloc g3.size _).drew))).out.mono ?_
           rintro e w4 ⟨v4, rfl, ho4, hb4⟩
           obtain ⟨a4, c4, rfl⟩ := ho4.row.lenv
           have KB : Below w3.heap.size w3 w4 := by first | exact (Below.refl _ _).drew.trans (hb4.mono (Nat.le_refl _)) | exact ((Below.refl w3.heap.size w3).alloc (Nat.le_refl _) (.cells #[.int .i64 0, .int .i64 0, .float .f32 0, .float .f32 0, .float .f32 0, .slice none 0 0] 27)).drew.trans (hb4.mono (show w3.heap.size ≤ (w3.alloc (.cells #[.int .i64 0, .int .i64 0, .float .f32 0, .float .f32 0, .float .f32 0, .slice none 0 0] 27)).heap.size by simp))
           first | (have hz4 := HZ1.out _ hb4) | skip
           have KK := And.intro KB (A3.keep KB (by omega))
           have KA := fun o : Obj => And.intro (KB.alloc KB.size o) (KK.2.keep ((Below.refl w4.heap.size w4).alloc (Nat.le_refl _) o) (by have := KB.size; omega)))
        | (with_reducible refine (?_ : Calls Tryd.prog F _ _ _)
           refine (HCMD _ _ _ _ _ (by first | exact ho4.row | exact (ho4.alloc _).row) (tail_row0 (by have := HCAP.out; omega) (by omega))).out.mono ?_
           rintro e w5 ⟨yc, yr, ys, yl, yt, a5, n5, c5, b5, rfl, hv5, hy5, hn5, hb5⟩
           have KB2 : Below w3.heap.size w3 w5 := by first | exact below_trans KB hb5 KB.size | exact below_trans (KB.alloc KB.size _) hb5 (by have := KB.size; simp; omega)
           have KK2 := And.intro KB2 (A3.keep KB2 (by omega))
           first
             | (have hz5 := (hb5.block w3.heap.size (Array.getElem?_eq_some_iff.1 hz4).1).trans hz4
                have KS := fun x0 x1 x2 x3 x4 x5 => And.intro (below6 KB2 (Nat.le_refl w3.heap.size) x0 x1 x2 x3 x4 x5) (KK2.2.put6 hne2 x0 x1 x2 x3 x4 x5)
                obtain ⟨u0, u1, u2, u3, u4, u5⟩ := SetAt.of (x := zeroC) (v := .slice none 0 0) hz5
                obtain ⟨v0, v1, v2, v3, v4, v5⟩ := froz6 hz5
                simp only [zeroC] at u0 u1 u2 u3 u4)
             | (have hz5 := HZ2.out _ _ hb5
                have KS := fun x0 x1 x2 x3 x4 x5 => And.intro (below6 KB2 KB.size x0 x1 x2 x3 x4 x5) (KK2.2.put6 (b := w4.heap.size) (by have := KB.size; omega) x0 x1 x2 x3 x4 x5)
                obtain ⟨u0, u1, u2, u3, u4, u5⟩ := SetAt.of (x := zeroC) (v := .slice none 0 0) hz5
                obtain ⟨v0, v1, v2, v3, v4, v5⟩ := froz6 hz5
                simp only [zeroC] at u0 u1 u2 u3 u4)
             | skip
           have KA := fun o : Obj => And.intro (KB2.alloc KB2.size o) (KK2.2.keep ((Below.refl w5.heap.size w5).alloc (Nat.le_refl _) o) (by have := KB2.size; omega))))
      all_goals
        first
            | (generalize hW : World.alloc w5 _ = W7
               obtain ⟨b9, hb9⟩ : ∃ b9, b9 = w5.heap.size := ⟨_, rfl⟩
               have hg7 : W7.heap[b9]? = some (.cells #[.int .i64 yc, .int .i64 yr, .float .f32 ys, .float .f32 yl, .float .f32 yt, .slice a5 n5 c5] 27 (0, 0)) := by rw [← hW, hb9]; exact heap_alloc_new w5 _
               have hnb : ∀ k, (Value.slice a4 ls.length c4).ownBlock = some k → k ≠ b9 := fun k hk => by have h1 := (ho4.lt k hk).2; have h2 := hb5.size; rw [hb9]; omega
               have hge : w3.heap.size ≤ b9 := by rw [hb9]; exact KB2.size
               have hb7 : Below w3.heap.size w3 W7 := by rw [← hW]; exact KB2.alloc KB2.size _
               have hog : OwnS W7 w3.heap.size (.slice a4 ls.length c4) ls := by rw [← hW]; exact (((ho4.low (by first | exact Nat.le_refl _ | (show w3.heap.size ≤ (w3.alloc (.cells #[.int .i64 0, .int .i64 0, .float .f32 0, .float .f32 0, .float .f32 0, .slice none 0 0] 27)).heap.size; simp))).below hb5).alloc _)
               rw [← hb9]
               clear hb9 hW)
            | (have hgd : w5.heap[w4.heap.size]? = some (.cells #[.int .i64 0, .int .i64 0, .float .f32 0, .float .f32 0, .float .f32 0, .slice none 0 0] 27 (0, 0)) := hz5
               generalize hW : World.setCell (World.setCell (World.setCell (World.setCell (World.setCell (World.setCell w5 ⟨w4.heap.size, 0, none⟩ _) ⟨w4.heap.size, 1, none⟩ _) ⟨w4.heap.size, 2, none⟩ _) ⟨w4.heap.size, 3, none⟩ _) ⟨w4.heap.size, 4, none⟩ _) ⟨w4.heap.size, 5, none⟩ _ = W7
               obtain ⟨b9, hb9⟩ : ∃ b9, b9 = w4.heap.size := ⟨_, rfl⟩
               have hg7 : W7.heap[b9]? = some (.cells #[.int .i64 yc, .int .i64 yr, .float .f32 ys, .float .f32 yl, .float .f32 yt, .slice a5 n5 c5] 27 (0, 0)) := by rw [← hW, hb9]; exact heap_put6 hz5 _ _ _ _ _ _
               have hnb : ∀ k, (Value.slice a4 ls.length c4).ownBlock = some k → k ≠ b9 := fun k hk => by have h1 := (ho4.lt k hk).2; rw [hb9]; omega
               have hge : w3.heap.size ≤ b9 := by rw [hb9]; exact KB.size
               have hb7 : Below w3.heap.size w3 W7 := by rw [← hW]; exact below6 KB2 KB.size _ _ _ _ _ _
               have hog : OwnS W7 w3.heap.size (.slice a4 ls.length c4) ls := by rw [← hW]; exact ((((ho4.low (by first | exact Nat.le_refl _ | (show w3.heap.size ≤ (w3.alloc (.cells #[.int .i64 0, .int .i64 0, .float .f32 0, .float .f32 0, .float .f32 0, .slice none 0 0] 27)).heap.size; simp))).alloc _).below hb5).put6 (fun k hk => by have := (ho4.lt k hk).2; omega) _ _ _ _ _ _)
               rw [← hb9]
               clear hb9 hW)
            | (have hgd : w5.heap[w3.heap.size]? = some (.cells #[.int .i64 0, .int .i64 0, .float .f32 0, .float .f32 0, .float .f32 0, .slice none 0 0] 27 (0, 0)) := hz5
               generalize hW : World.setCell (World.setCell (World.setCell (World.setCell (World.setCell (World.setCell w5 ⟨w3.heap.size, 0, none⟩ _) ⟨w3.heap.size, 1, none⟩ _) ⟨w3.heap.size, 2, none⟩ _) ⟨w3.heap.size, 3, none⟩ _) ⟨w3.heap.size, 4, none⟩ _) ⟨w3.heap.size, 5, none⟩ _ = W7
               obtain ⟨b9, hb9⟩ : ∃ b9, b9 = w3.heap.size := ⟨_, rfl⟩
               have hg7 : W7.heap[b9]? = some (.cells #[.int .i64 yc, .int .i64 yr, .float .f32 ys, .float .f32 yl, .float .f32 yt, .slice a5 n5 c5] 27 (0, 0)) := by rw [← hW, hb9]; exact heap_put6 hz5 _ _ _ _ _ _
               have hnb : ∀ k, (Value.slice a4 ls.length c4).ownBlock = some k → k ≠ b9 := fun k hk => by rw [hb9]; exact ne_alloc (ho4.lt k hk).1
               have hge : w3.heap.size ≤ b9 := by rw [hb9]; exact Nat.le_refl _
               have hb7 : Below w3.heap.size w3 W7 := by rw [← hW]; exact below6 KB2 (Nat.le_refl _) _ _ _ _ _ _
               have hog : OwnS W7 w3.heap.size (.slice a4 ls.length c4) ls := by rw [← hW]; exact (((ho4.low (by first | exact Nat.le_refl _ | (show w3.heap.size ≤ (w3.alloc (.cells #[.int .i64 0, .int .i64 0, .float .f32 0, .float .f32 0, .float .f32 0, .slice none 0 0] 27)).heap.size; simp))).below hb5).put6 (fun k hk => ne_alloc (ho4.lt k hk).1) _ _ _ _ _ _)
               rw [← hb9]
               clear hb9 hW)
        have g7 := below_trans g3 hb7 g3.size
        have HG7 := Lib.hid hg7
        have HO7 := Lib.hid (HO3.out.below hb7)
        have K7 := Lib.hid ((hb7.block (w.heap.size + 1) (by omega)).trans K4.out)
        have hz7 : w3.heap.size ≤ W7.heap.size := hb7.size
        have hl7 : b9 < W7.heap.size := (Array.getElem?_eq_some_iff.1 hg7).1
        obtain ⟨ls5, ho5, hl5, hls5, hnb5⟩ : ∃ ls5, OwnS W7 w3.heap.size (.slice a5 n5 c5) ls5 ∧ ls5.length ≤ ls.length ∧ (b5 = true → ls5 = ls) ∧ ∀ k, (Value.slice a5 n5 c5).ownBlock = some k → k ≠ b9 := by
          rcases hv5 with e | e
          · exact ⟨ls, by rw [e]; exact hog, Nat.le_refl _, fun _ => rfl, by rw [e]; exact hnb⟩
          · refine ⟨[], by rw [e]; exact OwnS.nil _ _, Nat.zero_le _, fun hb => ?_, by rw [e]; intro k hk; cases hk⟩
            have h1 := (hy5 hb).1
            rw [e] at h1
            rw [← h1] at hog
            rcases hog.shape with ⟨_, e2⟩ | ⟨_, _, e2, _⟩
            · exact e2.symm
            · cases e2
        have HO5 := Lib.hid ho5
        have HNB := Lib.hid hnb5
        have HLS5 := Lib.hid hls5
        have HY5 := Lib.hid (fun hb => (hy5 hb).2)
        have HN5 := Lib.hid hn5
        have hls : ls5.length ≤ 100 := by omega
        obtain ⟨q0, q1, q2, q3, q4, q5⟩ : SetAt W7 b9 ⟨yc, yr, ys, yl, yt⟩ (.slice a5 n5 c5) := SetAt.of hg7
        clear e0 e1 e2 e3 e4 e5 hv5 hy5 hn5 hnb5 hnb hog ho5 hls5 hg7 KE KO HZ1 HZ2 KB KB2 KK KK2 KA hb5 hb4 ho4 hb7
        generalize Value.slice (some ⟨g, 0, none⟩) vs.length 0 = vt at *
        try clear u0 u1 u2 u3 u4 u5 v0 v1 v2 v3 v4 v5 KS hz5 hgd
        try clear hz4
        rename_i hHeld
        clear hHeld
        revert W7 b9 yc yr ys yl yt a5 n5 c5 b5 ls5 vt a4 c4
        have hcv : cap = 1 := by have := HCAP.out; omega
        subst hcv
        exact TAIL.out
  · intro a4 c4 yc yr ys yl yt a5 n5 c5 b5 W7 b9 hge g7 HG7 HO7 K7 hz7 hl7 ls5 hl5 HO5 HNB HLS5 HY5 HN5 hls q0 q1 q2 q3 q4 q5 vt
    go_wp2
    apply share
    · intro TAIL2
      go_region_law (first
        | ((try go_simp); go_at_call 59
           refine (HJO _ _ _ _ (HO7.out.below (Below.refl _ _).drew)).out.mono ?_
           rintro e w8 ⟨rfl, hb8⟩
           have KB8 : Below W7.heap.size W7 w8 := (Below.refl _ _).drew.trans (hb8.mono (Nat.le_refl _))
           have c8 : w8.cell? ⟨b9, 5, none⟩ = some (.slice a5 n5 c5) := (KB8.cell (p := ⟨b9, 5, none⟩) hl7).trans q5
           have c8a : ∀ o, (w8.alloc o).cell? ⟨b9, 5, none⟩ = some (.slice a5 n5 c5) := fun o => ((KB8.alloc KB8.size o).cell (p := ⟨b9, 5, none⟩) hl7).trans q5)
        | (refine step_str rfl (.tmp 49) (.tmp 52) rfl w3.heap.size _ ls5 rfl ((HO5.out.below KB8).alloc _) w8.heap.size (Lib.join (n :: vs) [32]) rfl ?_ (by omega) (by have := KB8.size; simp; omega) ?_
           · exact (cell_of_row _ _ 0 _ _ _ (heap_alloc_new w8 _)).trans rfl
           intro g9 c9 w9 ho9 hg9 hw9 hl9
           have B8 : Below w3.heap.size W7 (w8.alloc (.cells #[.string ⟨(Lib.join (n :: vs) [32]).toArray⟩] 9)) := (KB8.mono hz7).alloc (by have := KB8.size; omega) _
           have B9 : Below w3.heap.size W7 w9 := B8.grown hg9 (by have := KB8.size; simp; omega) (fun r hr => (HO5.out.lt r hr).1)
           obtain ⟨j0, j1, j2, j3, hblk⟩ := id hg9
           have k9 : w9.heap[b9]? = some (.cells #[.int .i64 yc, .int .i64 yr, .float .f32 ys, .float .f32 yl, .float .f32 yt, .slice a5 n5 c5] 27 (0, 0)) := ((hblk b9 (by have := KB8.size; simp; omega) (fun e => HNB.out b9 e.symm rfl)).trans ((KB8.alloc KB8.size _).block b9 hl7)).trans HG7.out
           have ne9 : g9 ≠ b9 := by
             rcases hw9 with e | e
             · exact HNB.out g9 e
             · have := KB8.size; rw [e]; simp; omega
           obtain ⟨y0, y1, y2, y3, y4, y5⟩ : SetAt w9 b9 ⟨yc, yr, ys, yl, yt⟩ (.slice a5 n5 c5) := SetAt.of k9
           obtain ⟨z0, z1, z2, z3, z4, z5⟩ := froz6 k9))
      all_goals
        have k10 : (w9.setCell ⟨b9, 5, none⟩ (.slice (some ⟨g9, 0, none⟩) (ls5.length + 1) c9)).heap[b9]? = some (.cells #[.int .i64 yc, .int .i64 yr, .float .f32 ys, .float .f32 yl, .float .f32 yt, .slice (some ⟨g9, 0, none⟩) (ls5.length + 1) c9] 27 (0, 0)) := by simp [World.setCell, Array.getElem?_modify, k9]
        have B10 : Below w3.heap.size W7 (w9.setCell ⟨b9, 5, none⟩ (.slice (some ⟨g9, 0, none⟩) (ls5.length + 1) c9)) := B9.setCell (p := ⟨b9, 5, none⟩) hge _
        have O10 : OwnS (w9.setCell ⟨b9, 5, none⟩ (.slice (some ⟨g9, 0, none⟩) (ls5.length + 1) c9)) w3.heap.size (.slice (some ⟨g9, 0, none⟩) (ls5.length + 1) c9) (ls5 ++ [Lib.join (n :: vs) [32]]) := by
          refine ⟨ho9.1, ho9.2.imp id fun ⟨g, cap, cur, h1, h2, h3, h4⟩ => ⟨g, cap, cur, h1, h2, ?_, h4⟩⟩
          injection h1 with e1
          injection e1 with e1
          injection e1 with e1
          subst e1
          have hb : ¬ b9 = g9 := fun e => ne9 e.symm
          rw [← h3]
          simp [World.setCell, Array.getElem?_modify, hb]
        have z10 : b9 < (w9.setCell ⟨b9, 5, none⟩ (.slice (some ⟨g9, 0, none⟩) (ls5.length + 1) c9)).heap.size := (Array.getElem?_eq_some_iff.1 k10).1
        clear y0 y1 y2 y3 y4 y5 hblk j0 j1 j2 j3 z0 z1 z2 z3 z4 z5 k9 ne9 hw9 hg9 ho9 B8 B9 hl9 c8 c8a KB8 hb8
        generalize World.setCell w9 _ _ = W10 at *
        have G10 : Below w.heap.size w W10 := below_trans g7 (B10.mono (by omega)) (by omega)
        have K10 := (B10.block (w.heap.size + 1) (by omega)).trans K7.out
        obtain ⟨r0, r1, r2, r3, r4, r5⟩ := SetAt.of (x := zeroC) (v := .slice none 0 0) K10
        simp only [zeroC] at r0 r1 r2 r3 r4
        obtain ⟨s0, s1, s2, s3, s4, s5⟩ := froz6 K10
        have A10 : SetAt W10 b9 ⟨yc, yr, ys, yl, yt⟩ (.slice (some ⟨g9, 0, none⟩) (ls5.length + 1) c9) := SetAt.of k10
        obtain ⟨q0, q1, q2, q3, q4, q5⟩ := id A10
        have hnr1 : ¬ b9 = w.heap.size + 1 := by omega
        have hnr2 : ¬ w.heap.size + 1 = b9 := by omega
        clear k10 B10
        try clear HY5 HN5
        revert W10 w8 g9 c9
        exact TAIL2.out
    · clear q0 q1 q2 q3 q4 q5
      intro w8 g9 c9 W10 O10 z10 G10 K10 r0 r1 r2 r3 r4 r5 s0 s1 s2 s3 s4 s5 A10 q0 q1 q2 q3 q4 q5
      have hnr1 : ¬ b9 = w.heap.size + 1 := by omega
      have hnr2 : ¬ w.heap.size + 1 = b9 := by omega
      cases b5 with
      | false =>
        have HNN := Lib.hid (show tuneF ⟨xc, xr, xs, xl, xt⟩ ls s.data.toList = none by rw [HFN.out, HN5.out rfl]; rfl)
        go_wp2
        go_region_law (fail)
        all_goals
          go_wp2
          refine bodyPost_ret (v := .tuple #[.agg #[.int .i64 yc, .int .i64 yr, .float .f32 ys, .float .f32 yl, .float .f32 yt, .slice (some ⟨g9, 0, none⟩) (ls5.length + 1) c9], .bool false]) ?_ rfl (TunedPost.refused HNN.out ?_)
          · simp [results, Tryd.results46, go_sem, r0, r1, r2, r3, r4, r5]
          · exact (below6 G10 (by omega) _ _ _ _ _ _).drew
      | true =>
        have hcm := HY5.out rfl
        have hlse := HLS5.out rfl
        subst hlse
        have yok : SetC.ok ⟨yc, yr, ys, yl, yt⟩ := cmdF_ok HX.out hcm
        have hln : (ls5 ++ [Lib.join (n :: vs) [32]]).length = ls5.length + 1 := by simp
        have HS9 := fun W (hr : TRow W (.slice (some ⟨g9, 0, none⟩) (ls5.length + 1) c9) (ls5 ++ [Lib.join (n :: vs) [32]])) => Lib.hid (setOk_any ⟨yc, yr, ys, yl, yt⟩ _ _ W yok hr (by rw [hln]; omega))
        rw [hln] at HS9
        have HFF := Lib.hid (show tuneF ⟨xc, xr, xs, xl, xt⟩ ls5 s.data.toList = if setB ⟨yc, yr, ys, yl, yt⟩ (ls5.length + 1) = true then some (⟨yc, yr, ys, yl, yt⟩, ls5 ++ [Lib.join (n :: vs) [32]]) else none by rw [HFN.out, hcm]; rfl)
        have HYK := Lib.hid yok
        have HO10 := Lib.hid O10
        simp only [SetC.val] at HS9
        generalize setB ⟨yc, yr, ys, yl, yt⟩ (ls5.length + 1) = bb at *
        clear hcm yok O10 hln
        go_wp2
        go_region_law (first
          | ((try go_simp); go_at_call 13
             refine (HS9 _ (HO10.out.below (Below.refl _ _).drew).row).out.mono ?_
             rintro e w11 ⟨rfl, hb11⟩
             have KB11 : Below W10.heap.size W10 w11 := (Below.refl _ _).drew.trans (hb11.mono (Nat.le_refl _))
             obtain ⟨q0', q1', q2', q3', q4', q5'⟩ := A10.keep KB11 z10
             have K11 := (KB11.block (w.heap.size + 1) (by have := G10.size; omega)).trans K10
             obtain ⟨m0, m1, m2, m3, m4, m5⟩ := SetAt.of (x := zeroC) (v := .slice none 0 0) K11
             simp only [zeroC] at m0 m1 m2 m3 m4
             obtain ⟨l0, l1, l2, l3, l4, l5⟩ := froz6 K11
             have G11 := below_trans G10 KB11 G10.size))
        all_goals
          go_wp2
          refine bodyPost_ret (v := .tuple #[.agg #[.int .i64 yc, .int .i64 yr, .float .f32 ys, .float .f32 yl, .float .f32 yt, .slice (some ⟨g9, 0, none⟩) (ls5.length + 1) c9], .bool bb]) ?_ rfl (TunedPost.done HFF.out ?_ HYK.out ?_)
          · simp [results, Tryd.results46, go_sem, m0, m1, m2, m3, m4, m5]
          · exact ((HO10.out.below KB11).low (by omega)).put6 (fun k hk => by have := (HO10.out.lt k hk).1; omega) _ _ _ _ _ _
          · exact below6 G11 (by omega) _ _ _ _ _ _
end Go.Proofs.YtobpnoiienpipaaDoor
