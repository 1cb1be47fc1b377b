/-
  What is proved: what the studio sends of a valid picture through a channel that lets all of it through.
  Conditions: the picture can be read.
-/
import Derived.Test.YtobpnoiienpipaaGreatTopL
import Derived.Test.YtobpnoiienpipaaGreatPz32
import Derived.Deep.RegionHeld3
import Derived.Defers
import Derived.Lib.MinMax
import Derived.IntWalk
import Derived.Test.YtobpnoiienpipaaGreatPz33
namespace Go.Proofs.YtobpnoiienpipaaGreat
set_option linter.unusedVariables false
open Go.RowKit
attribute [local go_sem] run_store_float run_store_complex unary_negf neg256

/-- The samples of line i of a field, behind the channel. -/
def lineOf (h : Chn) (rs : List (List C3)) (i : Nat) : List Nat := txs h (lineL (rs.getD i []) (decide (i % 2 = 1)))
def sentL (h : Chn) (rs : List (List C3)) (n : Nat) : List (List Nat) := (List.range n).map (lineOf h rs)
theorem sentL_succ (h : Chn) (rs : List (List C3)) (n : Nat) : (sentL h rs (n + 1)).flatten = (sentL h rs n).flatten ++ lineOf h rs n := by
  unfold sentL
  rw [List.range_succ, List.map_append, List.flatten_append]
  simp
/-- All rows of a field come through. -/
structure Thru (h : Chn) (rs : List (List C3)) : Prop where
  few : rs.length ≤ 32
  rok : ∀ i, i < rs.length → Proofs.YtobpnoiienpipaaGreat.rok (rs.getD i []) = true
  fit : ∀ i, i < rs.length → Fit (rs.getD i [])
  ok1 : ∀ i, i < rs.length → sampOk (lineL (rs.getD i []) (decide (i % 2 = 1))) = true
  ok2 : ∀ i, i < rs.length → sampOk (lineOf h rs i) = true
theorem lineOf_len {h : Chn} {rs : List (List C3)} (ht : Thru h rs) {i : Nat} (hi : i < rs.length) : 28 ≤ (lineOf h rs i).length ∧ (lineOf h rs i).length ≤ 280 := by
  have h1 := (rok_iff.1 (ht.rok i hi)).1
  have h2 := lineL_len (rs.getD i []) (decide (i % 2 = 1))
  have h3 := txs_len h (6 + (rs.getD i []).length) (lineL (rs.getD i []) (decide (i % 2 = 1))) (by omega)
  unfold lineOf
  omega
theorem sentL_len {h : Chn} {rs : List (List C3)} (ht : Thru h rs) : ∀ n, n ≤ rs.length → (sentL h rs n).flatten.length ≤ n * 280
  | 0, _ => by simp [sentL]
  | n + 1, hn => by
    rw [sentL_succ, List.length_append]
    have h1 := sentL_len ht n (by omega)
    have h2 := lineOf_len ht (show n < rs.length by omega)
    omega
/-- An answer of a list that the call owns, and that all came through. -/
def SentPost (xs : List Nat) (w : World) (e : Ending) (w' : World) : Prop := ∃ v, e = .returned (.tuple #[v, .bool true]) ∧ OwnF w' w.heap.size v xs ∧ Below w.heap.size w w'
set_option maxRecDepth 100000 in
set_option maxHeartbeats 1000000 in
theorem sentField_any (A O X Y : Nat) (v : Value) (rs : List (List C3)) (w : World) (h : PicV w v rs) (hok : ChOk ⟨A, O, X, Y⟩) (hh : MagH ⟨A, O, X, Y⟩) (ht : Thru ⟨A, O, X, Y⟩ rs) (hne : rs ≠ []) :
    Calls Tryz.prog 27 #[v, .agg #[.float .f32 A, .float .f32 O, .complex .f32 X Y]] w fun e w' => SentPost (sentL ⟨A, O, X, Y⟩ rs rs.length).flatten w e w' := by
  obtain ⟨g, o, cap, rfl, hcap, hcell⟩ := h.len hne
  have hfew := ht.few
  have HMK := fun v r odd W h1 h2 h3 => Lib.hid (makeLine_any v r odd W h1 h2 h3)
  have HTX := fun v xs W hr h1 h2 => Lib.hid (transmit_any A O X Y v xs W hr hok hh h1 h2)
  have HC := Lib.hid hcell
  have HT := Lib.hid ht
  have hb0 := (Below.refl w.heap.size w).alloc (Nat.le_refl _) (.cells #[.float .f32 A, .float .f32 O, .complex .f32 X Y] 28)
  have K0 := heap_alloc_new w (.cells #[.float .f32 A, .float .f32 O, .complex .f32 X Y] 28)
  have hz0 : (w.alloc (.cells #[.float .f32 A, .float .f32 O, .complex .f32 X Y] 28)).heap.size = w.heap.size + 1 := by simp
  have HN0 := Lib.hid (show OwnF (w.alloc (.cells #[.float .f32 A, .float .f32 O, .complex .f32 X Y] 28)) (w.heap.size + 1) (.slice none 0 0) [] from World.ownsRow_nil _ _ _ _)
  clear h hcell hok hh ht hne
  go_enter Tryz.func27, Tryz.ntmps27
  go_wp2_with fail
  generalize World.alloc w _ = w1 at *
  go_loopw [13, 6] (fun i sv wr => ∃ (k : Nat) (a : Option Addr) (n c : Nat), k ≤ rs.length ∧ i = .int .i64 (k : Int) ∧ sv = .slice a n c ∧ n = (sentL ⟨A, O, X, Y⟩ rs k).flatten.length ∧ OwnF wr (w.heap.size + 1) (.slice a n c) (sentL ⟨A, O, X, Y⟩ rs k).flatten ∧
    wr.heap[w.heap.size]? = some (.cells #[.float .f32 A, .float .f32 O, .complex .f32 X Y] 28 (0, 0)) ∧ Below w.heap.size w wr ∧ w.heap.size + 1 ≤ wr.heap.size) (fun i _ _ => rs.length - (intOf i).toNat)
  case atStart => exact ⟨0, none, 0, 0, Nat.zero_le _, rfl, rfl, rfl, HN0.out, K0, hb0, by omega⟩
  case round =>
    obtain ⟨k, a, n, c, hk, rfl, rfl, hn, ho, K, hb, hsz⟩ := hrel
    have HO := Lib.hid ho
    have HN := Lib.hid hn
    clear ho hn HN0 K0 hb0 hz0
    by_cases hlt : k < rs.length
    · obtain ⟨a1, c1, e1, hr1⟩ := HC.out k hlt
      have q0 := (grown_of hb).cell e1 (by simp)
      have HR1 := Lib.hid (hr1.below hb)
      have hg : rs.getD k [] = rs[k] := by rw [List.getD_eq_getElem?_getD, List.getElem?_eq_getElem hlt]; rfl
      have HR := Lib.hid (HT.out.rok k hlt)
      have HF := Lib.hid (HT.out.fit k hlt)
      have HK1 := Lib.hid (HT.out.ok1 k hlt)
      have HK2 := Lib.hid (HT.out.ok2 k hlt)
      have HLL := Lib.hid (lineOf_len HT.out hlt)
      have HSL := Lib.hid (sentL_len HT.out k (by omega))
      have HSC := Lib.hid (sentL_succ ⟨A, O, X, Y⟩ rs k)
      obtain ⟨odd, hodd⟩ : ∃ odd, odd = decide (k % 2 = 1) := ⟨_, rfl⟩
      have hod : ((k : Int).tmod 2 == 1) = odd := by
        rw [hodd, Int.tmod_eq_emod_of_nonneg (by omega)]
        by_cases e : k % 2 = 1
        · rw [decide_eq_true e]; simp; omega
        · rw [decide_eq_false e]; simp; omega
      have HLO := Lib.hid (show lineOf ⟨A, O, X, Y⟩ rs k = txs ⟨A, O, X, Y⟩ (lineL (rs.getD k []) odd) by rw [hodd]; rfl)
      rw [← hodd] at HK1
      rw [← hg] at q0 HR1
      clear hodd hg e1 hr1
      generalize rs.getD k [] = r at *
      have c0 : wr.cell? ⟨w.heap.size, 0, none⟩ = some (.float .f32 A) := (cell_of_row _ _ 0 _ _ _ K).trans rfl
      have c1' : wr.cell? ⟨w.heap.size, 1, none⟩ = some (.float .f32 O) := (cell_of_row _ _ 1 _ _ _ K).trans rfl
      have c2 : wr.cell? ⟨w.heap.size, 2, none⟩ = some (.complex .f32 X Y) := (cell_of_row _ _ 2 _ _ _ K).trans rfl
      go_wp2
      go_region_held3 (fun V => V.cell? ⟨w.heap.size, 0, none⟩ = some (.float .f32 A) ∧ V.cell? ⟨w.heap.size, 1, none⟩ = some (.float .f32 O) ∧ V.cell? ⟨w.heap.size, 2, none⟩ = some (.complex .f32 X Y)) (first | with_reducible exact KK2 | with_reducible exact KK | go_keep) (first
        | ((try go_simp); go_at_call 58; refine (HMK _ r odd _ (HR1.out.below (Below.refl _ _).drew) HF.out HR.out).out.mono ?_; rintro e w2 ⟨v2, rfl, hn2, hb2⟩
           have hb02 : Below wr.heap.size wr w2 := ((Below.refl _ _).drew).trans hb2
           have KK := And.intro ((hb02.cell (p := ⟨w.heap.size, 0, none⟩) (by show w.heap.size < _; omega)).trans c0) (And.intro ((hb02.cell (p := ⟨w.heap.size, 1, none⟩) (by show w.heap.size < _; omega)).trans c1') ((hb02.cell (p := ⟨w.heap.size, 2, none⟩) (by show w.heap.size < _; omega)).trans c2))
           have HN2 := Lib.hid hn2.row)
        | ((try go_simp); go_at_call 57; refine (HTX _ (lineL r odd) w2 HN2.out HK1.out (by rw [← HLO.out]; exact HK2.out)).out.mono ?_; rintro e w3 ⟨v3, ys, rfl, hys, hn3, hb3⟩
           rw [← HLO.out] at hys
           subst hys
           have hb03 : Below wr.heap.size wr w3 := hb02.trans (hb3.mono hb02.size)
           have KK2 := And.intro ((hb03.cell (p := ⟨w.heap.size, 0, none⟩) (by show w.heap.size < _; omega)).trans c0) (And.intro ((hb03.cell (p := ⟨w.heap.size, 1, none⟩) (by show w.heap.size < _; omega)).trans c1') ((hb03.cell (p := ⟨w.heap.size, 2, none⟩) (by show w.heap.size < _; omega)).trans c2))
           have HN3 := Lib.hid hn3))
      have hll := HLL.out
      obtain ⟨g3, c3, e3⟩ := HN3.out.row4 (by omega)
      subst e3
      obtain ⟨a4, c4, e4, hcl⟩ := HN3.out.row.any
      have HCL := Lib.hid (show ∀ i (hi : i < (lineOf ⟨A, O, X, Y⟩ rs k).length), w3.cell? ⟨g3, 0 + i, none⟩ = some (.float .f32 (lineOf ⟨A, O, X, Y⟩ rs k)[i]) from fun i hi => by
        obtain ⟨g', o', e1, _, h2⟩ := hcl i hi
        cases e4
        cases e1
        exact h2)
      have HOW := Lib.hid (HO.out.kept (grown_of hb03) (by cases (Value.slice a n c).ownBlock <;> simp))
      have K3 := (hb03.block w.heap.size (by omega)).trans K
      have HB3 := Lib.hid (hb.trans (hb03.mono (by omega)))
      have hsz3 := hb03.size
      have hsl := HSL.out
      have hnn := HN.out
      have hnb : (sentL ⟨A, O, X, Y⟩ rs k).flatten.length + (lineOf ⟨A, O, X, Y⟩ rs k).length ≤ 1000000000 := by omega
      have HNB := Lib.hid hnb
      clear hll hcl e4 hsl hnn hnb hn3 hb3 hn2 hb2 hb02 hb03 KK KK2 c0 c1' c2 q0 HMK HTX HN2 HK1 HK2 HR1 K hb hod HR HF HLO
      generalize (sentL ⟨A, O, X, Y⟩ rs k).flatten = XS at *
      generalize lineOf ⟨A, O, X, Y⟩ rs k = LN at *
      go_wp2_with (at_builtin; refine ownF_append rfl (.tmp 30) (.tmp 31) rfl (w.heap.size + 1) (.slice a n c) XS LN rfl HOW.out g3 0 c3 rfl HCL.out (by have := HLL.out; omega) HNB.out (by omega) ?_; intro g6 c6 w6 ho6 hg6 hor6 hlt6)
      go_roundw
      case rel =>
        have K6 : w6.heap[w.heap.size]? = some (.cells #[.float .f32 A, .float .f32 O, .complex .f32 X Y] 28 (0, 0)) := (hg6.block w.heap.size (by omega) (fun e => by have := (HOW.out.lt _ e.symm).1; omega)).trans K3
        exact ⟨k + 1, _, _, c6, by omega, by go_num, rfl, by rw [HSC.out, List.length_append], by rw [HSC.out]; exact ho6, K6, HB3.out.grown hg6 HB3.out.size (fun r hr => by have := (HOW.out.lt r hr).1; omega), by have := hg6.size; omega⟩
      case measure => simp [intOf]; omega
    · have hkk : k = rs.length := by omega
      subst hkk
      clear HMK HTX HC HT
      go_wp2
      go_ret2
      exact ⟨_, rfl, HO.out.mono (by omega), hb⟩
/-- What the studio sends of a picture. -/
def studL (h : Chn) (rs : List (List C3)) : List (List Nat) := sentL h (fld rs 0) (fld rs 0).length ++ sentL h (fld rs 1) (fld rs 1).length
set_option maxRecDepth 100000 in
set_option maxHeartbeats 1000000 in
theorem studio_yes (A O X Y : Nat) (v : Value) (rs : List (List C3)) (w : World) (h : PicV w v rs) (htn : Thin rs) (hl : rs.length ≤ 1000000) (hp : pok rs = true) (hok : ChOk ⟨A, O, X, Y⟩) (hh : MagH ⟨A, O, X, Y⟩) (ht0 : Thru ⟨A, O, X, Y⟩ (fld rs 0)) (ht1 : Thru ⟨A, O, X, Y⟩ (fld rs 1)) (hn0 : fld rs 0 ≠ []) (hn1 : fld rs 1 ≠ []) :
    Calls Tryz.prog 7 #[v, .agg #[.float .f32 A, .float .f32 O, .complex .f32 X Y]] w fun e w' => SentPost (studL ⟨A, O, X, Y⟩ rs).flatten w e w' := by
  have HPK := fun W hr => Lib.hid (pictureOk_any v rs W hr htn hl)
  have HF0 := fun W hr => Lib.hid (fieldOf_any v rs 0 W hr htn hl (by decide))
  have HF1 := fun W hr => Lib.hid (fieldOf_any v rs 1 W hr htn hl (by decide))
  rw [hp] at HPK
  simp only [hp, if_true] at HF0 HF1
  have HS0 := fun v W hr => Lib.hid (sentField_any A O X Y v (fld rs 0) W hr hok hh ht0 hn0)
  have HS1 := fun v W hr => Lib.hid (sentField_any A O X Y v (fld rs 1) W hr hok hh ht1 hn1)
  have HL0 := Lib.hid (sentL_len ht0 (fld rs 0).length (Nat.le_refl _))
  have HL1 := Lib.hid (sentL_len ht1 (fld rs 1).length (Nat.le_refl _))
  have HQ1 := Lib.hid (show 0 < (sentL ⟨A, O, X, Y⟩ (fld rs 1) (fld rs 1).length).flatten.length by
    have hpos := List.length_pos_iff.2 hn1
    obtain ⟨p, hp⟩ : ∃ p, (fld rs 1).length = p + 1 := ⟨(fld rs 1).length - 1, by omega⟩
    have := lineOf_len ht1 (show p < (fld rs 1).length by omega)
    rw [hp, sentL_succ, List.length_append]
    omega)
  have HFW := Lib.hid (And.intro ht0.few ht1.few)
  have HST := Lib.hid (show (studL ⟨A, O, X, Y⟩ rs).flatten = (sentL ⟨A, O, X, Y⟩ (fld rs 0) (fld rs 0).length).flatten ++ (sentL ⟨A, O, X, Y⟩ (fld rs 1) (fld rs 1).length).flatten from List.flatten_append)
  have HB1 := Lib.hid (show (sentL ⟨A, O, X, Y⟩ (fld rs 0) (fld rs 0).length).flatten.length ≤ 100000 ∧ (sentL ⟨A, O, X, Y⟩ (fld rs 1) (fld rs 1).length).flatten.length ≤ 100000 by
    have := HL0.out; have := HL1.out; have := ht0.few; have := ht1.few; omega)
  obtain ⟨av, cv, rfl⟩ := h.lenv
  have HV := Lib.hid h
  have hb0 := (Below.refl w.heap.size w).alloc (Nat.le_refl _) (.cells #[.float .f32 A, .float .f32 O, .complex .f32 X Y] 28)
  have K := heap_alloc_new w (.cells #[.float .f32 A, .float .f32 O, .complex .f32 X Y] 28)
  have hz0 : (w.alloc (.cells #[.float .f32 A, .float .f32 O, .complex .f32 X Y] 28)).heap.size = w.heap.size + 1 := by simp
  generalize (studL ⟨A, O, X, Y⟩ rs).flatten = ZS at *
  generalize (sentL ⟨A, O, X, Y⟩ (fld rs 0) (fld rs 0).length).flatten = XS at *
  generalize (sentL ⟨A, O, X, Y⟩ (fld rs 1) (fld rs 1).length).flatten = YS at *
  clear h hp hok hh ht0 ht1 hn0 hn1 HL0 HL1 HFW
  go_enter Tryz.func7, Tryz.ntmps7
  go_wp2_with fail
  generalize World.alloc w _ = w1 at *
  refine (HPK w1 (HV.out.below hb0)).out.mono ?_
  rintro e w2 ⟨rfl, hb2⟩
  have hb02 := below_trans hb0 hb2 hb0.size
  replace K := (hb2.block w.heap.size (by omega)).trans K
  have hz2 := hb2.size
  have c0 : w2.cell? ⟨w.heap.size, 0, none⟩ = some (.float .f32 A) := (cell_of_row _ _ 0 _ _ _ K).trans rfl
  have c1 : w2.cell? ⟨w.heap.size, 1, none⟩ = some (.float .f32 O) := (cell_of_row _ _ 1 _ _ _ K).trans rfl
  have c2 : w2.cell? ⟨w.heap.size, 2, none⟩ = some (.complex .f32 X Y) := (cell_of_row _ _ 2 _ _ _ K).trans rfl
  have HV2 := Lib.hid (HV.out.below hb02)
  clear hb2 hb0 HV HPK
  go_wp2
  go_region_held3 (fun V => V.cell? ⟨w.heap.size, 0, none⟩ = some (.float .f32 A) ∧ V.cell? ⟨w.heap.size, 1, none⟩ = some (.float .f32 O) ∧ V.cell? ⟨w.heap.size, 2, none⟩ = some (.complex .f32 X Y)) (first | with_reducible exact KK2 | with_reducible exact KK | go_keep) (first
    | ((try go_simp); go_at_call 28; refine (HF0 _ (HV2.out.below (Below.refl _ _).drew)).out.mono ?_; rintro e w3 ⟨v3, rfl, hp3, hb3⟩
       have hb23 : Below w2.heap.size w2 w3 := ((Below.refl _ _).drew).trans hb3
       have KK := And.intro ((hb23.cell (p := ⟨w.heap.size, 0, none⟩) (by show w.heap.size < _; omega)).trans c0) (And.intro ((hb23.cell (p := ⟨w.heap.size, 1, none⟩) (by show w.heap.size < _; omega)).trans c1) ((hb23.cell (p := ⟨w.heap.size, 2, none⟩) (by show w.heap.size < _; omega)).trans c2)))
    | ((try go_simp); go_at_call 27; refine (HS0 _ w3 hp3).out.mono ?_; rintro e w4 ⟨v4, rfl, ho4, hb4⟩
       have hb24 : Below w2.heap.size w2 w4 := hb23.trans (hb4.mono hb23.size)
       have KK2 := And.intro ((hb24.cell (p := ⟨w.heap.size, 0, none⟩) (by show w.heap.size < _; omega)).trans c0) (And.intro ((hb24.cell (p := ⟨w.heap.size, 1, none⟩) (by show w.heap.size < _; omega)).trans c1) ((hb24.cell (p := ⟨w.heap.size, 2, none⟩) (by show w.heap.size < _; omega)).trans c2))
       have HO4 := Lib.hid ho4))
  replace K := (hb24.block w.heap.size (by omega)).trans K
  have hz4 := hb24.size
  have hb04 := below_trans hb02 hb24 hb02.size
  have hz34 := hb23.size
  have HV4 := Lib.hid (HV2.out.below hb24)
  clear c0 c1 c2 KK KK2 hb23 hb24 hb02 HV2 hp3 hb3 ho4 hb4 HF0 HS0
  have c0 : w4.cell? ⟨w.heap.size, 0, none⟩ = some (.float .f32 A) := (cell_of_row _ _ 0 _ _ _ K).trans rfl
  have c1 : w4.cell? ⟨w.heap.size, 1, none⟩ = some (.float .f32 O) := (cell_of_row _ _ 1 _ _ _ K).trans rfl
  have c2 : w4.cell? ⟨w.heap.size, 2, none⟩ = some (.complex .f32 X Y) := (cell_of_row _ _ 2 _ _ _ K).trans rfl
  go_wp2
  go_region_held3 (fun V => V.cell? ⟨w.heap.size, 0, none⟩ = some (.float .f32 A) ∧ V.cell? ⟨w.heap.size, 1, none⟩ = some (.float .f32 O) ∧ V.cell? ⟨w.heap.size, 2, none⟩ = some (.complex .f32 X Y)) (first | with_reducible exact KK2 | with_reducible exact KK | go_keep) (first
    | ((try go_simp); go_at_call 28; refine (HF1 _ (HV4.out.below (Below.refl _ _).drew)).out.mono ?_; rintro e w5 ⟨v5, rfl, hp5, hb5⟩
       have hb45 : Below w4.heap.size w4 w5 := ((Below.refl _ _).drew).trans hb5
       have KK := And.intro ((hb45.cell (p := ⟨w.heap.size, 0, none⟩) (by show w.heap.size < _; omega)).trans c0) (And.intro ((hb45.cell (p := ⟨w.heap.size, 1, none⟩) (by show w.heap.size < _; omega)).trans c1) ((hb45.cell (p := ⟨w.heap.size, 2, none⟩) (by show w.heap.size < _; omega)).trans c2)))
    | ((try go_simp); go_at_call 27; refine (HS1 _ w5 hp5).out.mono ?_; rintro e w6 ⟨v6, rfl, ho6, hb6⟩
       have hb46 : Below w4.heap.size w4 w6 := hb45.trans (hb6.mono hb45.size)
       have KK2 := And.intro ((hb46.cell (p := ⟨w.heap.size, 0, none⟩) (by show w.heap.size < _; omega)).trans c0) (And.intro ((hb46.cell (p := ⟨w.heap.size, 1, none⟩) (by show w.heap.size < _; omega)).trans c1) ((hb46.cell (p := ⟨w.heap.size, 2, none⟩) (by show w.heap.size < _; omega)).trans c2))
       have HO6 := Lib.hid ho6))
  have HO46 := Lib.hid ((HO4.out.mono (show w.heap.size ≤ w3.heap.size by omega)).kept (grown_of hb46) (by cases v4.ownBlock <;> simp))
  obtain ⟨a4, c4, hv4⟩ := HO46.out.new.row.lenv
  have hy := HQ1.out
  obtain ⟨g6, c6, hv6⟩ := HO6.out.new.row4 hy
  obtain ⟨a6, c6', e6, hcl⟩ := HO6.out.new.row.any
  have hv6' := hv6
  rw [e6] at hv6'
  have HCL := Lib.hid (show ∀ i (hi : i < YS.length), w6.cell? ⟨g6, 0 + i, none⟩ = some (.float .f32 YS[i]) from fun i hi => by
    obtain ⟨g', o', e1, _, h2⟩ := hcl i hi
    cases hv6'
    cases e1
    exact h2)
  subst hv4 hv6
  have hb06 := below_trans hb04 hb46 hb04.size
  have hz6 := hb06.size
  clear hcl e6 hv6' hy c0 c1 c2 KK KK2 hb45 hb46 hb04 HV4 hp5 hb5 ho6 hb6 HF1 HS1 K
  go_wp2_with (at_builtin; refine ownF_append rfl (.tmp 33) (.tmp 34) rfl w.heap.size _ XS YS rfl HO46.out g6 0 c6 rfl HCL.out HQ1.out (by have := HB1.out; omega) hz6 ?_; intro g7 c7 w7 ho7 hg7 hor7 hlt7)
  go_ret2
  exact ⟨_, rfl, by rw [HST.out]; exact ho7, hb06.grown hg7 hz6 (fun r hr => (HO46.out.lt r hr).1)⟩
end Go.Proofs.YtobpnoiienpipaaGreat

/-
  What is proved: the walk of the flywheel's turn.
  Conditions: the pulses can be read.
-/
namespace Go.Proofs.YtobpnoiienpipaaGreat
set_option linter.unusedVariables false
open Go.RowKit
attribute [local go_sem] run_store_float run_store_complex unary_negf neg256

/-- Block pb holds a flywheel. -/
def Wheel (W : World) (pb : Nat) (v : Value) (len want missed : Nat) : Prop := W.heap[pb]? = some (.cells #[v, .int .i64 (len : Int), .int .i64 (want : Int), .int .i64 (missed : Int)] 130 (0, 0))
theorem Wheel.kept {W W' : World} {pb : Nat} {v : Value} {len want missed : Nat} {row : Option Nat} (h : Wheel W pb v len want missed) (hg : W.grownBy W' row) (hne : some pb ≠ row) : Wheel W' pb v len want missed := (hg.block pb (Array.getElem?_eq_some_iff.1 h).1 hne).trans h
theorem Wheel.lt {W : World} {pb : Nat} {v : Value} {len want missed : Nat} (h : Wheel W pb v len want missed) : pb < W.heap.size := (Array.getElem?_eq_some_iff.1 h).1
theorem Wheel.at {W : World} {pb : Nat} {v : Value} {len want missed : Nat} (h : Wheel W pb v len want missed) : W.cell? ⟨pb, 0, none⟩ = some v ∧ W.cell? ⟨pb, 1, none⟩ = some (.int .i64 (len : Int)) ∧ W.cell? ⟨pb, 2, none⟩ = some (.int .i64 (want : Int)) ∧ W.cell? ⟨pb, 3, none⟩ = some (.int .i64 (missed : Int)) :=
  ⟨cell_of_row _ _ 0 _ _ _ h, cell_of_row _ _ 1 _ _ _ h, cell_of_row _ _ 2 _ _ _ h, cell_of_row _ _ 3 _ _ _ h⟩
theorem Wheel.free {W : World} {pb : Nat} {v : Value} {len want missed : Nat} (h : Wheel W pb v len want missed) (i : Nat) : W.frozen? ⟨pb, i, none⟩ = false := by simp [World.frozen?, show W.heap[pb]? = _ from h]
theorem Wheel.setWant {W : World} {pb : Nat} {v : Value} {len want missed : Nat} (h : Wheel W pb v len want missed) (x : Nat) : Wheel (W.setCell ⟨pb, 2, none⟩ (.int .i64 (x : Int))) pb v len x missed := by
  have := heap_put (i := 2) (v := .int .i64 (x : Int)) h
  simpa [Wheel] using this
theorem Wheel.setMissed {W : World} {pb : Nat} {v : Value} {len want missed : Nat} (h : Wheel W pb v len want missed) (x : Nat) : Wheel (W.setCell ⟨pb, 3, none⟩ (.int .i64 (x : Int))) pb v len want x := by
  have := heap_put (i := 3) (v := .int .i64 (x : Int)) h
  simpa [Wheel] using this
theorem wheel_set (W : World) (pb i : Nat) (u : Value) : W.grownBy (W.setCell ⟨pb, i, none⟩ u) (some pb) := by
  exact ⟨rfl, rfl, rfl, by simp [World.setCell], fun k hk hne => by simp only [World.setCell]; rw [Array.getElem?_modify, if_neg (fun e => hne (by rw [← e]))]⟩
set_option maxRecDepth 100000 in
set_option maxHeartbeats 2000000 in
theorem isNear_any (pb : Nat) (v : Value) (len want missed : Nat) (r : R2) (W : World) (h : Wheel W pb v len want missed) (hb : r.1 ≤ 1000000000) (hw : want ≤ 1000000000) :
    Calls Tryz.prog 123 #[.pointer (some ⟨pb, 0, none⟩), .agg #[.int .i64 (r.1 : Int), .int .i64 (r.2 : Int)]] W fun e w' => e = .returned (.bool (near want r)) ∧ Below W.heap.size W w' := by
  obtain ⟨b, n⟩ := r
  simp only at hb ⊢
  have hc2 := h.at.2.2.1
  have hn2 := World.new_ne W ⟨pb, 2, none⟩ hc2
  have hB := (Below.refl W.heap.size W).alloc (Nat.le_refl _) (.cells #[.int .i64 (b : Int), .int .i64 (n : Int)] 106)
  have hx0 := cell_of_row _ _ 0 _ _ _ (heap_alloc_new W (.cells #[.int .i64 (b : Int), .int .i64 (n : Int)] 106))
  have hx2 := (World.grownBy_alloc W (.cells #[.int .i64 (b : Int), .int .i64 (n : Int)] 106) none).cell hc2 (by simp)
  have HB := Lib.hid hB
  clear hB h hc2 hn2
  obtain ⟨M, hM⟩ : ∃ M : Nat, (M : Int) = max (b : Int) (want : Int) := ⟨max b want, by omega⟩
  obtain ⟨m, hm⟩ : ∃ m : Nat, (m : Int) = min (b : Int) (want : Int) := ⟨min b want, by omega⟩
  obtain ⟨D, hD⟩ : ∃ D : Nat, (D : Int) = (M : Int) - (m : Int) := ⟨M - m, by omega⟩
  have hw1 : IntKind.i64.wrap ((M : Int) - (m : Int)) = (D : Int) := by rw [IntWalk.i64_in _ (by omega), hD]
  have h1 := hM.symm
  have h2 := hm.symm
  have HN := Lib.hid (show near want (b, n) = decide ((D : Int) ≤ 3) by rw [Bool.eq_iff_iff]; unfold near; simp only [Bool.and_eq_true, decide_eq_true_eq]; clear hx0 hx2 HB h1 h2 hw1; omega)
  clear hM hm hD
  go_enter Tryz.func123, Tryz.ntmps123
  go_wp2
  generalize W.alloc (.cells #[.int .i64 (b : Int), .int .i64 (n : Int)] 106) = W1 at *
  go_region_held3 (fun V => V.cell? ⟨W.heap.size, 0, none⟩ = some (.int .i64 (b : Int)) ∧ V.cell? ⟨pb, 2, none⟩ = some (.int .i64 (want : Int))) (go_keep) (fail)
  all_goals
    go_wp2
    go_ret
    exact ⟨by rw [HN.out]; rfl, HB.out.drew⟩
/-- What the search for a pulse that is near answers. -/
def IdxPost (rs : List R2) (want : Nat) (w : World) (e : Ending) (w' : World) : Prop :=
  ((∃ k, ∃ h : k < rs.length, e = .returned (.int .i64 (k : Int)) ∧ nearR rs want = some rs[k].1) ∨ (e = .returned (.int .i64 (-1)) ∧ nearR rs want = none)) ∧ Below w.heap.size w w'
set_option maxHeartbeats 2000000 in
theorem indexFunc_any (pb : Nat) (vr v : Value) (len want missed : Nat) (rs : List R2) (w : World) (hr : LR.Row w vr rs) (h : Wheel w pb v len want missed) (hb : ∀ r ∈ rs, r.1 ≤ 1000000000) (hw : want ≤ 1000000000) (hl : rs.length ≤ 1000000000) :
    Calls Tryz.prog 122 #[vr, .func (.func 123) #[.pointer (some ⟨pb, 0, none⟩)] #[]] w fun e w' => IdxPost rs want w e w' := by
  obtain ⟨a, c, rfl, hc⟩ := runs_any hr
  have HC := Lib.hid hc
  have HW := Lib.hid h
  have HBB := Lib.hid hb
  clear hc h hr hb
  go_enter Tryz.func122, Tryz.ntmps122
  go_wp2
  go_loopw [8] (fun i wr => ∃ k : Nat, k ≤ rs.length ∧ i = .int .i64 (k : Int) ∧ nearR (rs.take k) want = none ∧ Below w.heap.size w wr) (fun i _ => rs.length - (intOf i).toNat)
  case atStart => exact ⟨0, Nat.zero_le _, rfl, rfl, Below.refl _ _⟩
  case round =>
    obtain ⟨k, hk, rfl, hnr, hbl⟩ := hrel
    have HNR := Lib.hid hnr
    clear hnr
    by_cases hlt : k < rs.length
    · obtain ⟨g, o, rfl, hcap, h0, h1⟩ := HC.out k hlt
      have d0 := (grown_of hbl).cell h0 (by simp)
      have d1 := (grown_of hbl).cell h1 (by simp)
      have HK := Lib.hid (isNear_any pb v len want missed rs[k] wr (HW.out.kept (grown_of hbl) (by simp)) (HBB.out _ (List.getElem_mem hlt)) hw)
      have HS := Lib.hid (nearR_snoc hlt HNR.out)
      clear h0 h1
      obtain ⟨r, hr⟩ : ∃ r, rs[k] = r := ⟨_, rfl⟩
      have HR := Lib.hid hr
      rw [hr] at d0 d1 HK HS
      clear hr
      go_wp2_with fail
      refine HK.out.mono ?_
      rintro e w2 ⟨rfl, hb2⟩
      have hbw : Below w.heap.size w w2 := below_trans hbl hb2 hbl.size
      clear hb2 d0 d1
      cases hn : near want r with
      | true =>
        have HF := Lib.hid (nearR_some (HS.out.trans (if_pos hn)))
        clear hn
        go_wp2
        go_ret
        exact ⟨.inl ⟨k, hlt, rfl, by rw [HR.out]; exact HF.out⟩, hbw⟩
      | false =>
        have HF := Lib.hid (HS.out.trans (if_neg (by rw [hn]; decide)))
        clear hn
        go_wp2
        go_roundw
        case rel => exact ⟨k + 1, by omega, by go_num, HF.out, hbw⟩
        case measure => simp [intOf]; omega
    · have hkk : k = rs.length := by omega
      subst hkk
      have HF := Lib.hid (show nearR rs want = none by have := HNR.out; rwa [List.take_length] at this)
      go_wp2
      go_ret
      exact ⟨.inr ⟨rfl, HF.out⟩, hbl⟩
set_option maxRecDepth 100000 in
set_option maxHeartbeats 1000000 in
theorem turn1_d (bp bw pb : Nat) (v : Value) (len want missed place : Nat) (u : FrameMode) (W : World) (hp : W.cell? ⟨bp, 0, none⟩ = some (.int .i64 (place : Int))) (hb : W.cell? ⟨bw, 0, none⟩ = some (.pointer (some ⟨pb, 0, none⟩))) (h : Wheel W pb v len want missed) (h1 : place ≤ 1000000000) (h2 : len ≤ 1000000000) (n1 : bp ≠ pb) (n2 : bw ≠ pb) :
    CallsD Tryz.prog 121 #[.pointer (some ⟨bp, 0, none⟩), .pointer (some ⟨bw, 0, none⟩)] u W fun e u' w' => u' = u ∧ (e = .returned (.tuple #[]) ∧ Wheel w' pb v len (place + len) missed ∧ W.grownBy w' (some pb)) := by
  have hc1 := h.at.2.1
  have hc2 := h.at.2.2.1
  have hf2 := h.free 2
  have hw1 : IntKind.i64.wrap ((place : Int) + (len : Int)) = ((place + len : Nat) : Int) := by rw [IntWalk.i64_in _ (by omega)]; omega
  have hs := h.setWant (place + len)
  have hg := wheel_set W pb 2 (.int .i64 ((place + len : Nat) : Int))
  rw [Int.natCast_add] at hs hg hw1
  have k0 := hg.cell hp (by intro e; exact n1 (Option.some.inj e))
  have k1 := hg.cell hb (by intro e; exact n2 (Option.some.inj e))
  have k2 := hs.at.2.1
  have HF := Lib.hid hs
  have HG := Lib.hid hg
  clear hs hg
  clear h
  go_enter_d Tryz.func121, Tryz.ntmps121
  go_wp2
  go_region_held3 (fun V => V.cell? ⟨bp, 0, none⟩ = some (.int .i64 (place : Int)) ∧ V.cell? ⟨bw, 0, none⟩ = some (.pointer (some ⟨pb, 0, none⟩)) ∧ V.cell? ⟨pb, 1, none⟩ = some (.int .i64 (len : Int))) (first | go_keep | exact ⟨k0, k1, k2⟩) (fail)
  all_goals
    go_wp2
    go_end0
    exact ⟨rfl, HF.out, grownN HG.out 1⟩
end Go.Proofs.YtobpnoiienpipaaGreat
