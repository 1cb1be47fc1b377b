/-
  What is proved: what the program answers of a row whose colours are multiplied by any number, NaN and infinite ones among them.
  Conditions: the row can be read.
-/
import Derived.Test.YtobpnoiienpipaaGreatDecode
import Derived.Test.YtobpnoiienpipaaGreatPz21
import Derived.Test.YtobpnoiienpipaaGreatPz26
namespace Go.Proofs.YtobpnoiienpipaaGreat
set_option linter.unusedVariables false
open Go.RowKit
attribute [local go_sem] run_store_float run_store_complex unary_negf neg256

/-- A cell whose colour is multiplied by k. -/
def ScC (k : Nat) (c d : C3) : Prop := d.1 = c.1 ∧ (Res .mul c.2.1 k d.2.1 ∧ Res .mul c.2.2 k d.2.2) ∧ (d.2.1 < 2 ^ 32 ∧ d.2.2 < 2 ^ 32)
theorem ScC.same {k : Nat} {c d e : C3} (h : ScC k c d) (h' : ScC k c e) : CSame d e := by
  obtain ⟨h1, ⟨h2, h3⟩, _⟩ := h
  obtain ⟨k1, ⟨k2, k3⟩, _⟩ := h'
  exact ⟨.inl (h1.trans k1.symm), Res.same (Sm.refl _) (Sm.refl _) h2 k2, Res.same (Sm.refl _) (Sm.refl _) h3 k3⟩
def ScL (k : Nat) (cs ds : List C3) : Prop := ds.length = cs.length ∧ ∀ i (h : i < ds.length) (h' : i < cs.length), ScC k cs[i] ds[i]
theorem ScL.same {k : Nat} {cs ds es : List C3} (h : ScL k cs ds) (h' : ScL k cs es) : CSameL ds es :=
  ⟨by rw [h.1, h'.1], fun i hi hi' => (h.2 i hi (by rw [← h.1]; exact hi)).same (h'.2 i hi' (by rw [← h.1]; exact hi))⟩
/-- What is answered of a row. -/
def ScaleRR (cs : List C3) (k : Nat) (l : List C3) (ok : Bool) : Prop := (rok cs = true ∧ ∃ ds, ScL k cs ds ∧ ok = rok ds ∧ l = if rok ds = true then ds else []) ∨ (rok cs = false ∧ l = [] ∧ ok = false)
theorem ScaleRR.same {cs : List C3} {k : Nat} {l l' : List C3} {a b : Bool} (h : ScaleRR cs k l a) (h' : ScaleRR cs k l' b) : a = b ∧ l = l' := by
  rcases h with ⟨h1, ds, h2, rfl, rfl⟩ | ⟨h1, h2, h3⟩ <;> rcases h' with ⟨k1, es, k2, rfl, rfl⟩ | ⟨k1, k2, k3⟩
  · have hs := h2.same k2
    have hr := hs.rok
    cases h3 : rok ds with
    | true =>
      rw [h3] at hr
      rw [← hr]
      exact ⟨rfl, same_eq hs h3⟩
    | false =>
      rw [h3] at hr
      rw [← hr]
      exact ⟨rfl, rfl⟩
  · rw [h1] at k1; cases k1
  · rw [h1] at k1; cases k1
  · exact ⟨h3.trans k3.symm, h2.trans k2.symm⟩
theorem ScaleRR.yes {cs : List C3} {k : Nat} {l : List C3} (h : ScaleRR cs k l true) : rok l = true ∧ rok cs = true ∧ ScL k cs l := by
  rcases h with ⟨h1, ds, h2, h3, rfl⟩ | ⟨_, _, h3⟩
  · rw [← h3, if_pos rfl]; exact ⟨h3.symm, h1, h2⟩
  · cases h3
def ScaleA (cs : List C3) (k : Nat) (w : World) (e : Ending) (w' : World) : Prop := ∃ v l ok, e = .returned (.tuple #[v, .bool ok]) ∧ ScaleRR cs k l ok ∧ RNew w' w.heap.size v l ∧ Below w.heap.size w w'
def ColA (u v k : Nat) (w : World) (e : Ending) (w' : World) : Prop := ∃ p q n, e = .returned (.complex .f32 p q) ∧ ((Res .mul u k p ∧ Res .mul v k q) ∧ (p < 2 ^ 32 ∧ q < 2 ^ 32)) ∧ w' = w.drewN n
theorem scaledColour_any (u v k : Nat) (w : World) :
    Calls Tryz.prog 176 #[.complex .f32 u v, .float .f32 k] w fun e w' => ColA u v k w e w' := by
  obtain ⟨p, n1, e1, R1, B1⟩ := run_res .mul (.inr (.inr (.inl rfl))) u k w
  obtain ⟨q, n2, e2, R2, B2⟩ := run_res .mul (.inr (.inr (.inl rfl))) v k (w.drewN n1)
  rw [drewN_addD] at e2
  have HR := Lib.hid (And.intro (And.intro R1 R2) (And.intro B1 B2))
  clear R1 R2 B1 B2
  go_enter Tryz.func176, Tryz.ntmps176
  go_wp2
  go_ret
  exact ⟨p, q, _, rfl, HR.out, rfl⟩
set_option maxHeartbeats 1000000 in
theorem scaled_any (y u v k : Nat) (w : World) :
    Calls Tryz.prog 171 #[.agg #[.float .f32 y, .complex .f32 u v], .float .f32 k] w fun e w' => CellR (ScC k (y, u, v)) w e w' := by
  have HS := fun W => Lib.hid (scaledColour_any u v k W)
  go_enter Tryz.func171, Tryz.ntmps171
  go_wp2
  go_region_with (go_at_call 176; refine (HS _).out.mono ?_; rintro e w2 ⟨p, q, n, rfl, hpq, rfl⟩)
  all_goals
    have HPQ := Lib.hid (show ScC k (y, u, v) (y, p, q) from ⟨rfl, hpq.1, hpq.2⟩)
    clear hpq HS
    go_wp2
    refine bodyPost_ret (v := .agg #[.float .f32 y, .complex .f32 p q]) ?_ rfl (CellR.mk HPQ.out ?_)
  all_goals first | (simp [results, Tryz.results171, go_sem]; done) | exact belowDN (((Below.refl _ _).alloc (Nat.le_refl _) _).alloc (by simp) _).drew _ | exact ((belowDN (((Below.refl _ _).alloc (Nat.le_refl _) _).alloc (by simp) _) _).setCell (by simp) _).setCell (by simp) _
set_option maxHeartbeats 1000000 in
theorem scaleLit_any (y u v k b : Nat) (w : World) (hb : w.cell? ⟨b, 0, none⟩ = some (.float .f32 k)) :
    Calls Tryz.prog 170 #[.agg #[.float .f32 y, .complex .f32 u v], .pointer (some ⟨b, 0, none⟩)] w fun e w' => CellR (ScC k (y, u, v)) w e w' := by
  have HS := fun W => Lib.hid (scaled_any y u v k W)
  have hlt : b < w.heap.size := World.block_lt_of_cell? w _ hb
  go_enter Tryz.func170, Tryz.ntmps170
  go_wp2_with fail
  refine (HS _).out.mono ?_
  rintro e w1 ⟨⟨y', p, q⟩, rfl, hR, hb1⟩
  have HR := Lib.hid hR
  have hz : ((w.alloc (.cells #[.float .f32 y, .complex .f32 u v] 61)).alloc (.cells #[.float .f32 0, .complex .f32 0 0] 61)).heap[w.heap.size + 1]? = some (.cells #[.float .f32 0, .complex .f32 0 0] 61 (0, 0)) := by
    have := heap_alloc_new (w.alloc (.cells #[.float .f32 y, .complex .f32 u v] 61)) (.cells #[.float .f32 0, .complex .f32 0 0] 61)
    simpa using this
  have hB : w1.heap[w.heap.size + 1]? = some (.cells #[.float .f32 0, .complex .f32 0 0] 61 (0, 0)) := (hb1.block _ (by simp)).trans hz
  have c0 : w1.cell? ⟨w.heap.size + 1, 0, none⟩ = some (.float .f32 0) := by simp [World.cell?, hB]
  have c1 : w1.cell? ⟨w.heap.size + 1, 1, none⟩ = some (.complex .f32 0 0) := by simp [World.cell?, hB]
  have f0 : w1.frozen? ⟨w.heap.size + 1, 0, none⟩ = false := by simp [World.frozen?, hB]
  have f1 : w1.frozen? ⟨w.heap.size + 1, 1, none⟩ = false := by simp [World.frozen?, hB]
  have hB2 := heap_put (i := 1) (v := .complex .f32 p q) (heap_put (i := 0) (v := .float .f32 y') hB)
  have d0 : ((w1.setCell ⟨w.heap.size + 1, 0, none⟩ (.float .f32 y')).setCell ⟨w.heap.size + 1, 1, none⟩ (.complex .f32 p q)).cell? ⟨w.heap.size + 1, 0, none⟩ = some (.float .f32 y') := by simp [World.cell?, hB2]
  have d1 : ((w1.setCell ⟨w.heap.size + 1, 0, none⟩ (.float .f32 y')).setCell ⟨w.heap.size + 1, 1, none⟩ (.complex .f32 p q)).cell? ⟨w.heap.size + 1, 1, none⟩ = some (.complex .f32 p q) := by simp [World.cell?, hB2]
  clear hz hB hB2 hR
  have hbel : Below w.heap.size w w1 := ((Below.refl w.heap.size w).alloc (Nat.le_refl _) _ |>.alloc (by simp) _).trans (hb1.mono (by simp; omega))
  clear hb1
  have hbel2 := (hbel.setCell (p := ⟨w.heap.size + 1, 0, none⟩) (by simp) (.float .f32 y')).setCell (p := ⟨w.heap.size + 1, 1, none⟩) (by simp) (.complex .f32 p q)
  go_wp2
  generalize ((w1.setCell ⟨w.heap.size + 1, 0, none⟩ (.float .f32 y')).setCell ⟨w.heap.size + 1, 1, none⟩ (.complex .f32 p q)) = w2 at *
  refine bodyPost_ret (v := .agg #[.float .f32 y', .complex .f32 p q]) ?_ rfl (CellR.mk HR.out ?_)
  · simp [results, Tryz.results170, go_sem, d0, d1]
  · exact hbel2
theorem Made.more {w : World} {b n k : Nat} {rs : List C3} {r : C3} (h : Made w b n k rs) (hl : rs.length = k) (hk : k < n) : Made ((w.setCell ⟨b, k * 2, none⟩ (.float .f32 r.1)).setCell ⟨b, k * 2 + 1, none⟩ (.complex .f32 r.2.1 r.2.2)) b n (k + 1) (rs ++ [r]) := by
  have h2 : Made w b n k (rs ++ [r]) := by
    obtain ⟨cur, h1, h2, h3⟩ := h
    refine ⟨cur, h1, h2, fun i hi hik => ?_⟩
    rw [List.getElem_append_left (by omega)]
    exact h3 i (by omega) hik
  have hs := h2.step (by simp; omega) (by simp; omega)
  have e : (rs ++ [r])[k]'(by simp; omega) = r := by subst hl; simp
  rwa [e] at hs
theorem ScL.get_snoc {k j : Nat} {cs ds : List C3} {d : C3} (h : ∀ i (h : i < ds.length) (h' : i < cs.length), ScC k cs[i] ds[i]) (hj : ds.length = j) (hk : j < cs.length) (hd : ScC k cs[j] d) : ∀ i (h : i < (ds ++ [d]).length) (h' : i < cs.length), ScC k cs[i] (ds ++ [d])[i] := by
  subst hj
  intro i h1 h2
  by_cases e : i < ds.length
  · rw [List.getElem_append_left e]; exact h i e h2
  · have e2 : i = ds.length := by simp at h1; omega
    subst e2
    rw [List.getElem_append_right (by omega)]
    simpa using hd
def ChA (k : Nat) (cs : List C3) (w : World) (e : Ending) (w' : World) : Prop := ∃ v ds, e = .returned v ∧ ScL k cs ds ∧ RNew w' w.heap.size v ds ∧ Below w.heap.size w w'
set_option maxHeartbeats 2000000 in
theorem changedScale_all (b k : Nat) (v : Value) (cs : List C3) (w : World) (h : RowV w v cs) (hne : cs ≠ []) (hl : cs.length ≤ 1000000) (hb : w.cell? ⟨b, 0, none⟩ = some (.float .f32 k)) :
    Calls Tryz.prog 151 #[v, .func (.func 170) #[] #[.pointer (some ⟨b, 0, none⟩)]] w fun e w' => ChA k cs w e w' := by
  rcases h with ⟨_, h1⟩ | ⟨g, o, cap, rfl, hcap, hcell⟩
  · exact absurd h1 hne
  · have HC := Lib.hid hcell
    have HBC := Lib.hid hb
    have hmk := make_cells cs.length hl
    clear hcell hne hb
    go_enter Tryz.func151, Tryz.ntmps151
    go_wp2
    have hst := Made.start w cs.length []
    have hbel : Below w.heap.size w (w.alloc (.cells (madeCells #[.float .f32 0, .complex .f32 0 0] (cs.length * 2)) 61)) := (Below.refl _ _).alloc (Nat.le_refl _) _
    have hsz : w.heap.size < (w.alloc (.cells (madeCells #[.float .f32 0, .complex .f32 0 0] (cs.length * 2)) 61)).heap.size := by simp
    clear hmk
    generalize w.alloc (.cells (madeCells #[.float .f32 0, .complex .f32 0 0] (cs.length * 2)) 61) = w1 at *
    go_loopw [13] (fun i wr => ∃ (j : Nat) (ds : List C3), j ≤ cs.length ∧ i = .int .i64 (j : Int) ∧ ds.length = j ∧ (∀ i (h : i < ds.length) (h' : i < cs.length), ScC k cs[i] ds[i]) ∧ Below w.heap.size w wr ∧ w.heap.size < wr.heap.size ∧ Made wr w.heap.size cs.length j ds) (fun i _ => cs.length - (intOf i).toNat)
    case atStart => exact ⟨0, [], Nat.zero_le _, rfl, rfl, (fun i h => absurd h (by simp)), hbel, hsz, hst⟩
    case round =>
      obtain ⟨j, ds, hk, rfl, hdl, hsc, hb, hs, hm⟩ := hrel
      have HM := Lib.hid hm
      have HDL := Lib.hid hdl
      have HSC := Lib.hid hsc
      clear hm hdl hsc
      by_cases hlt : j < cs.length
      · obtain ⟨hc0, hc1⟩ := HC.out j hlt
        have hd0 := (grown_of hb).cell hc0 (by simp)
        have hd1 := (grown_of hb).cell hc1 (by simp)
        have hbw0 : b < w.heap.size := World.block_lt_of_cell? w _ HBC.out
        have HK := fun W (hW : Below w.heap.size w W) => Lib.hid (scaleLit_any cs[j].1 cs[j].2.1 cs[j].2.2 k b W ((grown_of hW).cell HBC.out (by simp)))
        have HSN := Lib.hid (fun d (hd : ScC k cs[j] d) => ScL.get_snoc HSC.out HDL.out hlt hd)
        clear hc0 hc1
        have HE : ∀ W (hW : Below w.heap.size w W), Calls Tryz.prog 170 #[.agg #[.float .f32 cs[j].1, .complex .f32 cs[j].2.1 cs[j].2.2], .pointer (some ⟨b, 0, none⟩)] W fun e w' => CellR (ScC k cs[j]) W e w' := fun W hW => (HK W hW).out
        clear HK
        generalize cs[j] = c at *
        go_wp2_with fail
        have hbA := hb.alloc hb.size (.cells #[.float .f32 c.1, .complex .f32 c.2.1 c.2.2] 61)
        refine (HE _ hbA).mono ?_
        rintro e w2 ⟨d, rfl, hd, hb2⟩
        have HD := Lib.hid (HSN.out d hd)
        have hm2 : Made w2 w.heap.size cs.length j ds := HM.out.kept ((hb2.block _ (by simp; omega)).trans (Below.heap_alloc _ _ _ hs))
        have hbw : Below w.heap.size w w2 := hbA.trans (hb2.mono (by simp; omega))
        have hs2 : w.heap.size < w2.heap.size := Nat.lt_of_lt_of_le hs (Nat.le_trans (by simp) hb2.size)
        obtain ⟨⟨x0, hx0⟩, ⟨x1, hx1⟩, hf0, hf1⟩ := hm2.at j hlt
        have HM3 := Lib.hid (hm2.more (r := d) HDL.out hlt)
        have HDL2 := Lib.hid (show (ds ++ [d]).length = j + 1 by simp [HDL.out])
        clear hm2 hb2 hbA hd0 hd1 hd HE HSN
        go_wp2
        go_roundw
        case rel => exact ⟨j + 1, ds ++ [d], by omega, by go_num, HDL2.out, HD.out, (hbw.setCell (Nat.le_refl _) _).setCell (Nat.le_refl _) _, by simpa [World.setCell] using hs2, HM3.out⟩
        case measure => simp [intOf]; omega
      · have hkk : j = cs.length := by omega
        have HF := Lib.hid (show RNew wr w.heap.size (.slice (some ⟨w.heap.size, 0, none⟩) cs.length cs.length) ds from by
          have h1 := HM.out
          have h2 := HDL.out
          rw [hkk] at h1 h2
          exact h1.rnew h2 (Nat.le_refl _))
        have HL := Lib.hid (show ScL k cs ds from ⟨by rw [HDL.out, hkk], HSC.out⟩)
        clear HM HDL HSC
        subst hkk
        go_wp2
        go_ret
        exact ⟨_, ds, rfl, HL.out, HF.out, hb⟩
set_option maxHeartbeats 1000000 in
theorem scaleRow_any (v : Value) (cs : List C3) (k : Nat) (w : World) (h : RowV w v cs) (hl : cs.length ≤ 1000000) :
    Calls Tryz.prog 155 #[v, .float .f32 k] w fun e w' => ScaleA cs k w e w' := by
  have hbA := (Below.refl w.heap.size w).alloc (Nat.le_refl _) (.cells #[.float .f32 k] 25)
  have HR := Lib.hid (rowOk_any v cs (w.alloc (.cells #[.float .f32 k] 25)) (h.below hbA) hl)
  have hcl : (w.alloc (.cells #[.float .f32 k] 25)).cell? ⟨w.heap.size, 0, none⟩ = some (.float .f32 k) := (cell_of_row _ _ 0 _ _ _ (heap_alloc_new w _)).trans rfl
  have HCL := Lib.hid hcl
  have HV := Lib.hid (h.below hbA)
  clear hcl h
  cases hr : rok cs with
  | false =>
    rw [hr] at HR
    have HRK := Lib.hid hr
    clear hr
    go_enter Tryz.func155, Tryz.ntmps155
    go_wp2_with fail
    refine HR.out.mono ?_
    rintro e w1 ⟨rfl, hb1⟩
    have hb := below_trans hbA hb1 hbA.size
    go_wp2
    go_ret2
    exact ⟨_, [], false, rfl, .inr ⟨HRK.out, rfl, rfl⟩, RNew.nil _ _, hb⟩
  | true =>
    rw [hr] at HR
    have HRK := Lib.hid hr
    have HNE := Lib.hid (rok_ne hr)
    clear hr
    go_enter Tryz.func155, Tryz.ntmps155
    go_wp2_with fail
    refine HR.out.mono ?_
    rintro e w1 ⟨rfl, hb1⟩
    have hb := below_trans hbA hb1 hbA.size
    have HCH := Lib.hid (changedScale_all w.heap.size k v cs w1 (HV.out.below hb1) HNE.out hl ((grown_of hb1).cell HCL.out (by simp)))
    clear HR HCL hbA hb1
    go_wp2_with fail
    refine HCH.out.mono ?_
    rintro e w2 ⟨v2, ds, rfl, hds, hn2, hb2⟩
    have hb02 := below_trans hb hb2 hb.size
    have HR2 := Lib.hid (rowOk_any v2 ds w2 hn2.row (by rw [hds.1]; exact hl))
    have HN2 := Lib.hid (hn2.mono hb.size)
    have HDS := Lib.hid hds
    clear hn2 hds hb2 hb HCH
    go_wp2_with fail
    refine HR2.out.mono ?_
    rintro e w3 ⟨rfl, hb3⟩
    have hb03 := below_trans hb02 hb3 hb02.size
    cases hrd : rok ds with
    | false =>
      have HRD := Lib.hid hrd
      clear hrd
      go_wp2
      go_ret2
      exact ⟨_, [], false, rfl, .inl ⟨HRK.out, ds, HDS.out, HRD.out.symm, by rw [HRD.out]; rfl⟩, RNew.nil _ _, hb03⟩
    | true =>
      have HRD := Lib.hid hrd
      have HF := Lib.hid (HN2.out.below hb3)
      clear hrd hb3
      go_wp2
      go_ret2
      exact ⟨_, ds, true, rfl, .inl ⟨HRK.out, ds, HDS.out, HRD.out.symm, by rw [HRD.out]; rfl⟩, HF.out, hb03⟩
end Go.Proofs.YtobpnoiienpipaaGreat

/-
  What is proved: what the program answers of rows whose colours are all multiplied by one number.
  Conditions: the rows can be read.
-/
namespace Go.Proofs.YtobpnoiienpipaaGreat
set_option linter.unusedVariables false
open Go.RowKit
attribute [local go_sem] run_store_float run_store_complex unary_negf neg256

theorem ScaleRR.sm {cs : List C3} {k k' : Nat} {l l' : List C3} {a b : Bool} (hk : Sm k k') (h : ScaleRR cs k l a) (h' : ScaleRR cs k' l' b) : a = b ∧ l = l' := by
  rcases h with ⟨h1, ds, h2, rfl, rfl⟩ | ⟨h1, h2, h3⟩ <;> rcases h' with ⟨k1, es, k2, rfl, rfl⟩ | ⟨k1, k2, k3⟩
  · have hs : CSameL ds es := ⟨by rw [h2.1, k2.1], fun i hi hi' => by
      obtain ⟨a1, ⟨a2, a3⟩, _⟩ := h2.2 i hi (by rw [← h2.1]; exact hi)
      obtain ⟨b1, ⟨b2, b3⟩, _⟩ := k2.2 i hi' (by rw [← h2.1]; exact hi)
      exact ⟨.inl (a1.trans b1.symm), Res.same (Sm.refl _) hk a2 b2, Res.same (Sm.refl _) hk a3 b3⟩⟩
    have hr := hs.rok
    cases h3 : rok ds with
    | true =>
      rw [h3] at hr
      rw [← hr]
      exact ⟨rfl, same_eq hs h3⟩
    | false =>
      rw [h3] at hr
      rw [← hr]
      exact ⟨rfl, rfl⟩
  · rw [h1] at k1; cases k1
  · rw [h1] at k1; cases k1
  · exact ⟨h3.trans k3.symm, h2.trans k2.symm⟩
/-- What is answered of rows: all of them, or nothing. -/
def SatRR (rows : List (List C3)) (k : Nat) (out : List (List C3)) (ok : Bool) : Prop :=
  (ok = true ∧ out.length = rows.length ∧ ∀ i (h : i < out.length) (h' : i < rows.length), ScaleRR rows[i] k out[i] true) ∨ (ok = false ∧ out = [] ∧ ∃ i, ∃ h : i < rows.length, ScaleRR rows[i] k [] false)
theorem SatRR.sm {rows : List (List C3)} {k k' : Nat} {out out' : List (List C3)} {a b : Bool} (hk : Sm k k') (h : SatRR rows k out a) (h' : SatRR rows k' out' b) : a = b ∧ out = out' := by
  rcases h with ⟨rfl, h1, h2⟩ | ⟨rfl, rfl, i, hi, h2⟩ <;> rcases h' with ⟨rfl, k1, k2⟩ | ⟨rfl, rfl, j, hj, k2⟩
  · exact ⟨rfl, List.ext_getElem (by omega) fun i hi hi' => ((h2 i hi (by omega)).sm hk (k2 i hi' (by omega))).2⟩
  · cases ((h2 j (by omega) hj).sm hk k2).1
  · cases (h2.sm hk (k2 i (by omega) hi)).1
  · exact ⟨rfl, rfl⟩
def SatA (rows : List (List C3)) (k : Nat) (w : World) (e : Ending) (w' : World) : Prop := ∃ v out ss ok, e = .returned (.tuple #[v, .bool ok]) ∧ SatRR rows k out ok ∧ GridN w' w.heap.size v out ss ∧ Below w.heap.size w w'
theorem ScaleRR.len {cs : List C3} {k : Nat} {l : List C3} (h : ScaleRR cs k l false) : l = [] := by
  rcases h with ⟨_, ds, _, h1, rfl⟩ | ⟨_, h1, _⟩
  · rw [if_neg (by rw [← h1]; decide)]
  · exact h1
theorem getElem_snoc {α : Type} {xs : List α} {x : α} {P : Nat → α → Prop} {n : Nat} (h : ∀ i (h : i < xs.length), P i xs[i]) (hn : xs.length = n) (hx : P n x) : ∀ i (h : i < (xs ++ [x]).length), P i (xs ++ [x])[i] := by
  subst hn
  intro i hi
  by_cases e : i < xs.length
  · rw [List.getElem_append_left e]; exact h i e
  · have e2 : i = xs.length := by simp at hi; omega
    subst e2
    rw [List.getElem_append_right (by omega)]
    simpa using hx
theorem RNew.some5 {w : World} {base : Nat} {v : Value} {cs : List C3} (h : RNew w base v cs) (h0 : cs ≠ []) : ∃ g cap, v = .slice (some ⟨g, 0, none⟩) cs.length cap ∧ cs.length ≤ cap ∧ base ≤ g ∧ g < w.heap.size := by
  rcases h with ⟨_, e⟩ | ⟨g, cap, cur, rfl, h1, h2, h3, _⟩
  · exact absurd e h0
  · exact ⟨g, cap, rfl, h2, h1, (Array.getElem?_eq_some_iff.1 h3).1⟩
set_option maxRecDepth 100000 in
set_option maxHeartbeats 4000000 in
theorem saturate_any (v : Value) (rows : List (List C3)) (ss : List SV) (k : Nat) (w : World) (h : RowsV w v rows ss) (hl : rows.length ≤ 1000000) (hr : ∀ r ∈ rows, r.length ≤ 1000000) :
    Calls Tryz.prog 133 #[v, .float .f32 k] w fun e w' => SatA rows k w e w' := by
  obtain ⟨a, c, rfl, hcell⟩ := h.any
  have hl1 := h.len
  have HC := Lib.hid hcell
  have HE := Lib.hid h.each
  have HRL := Lib.hid hr
  have HL1 := Lib.hid hl1
  have hls : ss.length ≤ 1000000 := by omega
  have HG0 := Lib.hid (GridN.nil0 w w.heap.size)
  clear h hcell hr hl1
  go_enter Tryz.func133, Tryz.ntmps133
  go_wp2
  go_loopw [6, 13] (fun m i wr => ∃ (j : Nat) (out : List (List C3)) (so : List SV), j ≤ ss.length ∧ i = .int .i64 (j : Int) ∧ out.length = j ∧ (∀ i (h : i < out.length) (h' : i < rows.length), ScaleRR rows[i] k out[i] true) ∧ GridN wr w.heap.size m out so ∧ Below w.heap.size w wr) (fun _ i _ => ss.length - (intOf i).toNat)
  case atStart => exact ⟨0, [], [], Nat.zero_le _, rfl, rfl, (fun i h => absurd h (by simp)), HG0.out, Below.refl _ _⟩
  case round =>
    obtain ⟨j, out, so, hj, rfl, hol, hsc, hgr, hb⟩ := hrel
    have HGR := Lib.hid hgr
    have HOL := Lib.hid hol
    have HSC := Lib.hid hsc
    have hsol : so.length ≤ j := by have := hgr.len; omega
    clear HG0 hgr hol hsc
    by_cases hlt : j < ss.length
    · obtain ⟨g1, o1, rfl, hcap1, hc1⟩ := HC.out j hlt
      have hltr : j < rows.length := by have := HL1.out; omega
      have hc1' := (grown_of hb).cell hc1 (by simp)
      have HSR := Lib.hid (scaleRow_any ss[j].v rows[j] k wr ((HE.out j hlt hltr).below hb) (HRL.out _ (List.getElem_mem hltr)))
      have HNX := Lib.hid (fun l (hl : ScaleRR rows[j] k l true) => getElem_snoc (P := fun i x => ∀ h' : i < rows.length, ScaleRR rows[i] k x true) (x := l) (fun i hi h' => HSC.out i hi h') HOL.out (fun h' => hl))
      have HNO := Lib.hid (fun l (hl : ScaleRR rows[j] k l false) => (show ∃ i, ∃ h : i < rows.length, ScaleRR rows[i] k [] false from ⟨j, hltr, by have e := hl.len; rw [e] at hl; exact hl⟩))
      clear hc1
      generalize ss[j].v = x at *
      generalize rows[j] = cs at *
      go_wp2_with fail
      refine HSR.out.mono ?_
      rintro e w5 ⟨v5, l, ok, rfl, hl5, hn5, hb5⟩
      have hsz : w.heap.size ≤ wr.heap.size := hb.size
      have hb05 := below_trans hb hb5 hb.size
      cases ok with
      | false =>
        have HNN := Lib.hid (HNO.out l hl5)
        clear hl5 hn5 hb5 HSR HNX HNO hc1'
        go_wp2
        go_ret2
        exact ⟨_, [], [], false, rfl, .inr ⟨rfl, rfl, HNN.out⟩, GridN.nil0 _ _, hb05⟩
      | true =>
        have HNN := Lib.hid (HNX.out l hl5)
        obtain ⟨g5, cap5, e5, hcap5, hg5, hg5'⟩ := hn5.some5 (rok_ne hl5.yes.1)
        subst e5
        have HN5 := Lib.hid hn5
        have HB5 := Lib.hid hb5
        have h5s := hb5.size
        have HOW5 := Lib.hid ((HGR.out.own.kept (grown_of hb5) (by cases u6.ownBlock <;> simp)).alloc (.cells #[.slice (some ⟨g5, 0, none⟩) l.length cap5] 40))
        have HST := Lib.hid (fun (w6 : World) (g6 cap6 : Nat) ho hg hor => HGR.out.step (w6 := w6) (g6 := g6) (n6 := so.length + 1) (cap6 := cap6) (s := (some ⟨g5, 0, none⟩, l.length, cap5)) (ys := l) hsz HB5.out HN5.out (.cells #[.slice (some ⟨g5, 0, none⟩) l.length cap5] 40) ho hg hor)
        clear hl5 hn5 hb5 HSR HNX HNO hc1'
        go_wp2_with (at_builtin; refine LSc_ok.snoc rfl (.tmp 25) (.tmp 27) rfl w.heap.size u6 so so.length rfl HOW5.out rfl _ rfl (some ⟨g5, 0, none⟩, l.length, cap5) (lit_cells w5 _ _) (by omega) (by simp; omega) ?_; intro g6 cap6 w6 ho6 hg6 hor6 hlt6)
        obtain ⟨hgn, hgw⟩ := HST.out w6 g6 cap6 ho6 hg6 hor6
        have HGN := Lib.hid hgn
        have hb6 := hb.grown hgw hsz (fun k e => (HGR.out.own.lt k e).1)
        clear ho6 hg6 hor6 hgn hgw HST
        go_wp2
        go_roundw
        case rel => exact ⟨j + 1, out ++ [l], so ++ [(some ⟨g5, 0, none⟩, l.length, cap5)], by omega, by go_num, by simp [HOL.out], fun i h h' => HNN.out i h h', HGN.out, hb6⟩
        case measure => simp [intOf]; omega
    · have hkk : j = ss.length := by omega
      have HF := Lib.hid (show SatRR rows k out true from .inl ⟨rfl, by have := HL1.out; have := HOL.out; omega, HSC.out⟩)
      clear HSC HOL
      subst hkk
      go_wp2
      go_ret2
      exact ⟨_, out, so, true, rfl, HF.out, HGR.out, hb⟩
end Go.Proofs.YtobpnoiienpipaaGreat
