/-
  What is proved: pictures as they lie in memory; the walks of PictureOk (the program's and the model's).
  Conditions: the picture can be read.
-/
import Derived.Test.YtfoggbcfkniimaaRowCnt
namespace Go.Proofs.Ytfoggbcfkniimaa
set_option linter.unusedVariables false
open Go.RowKit
attribute [local go_sem] run_store_float run_store_complex unary_negf neg256

/-- The slice v of rows reads as rs. -/
def PicV (w : World) (v : Value) (rs : List (List C3)) : Prop :=
  (v = .slice none 0 0 ∧ rs = []) ∨ ∃ g o cap, v = .slice (some ⟨g, o, none⟩) rs.length cap ∧ rs.length ≤ cap ∧ ∀ i (h : i < rs.length), ∃ rv, w.cell? ⟨g, o + i, none⟩ = some rv ∧ RowV w rv rs[i]
theorem PicV.grown {w w' : World} {v : Value} {rs : List (List C3)} (h : PicV w v rs) (hg : w.grownBy w' none) : PicV w' v rs := by
  rcases h with h | ⟨g, o, cap, h1, h2, h3⟩
  · exact .inl h
  · refine .inr ⟨g, o, cap, h1, h2, fun i hi => ?_⟩
    obtain ⟨rv, g1, g2⟩ := h3 i hi
    exact ⟨rv, hg.cell g1 (by simp), g2.grown hg⟩
theorem PicV.below {w w' : World} {v : Value} {rs : List (List C3)} (h : PicV w v rs) (hb : Below w.heap.size w w') : PicV w' v rs := h.grown (grown_of hb)
theorem PicV.nil (w : World) : PicV w (.slice none 0 0) [] := .inl ⟨rfl, rfl⟩
theorem PicV.lenv {w : World} {v : Value} {rs : List (List C3)} (h : PicV w v rs) : ∃ a cap, v = .slice a rs.length cap := by
  rcases h with ⟨h, h2⟩ | ⟨g, o, cap, h, _⟩
  · subst h2; exact ⟨none, 0, h⟩
  · exact ⟨_, _, h⟩
theorem PicV.len {w : World} {v : Value} {rs : List (List C3)} (h : PicV w v rs) (hne : rs ≠ []) : ∃ g o cap, v = .slice (some ⟨g, o, none⟩) rs.length cap ∧ rs.length ≤ cap ∧
    ∀ i (h : i < rs.length), ∃ a c, w.cell? ⟨g, o + i, none⟩ = some (.slice a rs[i].length c) ∧ RowV w (.slice a rs[i].length c) rs[i] := by
  rcases h with ⟨_, h⟩ | ⟨g, o, cap, h1, h2, h3⟩
  · exact absurd h hne
  · refine ⟨g, o, cap, h1, h2, fun i hi => ?_⟩
    obtain ⟨rv, g1, g2⟩ := h3 i hi
    obtain ⟨a, c, rfl⟩ := g2.lenv
    exact ⟨a, c, g1, g2⟩
/-- Few enough cells in each row. -/
def Thin (rs : List (List C3)) : Prop := ∀ r ∈ rs, r.length ≤ 1000000
/-- A valid row, as long as the first. -/
def rowFit (n : Nat) (r : List C3) : Bool := rok r && decide (r.length = n)
def sizeOk (rs : List (List C3)) : Bool := decide (rs.length % 4 = 0) && (decide (4 ≤ rs.length) && decide (rs.length ≤ 64))
def pok (rs : List (List C3)) : Bool := sizeOk rs && rs.all (rowFit (rs.headD []).length)
theorem pok_size {rs : List (List C3)} (h : sizeOk rs = false) : pok rs = false := by unfold pok; rw [h]; rfl
theorem pok_rows {rs : List (List C3)} (h : sizeOk rs = true) : pok rs = rs.all (rowFit (rs.headD []).length) := by unfold pok; rw [h]; rfl
theorem sizeOk_iff {rs : List (List C3)} : sizeOk rs = true ↔ rs.length % 4 = 0 ∧ 4 ≤ rs.length ∧ rs.length ≤ 64 := by
  unfold sizeOk
  rw [Bool.and_eq_true, Bool.and_eq_true, decide_eq_true_iff, decide_eq_true_iff, decide_eq_true_iff]
theorem rowCnt_len {rs : List (List C3)} : rowCnt (rs.length : Int) = sizeOk rs := by
  unfold rowCnt sizeOk
  have e1 : decide ((rs.length : Int) % 4 = 0) = decide (rs.length % 4 = 0) := decide_eq_decide.2 (by omega)
  have e2 : decide ((4 : Int) ≤ rs.length) = decide (4 ≤ rs.length) := decide_eq_decide.2 (by omega)
  have e3 : decide ((rs.length : Int) ≤ 64) = decide (rs.length ≤ 64) := decide_eq_decide.2 (by omega)
  rw [e1, e2, e3]
theorem head_get {rs : List (List C3)} (h : 0 < rs.length) : rs.headD [] = rs[0] := by
  cases rs with
  | nil => simp at h
  | cons r rs => rfl

set_option maxHeartbeats 1000000 in
theorem pictureOk_no (v : Value) (rs : List (List C3)) (w : World) (h : PicV w v rs) (hno : sizeOk rs = false) (hl : rs.length ≤ 1000000) :
    Calls Try.prog 38 #[v] w fun e w' => e = .returned (.bool false) ∧ Below w.heap.size w w' := by
  obtain ⟨a, cap, rfl⟩ := h.lenv
  have HR := Lib.hid (isRowCount_any (rs.length : Int) (by omega) (by omega) w)
  rw [rowCnt_len, hno] at HR
  clear h hno
  go_enter Try.func38, Try.ntmps38
  go_wp2_with fail
  refine HR.out.mono ?_
  rintro e w1 ⟨rfl, rfl⟩
  go_wp2
  go_ret
  exact ⟨rfl, Below.refl _ _⟩

set_option maxHeartbeats 4000000 in
theorem pictureOk_rows (v : Value) (rs : List (List C3)) (w : World) (h : PicV w v rs) (hs : sizeOk rs = true) (ht : Thin rs) :
    Calls Try.prog 38 #[v] w fun e w' => e = .returned (.bool (rs.all (rowFit (rs.headD []).length))) ∧ Below w.heap.size w w' := by
  obtain ⟨h4, h5, h6⟩ := sizeOk_iff.1 hs
  have HRC := Lib.hid (isRowCount_any (rs.length : Int) (by omega) (by omega) w)
  rw [rowCnt_len, hs] at HRC
  have h0 : 0 < rs.length := by omega
  have hne : rs ≠ [] := by rintro rfl; simp at h5
  obtain ⟨g, o, cap, rfl, hcap, hcell⟩ := h.len hne
  obtain ⟨a0, c0, hc0, _⟩ := hcell 0 h0
  rw [Nat.add_zero] at hc0
  rw [head_get h0]
  have HX := Lib.hid hcell
  have HT := Lib.hid ht
  have HF := Lib.hid (fun k (hk : k < rs.length) => show rowFit (rs[0]'h0).length rs[k] = (rok rs[k] && decide (rs[k].length = (rs[0]'h0).length)) from rfl)
  generalize hp : rowFit (rs[0]'h0).length = p at *
  generalize hn0 : (rs[0]'h0).length = n0 at *
  have HN := Lib.hid hn0
  clear hn0 hs h h4 hne hcell ht hp
  go_enter Try.func38, Try.ntmps38
  go_wp2_with fail
  refine HRC.out.mono ?_
  rintro e w0 ⟨rfl, rfl⟩
  go_wp2
  go_loopw [11] (fun i wr => ∃ k : Nat, k ≤ rs.length ∧ i = .int .i64 (k : Int) ∧ Below w.heap.size w wr ∧ (rs.take k).all p = true) (fun i _ => rs.length - (intOf i).toNat)
  case atStart => exact ⟨0, Nat.zero_le _, rfl, Below.refl _ _, by simp⟩
  case round =>
    obtain ⟨k, hk, rfl, hb, hall⟩ := hrel
    have HALL := Lib.hid hall
    clear hall
    by_cases hlt : k < rs.length
    · obtain ⟨a, c, hc, hr⟩ := HX.out k hlt
      have hck := (grown_of hb).cell hc (by simp)
      have hfk := HF.out k hlt
      have hlk := HT.out _ (List.getElem_mem hlt)
      have HST := Lib.hid (fun e => all_take hlt HALL.out e)
      have HNO := Lib.hid (fun e => all_not (p := p) hlt e)
      generalize rs[k] = r at *
      have HR := Lib.hid (rowOk_any _ r wr (hr.below hb) hlk)
      clear hr hc
      cases hrk : rok r with
      | false =>
        rw [hrk] at HR hfk
        have HH := Lib.hid (HNO.out hfk)
        clear hrk hfk
        go_wp2_with fail
        refine HR.out.mono ?_
        rintro e w1 ⟨rfl, hb1⟩
        go_wp2
        go_ret
        exact ⟨by rw [HH.out]; rfl, below_trans hb hb1 hb.size⟩
      | true =>
        rw [hrk] at HR hfk
        by_cases hln : r.length = n0
        · rw [decide_eq_true hln] at hfk
          have HH := Lib.hid (HST.out hfk)
          have hbn : ((r.length : Int) != (n0 : Int)) = false := by rw [hln]; simp
          clear hrk hfk hln
          go_wp2_with fail
          refine HR.out.mono ?_
          rintro e w1 ⟨rfl, hb1⟩
          have hz := (grown_of (below_trans hb hb1 hb.size)).cell hc0 (by simp)
          go_wp2
          go_roundw
          case rel => exact ⟨k + 1, by omega, by go_num, below_trans hb hb1 hb.size, HH.out⟩
          case measure => simp [intOf]; omega
        · rw [decide_eq_false hln] at hfk
          have HH := Lib.hid (HNO.out hfk)
          have hbn : ((r.length : Int) != (n0 : Int)) = true := by simp; omega
          clear hrk hfk hln
          go_wp2_with fail
          refine HR.out.mono ?_
          rintro e w1 ⟨rfl, hb1⟩
          have hz := (grown_of (below_trans hb hb1 hb.size)).cell hc0 (by simp)
          go_wp2
          go_ret
          exact ⟨by rw [HH.out]; rfl, below_trans hb hb1 hb.size⟩
    · have hkk : rs.take k = rs := List.take_of_length_le (by omega)
      have HK := Lib.hid hkk
      clear hkk
      go_wp2
      go_ret
      exact ⟨by have := HALL.out; rw [HK.out] at this; rw [this]; rfl, hb⟩
theorem pictureOk_any (v : Value) (rs : List (List C3)) (w : World) (h : PicV w v rs) (ht : Thin rs) (hl : rs.length ≤ 1000000) :
    Calls Try.prog 38 #[v] w fun e w' => e = .returned (.bool (pok rs)) ∧ Below w.heap.size w w' := by
  cases hs : sizeOk rs with
  | false => rw [pok_size hs]; exact pictureOk_no v rs w h hs hl
  | true => rw [pok_rows hs]; exact pictureOk_rows v rs w h hs ht
end Go.Proofs.Ytfoggbcfkniimaa
