/-
  What is proved: pictures as they lie in memory; the walks of PictureOk (the program's and the model's).
  Conditions: the picture can be read.
-/
import Derived.Test.YtobpnoiienpipaaGreatPz31
import Derived.RangeFuncNested
import Derived.RangeFuncBound
import Derived.RangeFuncCalls
import Derived.RangeFuncLeaves
import Derived.RangeFuncBox
import Derived.Shelf.Abstract
import Derived.Shelf.RegionOpen
import Derived.OwnWalkIn
import Derived.TacticsInMore
import Derived.LoopNIn
import Derived.LoopIn
import Derived.Maps.AppendAt
import Derived.Test.YtobpnoiienpipaaGreatPz03
namespace Go.Proofs.YtobpnoiienpipaaGreat
set_option linter.unusedVariables false
open Go.RowKit
attribute [local go_sem] run_store_float run_store_complex unary_negf neg256

/-- The slice v of rows reads as rs. -/
def PicV (w : World) (v : Value) (rs : List (List C3)) : Prop :=
  (v = .slice none 0 0 ∧ rs = []) ∨ ∃ g o cap, v = .slice (some ⟨g, o, none⟩) rs.length cap ∧ rs.length ≤ cap ∧ ∀ i (h : i < rs.length), ∃ rv, w.cell? ⟨g, o + i, none⟩ = some rv ∧ RowV w rv rs[i]
theorem PicV.grown {w w' : World} {v : Value} {rs : List (List C3)} (h : PicV w v rs) (hg : w.grownBy w' none) : PicV w' v rs := by
  rcases h with h | ⟨g, o, cap, h1, h2, h3⟩
  · exact .inl h
  · refine .inr ⟨g, o, cap, h1, h2, fun i hi => ?_⟩
    obtain ⟨rv, g1, g2⟩ := h3 i hi
    exact ⟨rv, hg.cell g1 (by simp), g2.grown hg⟩
theorem PicV.below {w w' : World} {v : Value} {rs : List (List C3)} (h : PicV w v rs) (hb : Below w.heap.size w w') : PicV w' v rs := h.grown (grown_of hb)
theorem PicV.nil (w : World) : PicV w (.slice none 0 0) [] := .inl ⟨rfl, rfl⟩
theorem PicV.lenv {w : World} {v : Value} {rs : List (List C3)} (h : PicV w v rs) : ∃ a cap, v = .slice a rs.length cap := by
  rcases h with ⟨h, h2⟩ | ⟨g, o, cap, h, _⟩
  · subst h2; exact ⟨none, 0, h⟩
  · exact ⟨_, _, h⟩
theorem PicV.len {w : World} {v : Value} {rs : List (List C3)} (h : PicV w v rs) (hne : rs ≠ []) : ∃ g o cap, v = .slice (some ⟨g, o, none⟩) rs.length cap ∧ rs.length ≤ cap ∧
    ∀ i (h : i < rs.length), ∃ a c, w.cell? ⟨g, o + i, none⟩ = some (.slice a rs[i].length c) ∧ RowV w (.slice a rs[i].length c) rs[i] := by
  rcases h with ⟨_, h⟩ | ⟨g, o, cap, h1, h2, h3⟩
  · exact absurd h hne
  · refine ⟨g, o, cap, h1, h2, fun i hi => ?_⟩
    obtain ⟨rv, g1, g2⟩ := h3 i hi
    obtain ⟨a, c, rfl⟩ := g2.lenv
    exact ⟨a, c, g1, g2⟩
/-- Few enough cells in each row. -/
def Thin (rs : List (List C3)) : Prop := ∀ r ∈ rs, r.length ≤ 1000000
/-- A valid row, as long as the first. -/
def rowFit (n : Nat) (r : List C3) : Bool := rok r && decide (r.length = n)
def sizeOk (rs : List (List C3)) : Bool := decide (rs.length % 4 = 0) && (decide (4 ≤ rs.length) && decide (rs.length ≤ 64))
def pok (rs : List (List C3)) : Bool := sizeOk rs && rs.all (rowFit (rs.headD []).length)
theorem pok_size {rs : List (List C3)} (h : sizeOk rs = false) : pok rs = false := by unfold pok; rw [h]; rfl
theorem pok_rows {rs : List (List C3)} (h : sizeOk rs = true) : pok rs = rs.all (rowFit (rs.headD []).length) := by unfold pok; rw [h]; rfl
theorem sizeOk_iff {rs : List (List C3)} : sizeOk rs = true ↔ rs.length % 4 = 0 ∧ 4 ≤ rs.length ∧ rs.length ≤ 64 := by
  unfold sizeOk
  rw [Bool.and_eq_true, Bool.and_eq_true, decide_eq_true_iff, decide_eq_true_iff, decide_eq_true_iff]
theorem rowCnt_len {rs : List (List C3)} : rowCnt (rs.length : Int) = sizeOk rs := by
  unfold rowCnt sizeOk
  have e1 : decide ((rs.length : Int) % 4 = 0) = decide (rs.length % 4 = 0) := decide_eq_decide.2 (by omega)
  have e2 : decide ((4 : Int) ≤ rs.length) = decide (4 ≤ rs.length) := decide_eq_decide.2 (by omega)
  have e3 : decide ((rs.length : Int) ≤ 64) = decide (rs.length ≤ 64) := decide_eq_decide.2 (by omega)
  rw [e1, e2, e3]
theorem head_get {rs : List (List C3)} (h : 0 < rs.length) : rs.headD [] = rs[0] := by
  cases rs with
  | nil => simp at h
  | cons r rs => rfl

set_option maxHeartbeats 1000000 in
theorem pictureOk_no (v : Value) (rs : List (List C3)) (w : World) (h : PicV w v rs) (hno : sizeOk rs = false) (hl : rs.length ≤ 1000000) :
    Calls Tryz.prog 26 #[v] w fun e w' => e = .returned (.bool false) ∧ Below w.heap.size w w' := by
  obtain ⟨a, cap, rfl⟩ := h.lenv
  have HR := Lib.hid (isRowCount_any (rs.length : Int) (by omega) (by omega) w)
  rw [rowCnt_len, hno] at HR
  clear h hno
  go_enter Tryz.func26, Tryz.ntmps26
  go_wp2_with fail
  refine HR.out.mono ?_
  rintro e w1 ⟨rfl, rfl⟩
  go_wp2
  go_ret
  exact ⟨rfl, Below.refl _ _⟩

set_option maxHeartbeats 4000000 in
theorem pictureOk_rows (v : Value) (rs : List (List C3)) (w : World) (h : PicV w v rs) (hs : sizeOk rs = true) (ht : Thin rs) :
    Calls Tryz.prog 26 #[v] w fun e w' => e = .returned (.bool (rs.all (rowFit (rs.headD []).length))) ∧ Below w.heap.size w w' := by
  obtain ⟨h4, h5, h6⟩ := sizeOk_iff.1 hs
  have HRC := Lib.hid (isRowCount_any (rs.length : Int) (by omega) (by omega) w)
  rw [rowCnt_len, hs] at HRC
  have h0 : 0 < rs.length := by omega
  have hne : rs ≠ [] := by rintro rfl; simp at h5
  obtain ⟨g, o, cap, rfl, hcap, hcell⟩ := h.len hne
  obtain ⟨a0, c0, hc0, _⟩ := hcell 0 h0
  rw [Nat.add_zero] at hc0
  rw [head_get h0]
  have HX := Lib.hid hcell
  have HT := Lib.hid ht
  have HF := Lib.hid (fun k (hk : k < rs.length) => show rowFit (rs[0]'h0).length rs[k] = (rok rs[k] && decide (rs[k].length = (rs[0]'h0).length)) from rfl)
  generalize hp : rowFit (rs[0]'h0).length = p at *
  generalize hn0 : (rs[0]'h0).length = n0 at *
  have HN := Lib.hid hn0
  clear hn0 hs h h4 hne hcell ht hp
  go_enter Tryz.func26, Tryz.ntmps26
  go_wp2_with fail
  refine HRC.out.mono ?_
  rintro e w0 ⟨rfl, rfl⟩
  go_wp2
  go_loopw [11] (fun i wr => ∃ k : Nat, k ≤ rs.length ∧ i = .int .i64 (k : Int) ∧ Below w.heap.size w wr ∧ (rs.take k).all p = true) (fun i _ => rs.length - (intOf i).toNat)
  case atStart => exact ⟨0, Nat.zero_le _, rfl, Below.refl _ _, by simp⟩
  case round =>
    obtain ⟨k, hk, rfl, hb, hall⟩ := hrel
    have HALL := Lib.hid hall
    clear hall
    by_cases hlt : k < rs.length
    · obtain ⟨a, c, hc, hr⟩ := HX.out k hlt
      have hck := (grown_of hb).cell hc (by simp)
      have hfk := HF.out k hlt
      have hlk := HT.out _ (List.getElem_mem hlt)
      have HST := Lib.hid (fun e => all_take hlt HALL.out e)
      have HNO := Lib.hid (fun e => all_not (p := p) hlt e)
      generalize rs[k] = r at *
      have HR := Lib.hid (rowOk_any _ r wr (hr.below hb) hlk)
      clear hr hc
      cases hrk : rok r with
      | false =>
        rw [hrk] at HR hfk
        have HH := Lib.hid (HNO.out hfk)
        clear hrk hfk
        go_wp2_with fail
        refine HR.out.mono ?_
        rintro e w1 ⟨rfl, hb1⟩
        go_wp2
        go_ret
        exact ⟨by rw [HH.out]; rfl, below_trans hb hb1 hb.size⟩
      | true =>
        rw [hrk] at HR hfk
        by_cases hln : r.length = n0
        · rw [decide_eq_true hln] at hfk
          have HH := Lib.hid (HST.out hfk)
          have hbn : ((r.length : Int) != (n0 : Int)) = false := by rw [hln]; simp
          clear hrk hfk hln
          go_wp2_with fail
          refine HR.out.mono ?_
          rintro e w1 ⟨rfl, hb1⟩
          have hz := (grown_of (below_trans hb hb1 hb.size)).cell hc0 (by simp)
          go_wp2
          go_roundw
          case rel => exact ⟨k + 1, by omega, by go_num, below_trans hb hb1 hb.size, HH.out⟩
          case measure => simp [intOf]; omega
        · rw [decide_eq_false hln] at hfk
          have HH := Lib.hid (HNO.out hfk)
          have hbn : ((r.length : Int) != (n0 : Int)) = true := by simp; omega
          clear hrk hfk hln
          go_wp2_with fail
          refine HR.out.mono ?_
          rintro e w1 ⟨rfl, hb1⟩
          have hz := (grown_of (below_trans hb hb1 hb.size)).cell hc0 (by simp)
          go_wp2
          go_ret
          exact ⟨by rw [HH.out]; rfl, below_trans hb hb1 hb.size⟩
    · have hkk : rs.take k = rs := List.take_of_length_le (by omega)
      have HK := Lib.hid hkk
      clear hkk
      go_wp2
      go_ret
      exact ⟨by have := HALL.out; rw [HK.out] at this; rw [this]; rfl, hb⟩
theorem pictureOk_any (v : Value) (rs : List (List C3)) (w : World) (h : PicV w v rs) (ht : Thin rs) (hl : rs.length ≤ 1000000) :
    Calls Tryz.prog 26 #[v] w fun e w' => e = .returned (.bool (pok rs)) ∧ Below w.heap.size w w' := by
  cases hs : sizeOk rs with
  | false => rw [pok_size hs]; exact pictureOk_no v rs w h hs hl
  | true => rw [pok_rows hs]; exact pictureOk_rows v rs w h hs ht
end Go.Proofs.YtobpnoiienpipaaGreat

/-
  What is proved: the walk of the model's PictureOk.
  Conditions: the picture can be read.
-/
namespace Go.Proofs.YtobpnoiienpipaaGreat
set_option linter.unusedVariables false
open Go.RowKit
attribute [local go_sem] run_store_float run_store_complex unary_negf neg256

def Aft (w W : World) : Prop := Below w.heap.size w W
theorem Aft.drew {w W : World} (h : Aft w W) : Aft w W.drew := Below.drew h
theorem Aft.next {w W W' : World} (h : Aft w W) (hb : Below W.heap.size W W') : Aft w W' := below_trans h hb h.size
theorem Aft.start (w : World) : Aft w w := Below.refl _ _
theorem Aft.load {w W : World} (h : Aft w W) {p : Addr} {v : Value} (hc : w.cell? p = some v) : W.cell? p = some v := (grown_of h).cell hc (by simp)

/-- A world behind w. -/
structure After (w : World) where
  W : World
  h : Aft w W
instance (w : World) : Nonempty (After w) := ⟨⟨w, Aft.start w⟩⟩
/-- A region that draws its order and whose operations and callees leave what lay in w: one walk. -/
theorem wp_region_after {P : Program} {id : Nat} {Q : Exit → Act → World → Prop} {a : Act} {w0 w : World} {l : List Oper} (hm : P.follows .mixedOrders = true) (hB : Region.lexB .any l.toArray = true) (hw : Aft w0 w)
    (h : wpQuiet P l.toArray (fun W => ∃ x : After w0, W = x.W) (fun a' => ∀ W, (∃ x : After w0, W = x.W) → Q .normal a' W) l a) : (Code.region id l.toArray true).wp P Q a w :=
  wp_region_quiet (C := fun W => ∃ x : After w0, W = x.W) hm hB ⟨⟨_, hw.drew⟩, rfl⟩ (by simpa using h)
theorem calls_after {P : Program} {f : FuncId} {args : Array Value} {w : World} {x : After w} {v : Value} (h : Calls P f args x.W fun e w' => e = .returned v ∧ Below x.W.heap.size x.W w') :
    Calls P f args x.W fun e w' => e = .returned v ∧ ∃ y : After w, w' = y.W := h.mono fun _ W' hh => ⟨hh.1, ⟨W', x.h.next hh.2⟩, rfl⟩
set_option maxHeartbeats 1000000 in
theorem specPicture_no (v : Value) (rs : List (List C3)) (w : World) (h : PicV w v rs) (hno : sizeOk rs = false) (hl : rs.length ≤ 1000000) :
    Calls Tryz.prog 80 #[v] w fun e w' => e = .returned (.bool false) ∧ Below w.heap.size w w' := by
  obtain ⟨a, cap, rfl⟩ := h.lenv
  have hn : ¬ (rs.length % 4 = 0 ∧ 4 ≤ rs.length ∧ rs.length ≤ 64) := fun e => by rw [sizeOk_iff.2 e] at hno; cases hno
  have HI := fun W => Lib.hid (l01In_any rs.length 4 64 W (by omega))
  clear h hno
  by_cases h5 : 4 ≤ rs.length ∧ rs.length ≤ 64
  · have hm : (((rs.length : Int) % 4) != 0) = true := by simp; omega
    have hd : (decide ((4 : Int) ≤ rs.length) && decide ((rs.length : Int) ≤ 64)) = true := by simp; omega
    rw [hd] at HI
    clear hn h5 hd
    go_enter Tryz.func80, Tryz.ntmps80
    go_wp2_with fail
    refine (HI _).out.mono ?_
    rintro e w1 ⟨rfl, rfl⟩
    go_wp2
    go_ret
    exact ⟨rfl, Below.refl _ _⟩
  · have hd : (decide ((4 : Int) ≤ rs.length) && decide ((rs.length : Int) ≤ 64)) = false := by
      rw [Bool.and_eq_false_iff, decide_eq_false_iff_not, decide_eq_false_iff_not]; omega
    rw [hd] at HI
    clear hn h5 hd
    go_enter Tryz.func80, Tryz.ntmps80
    go_wp2_with fail
    refine (HI _).out.mono ?_
    rintro e w1 ⟨rfl, rfl⟩
    go_wp2
    go_ret
    exact ⟨rfl, Below.refl _ _⟩

set_option maxHeartbeats 4000000 in
theorem specPicture_rows (v : Value) (rs : List (List C3)) (w : World) (h : PicV w v rs) (hs : sizeOk rs = true) (ht : Thin rs) :
    Calls Tryz.prog 80 #[v] w fun e w' => e = .returned (.bool (rs.all (rowFit (rs.headD []).length))) ∧ Below w.heap.size w w' := by
  obtain ⟨h4, h5, h6⟩ := sizeOk_iff.1 hs
  have hm : (((rs.length : Int) % 4) != 0) = false := by simp; omega
  have h0 : 0 < rs.length := by omega
  have hne : rs ≠ [] := by rintro rfl; simp at h5
  have HI := fun W => Lib.hid (l01In_any rs.length 4 64 W (by omega))
  have hd : (decide ((4 : Int) ≤ rs.length) && decide ((rs.length : Int) ≤ 64)) = true := by simp; omega
  rw [hd] at HI
  obtain ⟨g, o, cap, rfl, hcap, hcell⟩ := h.len hne
  obtain ⟨a0, c0, hc0, _⟩ := hcell 0 h0
  rw [Nat.add_zero] at hc0
  rw [head_get h0]
  have HX := Lib.hid hcell
  have HT := Lib.hid ht
  have HF := Lib.hid (fun k (hk : k < rs.length) => show rowFit (rs[0]'h0).length rs[k] = (rok rs[k] && decide (rs[k].length = (rs[0]'h0).length)) from rfl)
  generalize hp : rowFit (rs[0]'h0).length = p at *
  generalize hn0 : (rs[0]'h0).length = n0 at *
  have HN := Lib.hid hn0
  clear hn0 hs h h4 hne hcell ht hp hd
  go_enter Tryz.func80, Tryz.ntmps80
  go_wp2_with fail
  refine (HI _).out.mono ?_
  rintro e w1 ⟨rfl, rfl⟩
  go_wp2
  go_loopw [3] (fun i wr => ∃ k : Nat, k ≤ rs.length ∧ i = .int .i64 (k : Int) ∧ Aft w wr ∧ (rs.take k).all p = true) (fun i _ => rs.length - (intOf i).toNat)
  case atStart => exact ⟨0, Nat.zero_le _, rfl, Below.refl _ _, by simp⟩
  case round =>
    obtain ⟨k, hk, rfl, hb, hall⟩ := hrel
    have HALL := Lib.hid hall
    clear hall
    by_cases hlt : k < rs.length
    · obtain ⟨a, c, hc, hr⟩ := HX.out k hlt
      have hfk := HF.out k hlt
      have hlk := HT.out _ (List.getElem_mem hlt)
      have HST := Lib.hid (fun e => all_take hlt HALL.out e)
      have HNO := Lib.hid (fun e => all_not (p := p) hlt e)
      generalize rs[k] = r at *
      have HR := fun W (hW : Aft w W) => Lib.hid (specRowOk_any _ r W (hr.below hW) hlk)
      have m0 := fun x : After w => x.h.load hc
      have m1 := fun x : After w => x.h.load hc0
      clear hr hc
      cases hrk : rok r with
      | false =>
        rw [hrk] at HR hfk
        have HH := Lib.hid (HNO.out hfk)
        clear hrk hfk
        go_wp2
        refine wp_region_after (w0 := w) (by kernel_rfl) (by kernel_rfl) hb ?_
        iterate 4 (quiet_step (fail))
        quiet_step ((go_at_call 110; exact calls_after (HR (After.W _) (After.h _)).out))
        iterate 2 (quiet_step (fail))
        iterate 10 go_big_quiet_skip
        iterate 1 (quiet_step (fail))
        refine wpQuiet_nil ?_
        intro _ hw'
        obtain ⟨x, hw''⟩ := hw'
        subst hw''
        obtain ⟨w4, hK4⟩ := x
        clear m0 m1
        dsimp only
        go_wp2
        go_ret
        exact ⟨by rw [HH.out]; rfl, hK4⟩
      | true =>
        rw [hrk] at HR hfk
        by_cases hln : r.length = n0
        · rw [decide_eq_true hln] at hfk
          have HH := Lib.hid (HST.out hfk)
          have hbn : ((r.length : Int) != (n0 : Int)) = false := by rw [hln]; simp
          clear hrk hfk hln
          go_wp2
          refine wp_region_after (w0 := w) (by kernel_rfl) (by kernel_rfl) hb ?_
          iterate 4 (quiet_step (fail))
          quiet_step ((go_at_call 110; exact calls_after (HR (After.W _) (After.h _)).out))
          iterate 13 (go_big_quiet_step (fail))
          refine wpQuiet_nil ?_
          intro _ hw'
          obtain ⟨x, hw''⟩ := hw'
          subst hw''
          obtain ⟨w4, hK4⟩ := x
          clear m0 m1
          dsimp only
          go_wp2
          go_roundw
          case rel => exact ⟨k + 1, by omega, by go_num, hK4, HH.out⟩
          case measure => simp [intOf]; omega
        · rw [decide_eq_false hln] at hfk
          have HH := Lib.hid (HNO.out hfk)
          have hbn : ((r.length : Int) != (n0 : Int)) = true := by simp; omega
          clear hrk hfk hln
          go_wp2
          refine wp_region_after (w0 := w) (by kernel_rfl) (by kernel_rfl) hb ?_
          iterate 4 (quiet_step (fail))
          quiet_step ((go_at_call 110; exact calls_after (HR (After.W _) (After.h _)).out))
          iterate 13 (go_big_quiet_step (fail))
          refine wpQuiet_nil ?_
          intro _ hw'
          obtain ⟨x, hw''⟩ := hw'
          subst hw''
          obtain ⟨w4, hK4⟩ := x
          clear m0 m1
          dsimp only
          go_wp2
          go_ret
          exact ⟨by rw [HH.out]; rfl, hK4⟩
    · have hkk : rs.take k = rs := List.take_of_length_le (by omega)
      have HK := Lib.hid hkk
      clear hkk
      go_wp2
      go_ret
      exact ⟨by have := HALL.out; rw [HK.out] at this; rw [this]; rfl, hb⟩
theorem specPicture_any (v : Value) (rs : List (List C3)) (w : World) (h : PicV w v rs) (ht : Thin rs) (hl : rs.length ≤ 1000000) :
    Calls Tryz.prog 80 #[v] w fun e w' => e = .returned (.bool (pok rs)) ∧ Below w.heap.size w w' := by
  cases hs : sizeOk rs with
  | false => rw [pok_size hs]; exact specPicture_no v rs w h hs hl
  | true => rw [pok_rows hs]; exact specPicture_rows v rs w h hs ht
end Go.Proofs.YtobpnoiienpipaaGreat

/-
  What is proved: the walks of the iterators over a picture's rows, of the copying of rows that an iterator hands out, and of FieldOf.
  Conditions: the picture can be read; its rows are not empty.
-/
namespace Go.Proofs.YtobpnoiienpipaaGreat
set_option linter.unusedVariables false
open Go.RowKit Go.Shelf
attribute [local go_sem] run_store_float run_store_complex unary_negf neg256 Oper.semAt_some

theorem eql_nil_row (g o n c : Nat) (W : World) : (binOp .eql 40 (.slice (some ⟨g, o, none⟩) n c) (.slice none 0 0)).run Tryz.prog W = .ok (.bool false) W := by
  simp only [binOp]
  simp [run_equal_slice_nil W _ _ _ _ _ Tryz.underlying40]
/-- The slice v reads as cs, and its block holds cells. -/
def RowK (w : World) (v : Value) (cs : List C3) : Prop := RowV w v cs ∧ ∀ g o n c, v = .slice (some ⟨g, o, none⟩) n c → ∃ cur, w.heap[g]? = some (.cells cur 61 (0, 0))
theorem RowK.same {w w' : World} {v : Value} {cs : List C3} (h : RowK w v cs) (hb : ∀ g o n c, v = .slice (some ⟨g, o, none⟩) n c → w'.heap[g]? = w.heap[g]?) : RowK w' v cs := by
  obtain ⟨h1, h2⟩ := h
  refine ⟨?_, fun g o n c e => by rw [hb g o n c e]; exact h2 g o n c e⟩
  rcases h1 with h1 | ⟨g, o, cap, e, k1, k2⟩
  · exact .inl h1
  · have hk := hb g o _ _ e
    refine .inr ⟨g, o, cap, e, k1, fun i hi => ?_⟩
    have c1 : w'.cell? ⟨g, o + i * 2, none⟩ = w.cell? ⟨g, o + i * 2, none⟩ := World.cell?_of_block (w := w) hk
    have c2 : w'.cell? ⟨g, o + i * 2 + 1, none⟩ = w.cell? ⟨g, o + i * 2 + 1, none⟩ := World.cell?_of_block (w := w) hk
    rw [c1, c2]
    exact k2 i hi
theorem RowK.far {w w' : World} {v : Value} {cs : List C3} {row : Option Nat} (h : RowK w v cs) (hg : w.grownBy w' row) (hr : ∀ r, row = some r → ∃ cur t fz, w.heap[r]? = some (.cells cur t fz) ∧ t ≠ 61) : RowK w' v cs := by
  refine h.same fun g o n c e => ?_
  obtain ⟨cur, hk⟩ := h.2 g o n c e
  refine hg.block g (Array.getElem?_eq_some_iff.1 hk).1 (fun e2 => ?_)
  obtain ⟨cur2, t, fz2, hk2, ht⟩ := hr g e2.symm
  rw [hk] at hk2
  simp only [Option.some.injEq, Obj.cells.injEq] at hk2
  exact ht hk2.2.1.symm
theorem RowK.own {X Y : World} {v : Value} {cs : List C3} {row : Option Nat} (h : RowK X v cs) (hg : X.grownBy Y row) (hr : ∀ r, row = some r → ∃ o : Obj, X.heap[r]? = some o ∧ o.isCells = false) : RowK Y v cs := by
  refine h.same fun g o n c e => ?_
  obtain ⟨cur, hk⟩ := h.2 g o n c e
  refine hg.block g (Array.getElem?_eq_some_iff.1 hk).1 (fun e2 => ?_)
  obtain ⟨ob, h1, h2⟩ := hr g e2.symm
  rw [hk] at h1
  cases h1
  cases h2
def ClonePost (cs : List C3) (w : World) (e : Ending) (w' : World) : Prop := ∃ v', e = .returned v' ∧ RowK w' v' cs ∧ Below w.heap.size w w'
theorem ClonePost.mk {cs : List C3} {w w' : World} {v' : Value} (h : RowK w' v' cs) (hb : Below w.heap.size w w') : ClonePost cs w (.returned v') w' := ⟨v', rfl, h, hb⟩
/-- A row that lies in w0, not empty. -/
abbrev RowIn (w0 : World) := { x : Value × List C3 // RowV w0 x.1 x.2 ∧ x.2 ≠ [] ∧ x.2.length ≤ 1000000 }
/-- What the iterators are told of the rows: they hand out xs. -/
abbrev Hands (n : Nat) (w0 : World) (gf : Nat) (lb : Array Value) (xs : List (RowIn w0)) (w : World) : Prop :=
  SeqStopsK Fence.wide n Tryz.prog gf lb (fun x : RowIn w0 => #[x.1.1]) (Below w0.heap.size) (fun ys => ys = xs) (fun pre => pre <+: xs) xs.length w
theorem info_row : (Tryz.prog.info? 40).map (fun i => (i.zero, i.size, i.bytes)) = some (some (.slice none 0 0), 1, 24) := by kernel_rfl
theorem stepIn_append {F : Fence} {n : Nat} {P : Program} {ops : Array Oper} {o : Oper} {a : Act} {w w' : World} {v y v' : Value} {K : Act → World → Prop} {Q : Exit → Act → World → Prop} {E : Prop}
    (hgd : o.guard = none) (s x : Operand) (t : TypeId) (hop : o.op = Op.call { callee := Callee.builtin Builtin.append, args := #[s, x], argTypes := #[t, t] }) (hs : a.eval s = v) (hx : a.eval x = y)
    (hrun : (Builtin.append_ #[t, t] o.type #[v, y]).run P w = .ok v' w') (hK : K (a.put o.dst v') w') :
    if Region.wanted o (yielded ops a.tmps) = true then Oper.wpIn F n P o a w K Q else E := by
  have hw : Region.wanted o (yielded ops a.tmps) = true := by simp [Region.wanted, hgd]
  rw [if_pos hw]
  unfold Oper.wpIn
  refine ⟨?_, ?_⟩
  · simp [Oper.about, hop, resolve, Target.leads, Sem.run_pure]
  · rw [Oper.semAt_plain F _ _ (by rw [hop]; intro c hc'; cases hc')]
    simp [execOp, hop, resolve, invoke, builtin, hs, hx, hrun, Result.andThen]
    exact hK
end Go.Proofs.YtobpnoiienpipaaGreat

/-
  What is proved: the walk of FieldOf at 0 and 1.
  Conditions: the picture can be read.
-/
namespace Go.Proofs.YtobpnoiienpipaaGreat
set_option linter.unusedVariables false
open Go.RowKit Go.Shelf
attribute [local go_sem] run_store_float run_store_complex unary_negf neg256

theorem exists_list {α : Type} : ∀ (n : Nat) (P : Nat → α → Prop), (∀ i, i < n → ∃ x, P i x) → ∃ L : List α, L.length = n ∧ ∀ i (h : i < L.length), P i L[i]
  | 0, _, _ => ⟨[], rfl, fun i h => by simp at h⟩
  | n + 1, P, h => by
    obtain ⟨L, h1, h2⟩ := exists_list n P (fun i hi => h i (by omega))
    obtain ⟨x, hx⟩ := h n (by omega)
    refine ⟨L ++ [x], by simp [h1], fun i hi => ?_⟩
    by_cases hlt : i < L.length
    · rw [List.getElem_append_left hlt]; exact h2 i hlt
    · have hi2 : i = L.length := by simp at hi; omega
      subst hi2
      rw [List.getElem_append_right (Nat.le_refl _)]
      simpa [h1] using hx
/-- A picture's rows, as what an iterator hands out. -/
theorem rows_in {w w0 : World} {g o : Nat} {rs : List (List C3)} (hb : Below w.heap.size w w0) (hne : ∀ r ∈ rs, r ≠ [] ∧ r.length ≤ 1000000)
    (hcell : ∀ i (h : i < rs.length), ∃ a c, w.cell? ⟨g, o + i, none⟩ = some (.slice a rs[i].length c) ∧ RowV w (.slice a rs[i].length c) rs[i]) :
    ∃ L : List (RowIn w0), L.length = rs.length ∧ (L.map fun x => x.1.2) = rs ∧ ∀ i (h : i < L.length), w0.cell? ⟨g, o + i, none⟩ = some L[i].1.1 := by
  obtain ⟨L, h1, h2⟩ := exists_list rs.length (fun i (x : RowIn w0) => rs[i]? = some x.1.2 ∧ w0.cell? ⟨g, o + i, none⟩ = some x.1.1) (fun i hi => by
    obtain ⟨a, c, k1, k2⟩ := hcell i hi
    obtain ⟨e1, e2⟩ := hne _ (List.getElem_mem hi)
    exact ⟨⟨(.slice a rs[i].length c, rs[i]), k2.below hb, e1, e2⟩, List.getElem?_eq_getElem hi, (grown_of hb).cell k1 (by simp)⟩)
  refine ⟨L, h1, ?_, fun i h => (h2 i h).2⟩
  apply List.ext_getElem?
  intro i
  by_cases hi : i < L.length
  · rw [List.getElem?_map, List.getElem?_eq_getElem hi, (h2 i hi).1]; rfl
  · rw [List.getElem?_eq_none (by simp; omega), List.getElem?_eq_none (by omega)]
theorem pok_rows_ne {rs : List (List C3)} (h : pok rs = true) : ∀ r ∈ rs, r ≠ [] ∧ r.length ≤ 1000000 := by
  intro r hr
  unfold pok at h
  rw [Bool.and_eq_true] at h
  have h1 := List.all_eq_true.1 h.2 r hr
  unfold rowFit at h1
  rw [Bool.and_eq_true] at h1
  have h2 := (rok_iff.1 h1.1).1
  exact ⟨rok_ne h1.1, by omega⟩
theorem pok_size_of {rs : List (List C3)} (h : pok rs = true) : rs.length % 4 = 0 ∧ 4 ≤ rs.length ∧ rs.length ≤ 64 := by
  unfold pok at h
  rw [Bool.and_eq_true] at h
  exact sizeOk_iff.1 h.1
def PicPost (rs : List (List C3)) (w : World) (e : Ending) (w' : World) : Prop := ∃ v, e = .returned v ∧ PicV w' v rs ∧ Below w.heap.size w w'
theorem PicPost.mk {rs : List (List C3)} {w w' : World} {v : Value} (h : PicV w' v rs) (hb : Below w.heap.size w w') : PicPost rs w (.returned v) w' := ⟨v, rfl, h, hb⟩
end Go.Proofs.YtobpnoiienpipaaGreat
