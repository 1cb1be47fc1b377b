/-
  What is proved: the walk of the model's PictureOk.
  Conditions: the picture can be read.
-/
import Derived.Test.YtfoggbcfkniimaaPic
namespace Go.Proofs.Ytfoggbcfkniimaa
set_option linter.unusedVariables false
open Go.RowKit
attribute [local go_sem] run_store_float run_store_complex unary_negf neg256

def Aft (w W : World) : Prop := Below w.heap.size w W
theorem Aft.drew {w W : World} (h : Aft w W) : Aft w W.drew := Below.drew h
theorem Aft.next {w W W' : World} (h : Aft w W) (hb : Below W.heap.size W W') : Aft w W' := below_trans h hb h.size
theorem Aft.start (w : World) : Aft w w := Below.refl _ _
theorem Aft.load {w W : World} (h : Aft w W) {p : Addr} {v : Value} (hc : w.cell? p = some v) : W.cell? p = some v := (grown_of h).cell hc (by simp)

/-- A world behind w. -/
structure After (w : World) where
  W : World
  h : Aft w W
instance (w : World) : Nonempty (After w) := ⟨⟨w, Aft.start w⟩⟩
/-- A region that draws its order and whose operations and callees leave what lay in w: one walk. -/
theorem wp_region_after {P : Program} {id : Nat} {Q : Exit → Act → World → Prop} {a : Act} {w0 w : World} {l : List Oper} (hm : P.follows .mixedOrders = true) (hB : Region.lexB .any l.toArray = true) (hw : Aft w0 w)
    (h : wpQuiet P l.toArray (fun W => ∃ x : After w0, W = x.W) (fun a' => ∀ W, (∃ x : After w0, W = x.W) → Q .normal a' W) l a) : (Code.region id l.toArray true).wp P Q a w :=
  wp_region_quiet (C := fun W => ∃ x : After w0, W = x.W) hm hB ⟨⟨_, hw.drew⟩, rfl⟩ (by simpa using h)
theorem calls_after {P : Program} {f : FuncId} {args : Array Value} {w : World} {x : After w} {v : Value} (h : Calls P f args x.W fun e w' => e = .returned v ∧ Below x.W.heap.size x.W w') :
    Calls P f args x.W fun e w' => e = .returned v ∧ ∃ y : After w, w' = y.W := h.mono fun _ W' hh => ⟨hh.1, ⟨W', x.h.next hh.2⟩, rfl⟩
set_option maxHeartbeats 1000000 in
theorem specPicture_no (v : Value) (rs : List (List C3)) (w : World) (h : PicV w v rs) (hno : sizeOk rs = false) (hl : rs.length ≤ 1000000) :
    Calls Try.prog 20 #[v] w fun e w' => e = .returned (.bool false) ∧ Below w.heap.size w w' := by
  obtain ⟨a, cap, rfl⟩ := h.lenv
  have hn : ¬ (rs.length % 4 = 0 ∧ 4 ≤ rs.length ∧ rs.length ≤ 64) := fun e => by rw [sizeOk_iff.2 e] at hno; cases hno
  have HI := fun W => Lib.hid (l01In_any rs.length 4 64 W (by omega))
  clear h hno
  by_cases h5 : 4 ≤ rs.length ∧ rs.length ≤ 64
  · have hm : (((rs.length : Int) % 4) != 0) = true := by simp; omega
    have hd : (decide ((4 : Int) ≤ rs.length) && decide ((rs.length : Int) ≤ 64)) = true := by simp; omega
    rw [hd] at HI
    clear hn h5 hd
    go_enter Try.func20, Try.ntmps20
    go_wp2_with fail
    refine (HI _).out.mono ?_
    rintro e w1 ⟨rfl, rfl⟩
    go_wp2
    go_ret
    exact ⟨rfl, Below.refl _ _⟩
  · have hd : (decide ((4 : Int) ≤ rs.length) && decide ((rs.length : Int) ≤ 64)) = false := by
      rw [Bool.and_eq_false_iff, decide_eq_false_iff_not, decide_eq_false_iff_not]; omega
    rw [hd] at HI
    clear hn h5 hd
    go_enter Try.func20, Try.ntmps20
    go_wp2_with fail
    refine (HI _).out.mono ?_
    rintro e w1 ⟨rfl, rfl⟩
    go_wp2
    go_ret
    exact ⟨rfl, Below.refl _ _⟩

set_option maxHeartbeats 4000000 in
theorem specPicture_rows (v : Value) (rs : List (List C3)) (w : World) (h : PicV w v rs) (hs : sizeOk rs = true) (ht : Thin rs) :
    Calls Try.prog 20 #[v] w fun e w' => e = .returned (.bool (rs.all (rowFit (rs.headD []).length))) ∧ Below w.heap.size w w' := by
  obtain ⟨h4, h5, h6⟩ := sizeOk_iff.1 hs
  have hm : (((rs.length : Int) % 4) != 0) = false := by simp; omega
  have h0 : 0 < rs.length := by omega
  have hne : rs ≠ [] := by rintro rfl; simp at h5
  have HI := fun W => Lib.hid (l01In_any rs.length 4 64 W (by omega))
  have hd : (decide ((4 : Int) ≤ rs.length) && decide ((rs.length : Int) ≤ 64)) = true := by simp; omega
  rw [hd] at HI
  obtain ⟨g, o, cap, rfl, hcap, hcell⟩ := h.len hne
  obtain ⟨a0, c0, hc0, _⟩ := hcell 0 h0
  rw [Nat.add_zero] at hc0
  rw [head_get h0]
  have HX := Lib.hid hcell
  have HT := Lib.hid ht
  have HF := Lib.hid (fun k (hk : k < rs.length) => show rowFit (rs[0]'h0).length rs[k] = (rok rs[k] && decide (rs[k].length = (rs[0]'h0).length)) from rfl)
  generalize hp : rowFit (rs[0]'h0).length = p at *
  generalize hn0 : (rs[0]'h0).length = n0 at *
  have HN := Lib.hid hn0
  clear hn0 hs h h4 hne hcell ht hp hd
  go_enter Try.func20, Try.ntmps20
  go_wp2_with fail
  refine (HI _).out.mono ?_
  rintro e w1 ⟨rfl, rfl⟩
  go_wp2
  go_loopw [3] (fun i wr => ∃ k : Nat, k ≤ rs.length ∧ i = .int .i64 (k : Int) ∧ Aft w wr ∧ (rs.take k).all p = true) (fun i _ => rs.length - (intOf i).toNat)
  case atStart => exact ⟨0, Nat.zero_le _, rfl, Below.refl _ _, by simp⟩
  case round =>
    obtain ⟨k, hk, rfl, hb, hall⟩ := hrel
    have HALL := Lib.hid hall
    clear hall
    by_cases hlt : k < rs.length
    · obtain ⟨a, c, hc, hr⟩ := HX.out k hlt
      have hfk := HF.out k hlt
      have hlk := HT.out _ (List.getElem_mem hlt)
      have HST := Lib.hid (fun e => all_take hlt HALL.out e)
      have HNO := Lib.hid (fun e => all_not (p := p) hlt e)
      generalize rs[k] = r at *
      have HR := fun W (hW : Aft w W) => Lib.hid (specRowOk_any _ r W (hr.below hW) hlk)
      have m0 := fun x : After w => x.h.load hc
      have m1 := fun x : After w => x.h.load hc0
      clear hr hc
      cases hrk : rok r with
      | false =>
        rw [hrk] at HR hfk
        have HH := Lib.hid (HNO.out hfk)
        clear hrk hfk
        go_wp2
        refine wp_region_after (w0 := w) (by kernel_rfl) (by kernel_rfl) hb ?_
        iterate 4 (quiet_step (fail))
        quiet_step ((go_at_call 42; exact calls_after (HR (After.W _) (After.h _)).out))
        iterate 2 (quiet_step (fail))
        iterate 10 go_big_quiet_skip
        iterate 1 (quiet_step (fail))
        refine wpQuiet_nil ?_
        intro _ hw'
        obtain ⟨x, hw''⟩ := hw'
        subst hw''
        obtain ⟨w4, hK4⟩ := x
        clear m0 m1
        dsimp only
        go_wp2
        go_ret
        exact ⟨by rw [HH.out]; rfl, hK4⟩
      | true =>
        rw [hrk] at HR hfk
        by_cases hln : r.length = n0
        · rw [decide_eq_true hln] at hfk
          have HH := Lib.hid (HST.out hfk)
          have hbn : ((r.length : Int) != (n0 : Int)) = false := by rw [hln]; simp
          clear hrk hfk hln
          go_wp2
          refine wp_region_after (w0 := w) (by kernel_rfl) (by kernel_rfl) hb ?_
          iterate 4 (quiet_step (fail))
          quiet_step ((go_at_call 42; exact calls_after (HR (After.W _) (After.h _)).out))
          iterate 13 (go_big_quiet_step (fail))
          refine wpQuiet_nil ?_
          intro _ hw'
          obtain ⟨x, hw''⟩ := hw'
          subst hw''
          obtain ⟨w4, hK4⟩ := x
          clear m0 m1
          dsimp only
          go_wp2
          go_roundw
          case rel => exact ⟨k + 1, by omega, by go_num, hK4, HH.out⟩
          case measure => simp [intOf]; omega
        · rw [decide_eq_false hln] at hfk
          have HH := Lib.hid (HNO.out hfk)
          have hbn : ((r.length : Int) != (n0 : Int)) = true := by simp; omega
          clear hrk hfk hln
          go_wp2
          refine wp_region_after (w0 := w) (by kernel_rfl) (by kernel_rfl) hb ?_
          iterate 4 (quiet_step (fail))
          quiet_step ((go_at_call 42; exact calls_after (HR (After.W _) (After.h _)).out))
          iterate 13 (go_big_quiet_step (fail))
          refine wpQuiet_nil ?_
          intro _ hw'
          obtain ⟨x, hw''⟩ := hw'
          subst hw''
          obtain ⟨w4, hK4⟩ := x
          clear m0 m1
          dsimp only
          go_wp2
          go_ret
          exact ⟨by rw [HH.out]; rfl, hK4⟩
    · have hkk : rs.take k = rs := List.take_of_length_le (by omega)
      have HK := Lib.hid hkk
      clear hkk
      go_wp2
      go_ret
      exact ⟨by have := HALL.out; rw [HK.out] at this; rw [this]; rfl, hb⟩
theorem specPicture_any (v : Value) (rs : List (List C3)) (w : World) (h : PicV w v rs) (ht : Thin rs) (hl : rs.length ≤ 1000000) :
    Calls Try.prog 20 #[v] w fun e w' => e = .returned (.bool (pok rs)) ∧ Below w.heap.size w w' := by
  cases hs : sizeOk rs with
  | false => rw [pok_size hs]; exact specPicture_no v rs w h hs hl
  | true => rw [pok_rows hs]; exact specPicture_rows v rs w h hs ht
end Go.Proofs.Ytfoggbcfkniimaa
