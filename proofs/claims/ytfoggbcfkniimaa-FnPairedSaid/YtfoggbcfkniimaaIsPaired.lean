/-
  What is proved: the walk of IsPaired.
  Conditions: the picture can be read.
-/
import Derived.Test.YtfoggbcfkniimaaSpecPic
import Derived.Test.YtfoggbcfkniimaaFieldOf
import Derived.Test.YtfoggbcfkniimaaEq
namespace Go.Proofs.Ytfoggbcfkniimaa
set_option linter.unusedVariables false
open Go.RowKit
attribute [local go_sem] run_store_float run_store_complex unary_negf neg256

/-- Are the colours of two rows of one length equal? -/
def hue (p : C3 × C3) : Bool := feq p.1.2.1 p.2.2.1 && feq p.1.2.2 p.2.2.2
def colEq (a b : List C3) : Bool := (List.zip a b).all hue
theorem feq_def (a b : Nat) : (FloatKind.f32.format.order a b == some .eq) = feq a b := rfl
attribute [local go_sem] feq_def
theorem hasColour_any (c d : C3) (w : World) :
    Calls Try.prog 46 #[.agg #[.float .f32 c.1, .complex .f32 c.2.1 c.2.2], .agg #[.float .f32 d.1, .complex .f32 d.2.1 d.2.2]] w fun e w' => e = .returned (.bool (hue (c, d))) ∧ Below w.heap.size w w' := by
  obtain ⟨y, u, v⟩ := c
  obtain ⟨y', u', v'⟩ := d
  unfold hue
  simp only
  have hb := ((Below.refl w.heap.size w).alloc (Nat.le_refl _) (.cells #[.float .f32 y, .complex .f32 u v] 50)).alloc (by simp) (.cells #[.float .f32 y', .complex .f32 u' v'] 50)
  have HB := Lib.hid hb
  clear hb
  go_enter Try.func46, Try.ntmps46
  go_wp2
  go_ret
  exact ⟨rfl, HB.out⟩

set_option maxHeartbeats 2000000 in
theorem equalHue_any (v v' : Value) (a b : List C3) (w : World) (h : RowV w v a) (h' : RowV w v' b) (hne : a ≠ []) (hl : a.length ≤ 1000000) (hab : a.length = b.length) :
    Calls Try.prog 45 #[v, v', .func (.func 46) #[] #[]] w fun e w' => e = .returned (.bool (colEq a b)) ∧ Below w.heap.size w w' := by
  have hbn : ((a.length : Int) != (b.length : Int)) = false := by rw [hab]; simp
  have hb0 : b ≠ [] := by intro e; rw [e] at hab; exact hne (List.eq_nil_of_length_eq_zero hab)
  obtain ⟨g, o, cap, rfl, hcap, hcell⟩ := h.len hne
  obtain ⟨g', o', cap', rfl, hcap', hcell'⟩ := h'.len hb0
  have HC := Lib.hid hcell
  have HC' := Lib.hid hcell'
  have HLEN := Lib.hid hab
  have HZL := Lib.hid (show (List.zip a b).length = a.length by rw [List.length_zip, ← hab, Nat.min_self])
  unfold colEq
  have HX := fun c d W => Lib.hid (hasColour_any c d W)
  clear h h' hab hcell hcell' hne hb0
  generalize hzs : List.zip a b = zs at *
  have HZS := Lib.hid hzs
  clear hzs
  go_enter Try.func45, Try.ntmps45
  go_wp2
  go_loopw [17] (fun i wr => ∃ k : Nat, k ≤ a.length ∧ i = .int .i64 (k : Int) ∧ Below w.heap.size w wr ∧ (zs.take k).all hue = true) (fun i _ => a.length - (intOf i).toNat)
  case atStart => exact ⟨0, Nat.zero_le _, rfl, Below.refl _ _, by simp⟩
  case round =>
    obtain ⟨k, hk, rfl, hb, hall⟩ := hrel
    have HALL := Lib.hid hall
    clear hall
    by_cases hlt : k < a.length
    · have hltb : k < b.length := by have := HLEN.out; omega
      have hz : k < zs.length := by have := HZL.out; omega
      obtain ⟨hc0, hc1⟩ := HC.out k hlt
      obtain ⟨hc0', hc1'⟩ := HC'.out k hltb
      have hd0 := (grown_of hb).cell hc0 (by simp)
      have hd1 := (grown_of hb).cell hc1 (by simp)
      have hd0' := (grown_of hb).cell hc0' (by simp)
      have hd1' := (grown_of hb).cell hc1' (by simp)
      have hk0' := hc0'
      have hk1' := hc1'
      have HK := Lib.hid (show zs[k] = (a[k], b[k]) by have := HZS.out; subst this; exact List.getElem_zip)
      have HYES := Lib.hid (fun e => all_take hz HALL.out e)
      have HNO := Lib.hid (fun e => all_not (p := hue) hz e)
      rw [HK.out] at HYES HNO
      generalize a[k] = c at *
      generalize b[k] = d at *
      clear hc0 hc1 hc0' hc1' HK
      have hb2 : Below w.heap.size w ((wr.alloc (.cells #[.float .f32 c.1, .complex .f32 c.2.1 c.2.2] 50)).alloc (.cells #[.float .f32 d.1, .complex .f32 d.2.1 d.2.2] 50)) := (hb.alloc hb.size _).alloc (by have := hb.size; simp; omega) _
      have hbA := hb.alloc hb.size (.cells #[.float .f32 c.1, .complex .f32 c.2.1 c.2.2] 50)
      have hA0 := (grown_of hbA).cell hk0' (by simp)
      have hA1 := (grown_of hbA).cell hk1' (by simp)
      go_wp2_with fail
      refine (HX c d _).out.mono ?_
      rintro e w1 ⟨rfl, hb1⟩
      cases hh : hue (c, d) with
      | true =>
        have HS := Lib.hid (HYES.out hh)
        clear hh
        go_wp2
        go_roundw
        case rel => exact ⟨k + 1, by omega, by go_num, below_trans hb2 hb1 hb2.size, HS.out⟩
        case measure => simp [intOf]; omega
      | false =>
        have HS := Lib.hid (HNO.out hh)
        clear hh
        go_wp2
        go_ret
        exact ⟨by rw [HS.out]; rfl, below_trans hb2 hb1 hb2.size⟩
    · have HK := Lib.hid (show zs.take k = zs from List.take_of_length_le (by have := HZL.out; omega))
      go_wp2
      go_ret
      exact ⟨by have := HALL.out; rw [HK.out] at this; rw [this]; rfl, hb⟩

theorem pok_same {rs : List (List C3)} (h : pok rs = true) {i j : Nat} (hi : i < rs.length) (hj : j < rs.length) : rs[i].length = rs[j].length := by
  unfold pok at h
  rw [Bool.and_eq_true] at h
  have key : ∀ k (hk : k < rs.length), rs[k].length = (rs.headD []).length := by
    intro k hk
    have h1 := List.all_eq_true.1 h.2 _ (List.getElem_mem hk)
    unfold rowFit at h1
    rw [Bool.and_eq_true, decide_eq_true_iff] at h1
    exact h1.2
  rw [key i hi, key j hj]
/-- Do the rows r and r+2 agree, wherever the picture wants it? -/
def PairP (rs : List (List C3)) (n : Nat) : Prop := ∀ r, r < n → r % 4 < 2 → ∀ (h : r + 2 < rs.length), colEq (rs[r]'(by omega)) rs[r + 2] = true
def IsPost (rs : List (List C3)) (w : World) (e : Ending) (w' : World) : Prop := ∃ b, e = .returned (.bool b) ∧ (b = true ↔ pok rs = true ∧ PairP rs rs.length) ∧ Below w.heap.size w w'
theorem IsPost.mk {rs : List (List C3)} {w w' : World} {b : Bool} (h : b = true ↔ pok rs = true ∧ PairP rs rs.length) (hb : Below w.heap.size w w') : IsPost rs w (.returned (.bool b)) w' := ⟨b, rfl, h, hb⟩
set_option maxHeartbeats 4000000 in
theorem isPaired_any (v : Value) (rs : List (List C3)) (w : World) (h : PicV w v rs) (ht : Thin rs) (hl : rs.length ≤ 1000000) :
    Calls Try.prog 23 #[v] w fun e w' => IsPost rs w e w' := by
  have HP := Lib.hid (pictureOk_any v rs w h ht hl)
  cases hp : pok rs with
  | false =>
    rw [hp] at HP
    have HN := Lib.hid (show (false = true) ↔ pok rs = true ∧ PairP rs rs.length by rw [hp]; simp)
    obtain ⟨a, c, rfl⟩ := h.lenv
    clear h hp
    go_enter Try.func23, Try.ntmps23
    go_wp2_with fail
    refine HP.out.mono ?_
    rintro e w1 ⟨rfl, hb⟩
    go_wp2
    go_ret
    exact IsPost.mk HN.out hb
  | true =>
    rw [hp] at HP
    obtain ⟨h4, h5, h6⟩ := pok_size_of hp
    have hne : rs ≠ [] := by rintro rfl; simp at h5
    have HRN := Lib.hid (pok_rows_ne hp)
    have HSAME := Lib.hid (fun i j (hi : i < rs.length) (hj : j < rs.length) => pok_same hp hi hj)
    have HPOK := Lib.hid hp
    have H4 := Lib.hid h4
    obtain ⟨g, o, cap, rfl, _, hcell⟩ := h.len hne
    have HC := Lib.hid hcell
    clear h hcell hne hp h4
    go_enter Try.func23, Try.ntmps23
    go_wp2_with fail
    refine HP.out.mono ?_
    rintro e w1 ⟨rfl, hb1⟩
    clear HP
    go_wp2
    go_loopw [9] (fun i wr => ∃ k : Nat, k ≤ rs.length ∧ i = .int .i64 (k : Int) ∧ Aft w wr ∧ PairP rs k) (fun i _ => rs.length - (intOf i).toNat)
    case atStart => exact ⟨0, Nat.zero_le _, rfl, hb1, fun r hr => by omega⟩
    case round =>
      obtain ⟨k, hk, rfl, hb, hpr⟩ := hrel
      have HPR := Lib.hid hpr
      clear hpr
      by_cases hlt : k < rs.length
      · by_cases hk2 : k % 4 < 2
        · have hk3 : k + 2 < rs.length := by have := H4.out; omega
          obtain ⟨a, c, hc, hr⟩ := HC.out k hlt
          obtain ⟨a', c', hc', hr'⟩ := HC.out (k + 2) hk3
          obtain ⟨e1, e2⟩ := HRN.out _ (List.getElem_mem hlt)
          have e3 := HSAME.out k (k + 2) hlt hk3
          have HYES := Lib.hid (fun (e : colEq rs[k] rs[k + 2] = true) => show PairP rs (k + 1) from fun r hr hr2 hr3 => by
            by_cases h : r < k
            · exact HPR.out r h hr2 hr3
            · have : r = k := by omega
              subst this
              exact e)
          have HNO := Lib.hid (fun (e : colEq rs[k] rs[k + 2] = false) => show (false = true) ↔ pok rs = true ∧ PairP rs rs.length from ⟨fun h => (by cases h), fun h => by
            have := h.2 k hlt hk2 hk3
            rw [e] at this; cases this⟩)
          generalize rs[k] = ra at *
          generalize rs[k + 2] = rb at *
          have HE := fun W (hW : Aft w W) => Lib.hid (equalHue_any _ _ ra rb W (hr.below hW) (hr'.below hW) e1 e2 e3)
          have m0 := fun x : After w => x.h.load hc
          have m1 := fun x : After w => x.h.load hc'
          have hd : decide ((k : Int) % 4 < 2) = true := by simp; omega
          have hs1 : IntKind.i64.wrap ((k : Int) + 2) = ((k + 2 : Nat) : Int) := by rw [IntWalk.i64_in _ (by omega)]; omega
          clear hr hr' hc hc' e1 e2 e3 hk2 HC HRN HSAME HPR
          go_wp2
          refine wp_region_after (w0 := w) (by kernel_rfl) (by kernel_rfl) hb ?_
          iterate 13 (go_big_quiet_step (fail))
          go_big_quiet_step ((go_at_call 45; exact calls_after (HE (After.W _) (After.h _)).out))
          iterate 2 (go_big_quiet_step (fail))
          refine wpQuiet_nil ?_
          intro _ hw'
          obtain ⟨x, hw''⟩ := hw'
          subst hw''
          obtain ⟨w4, hK4⟩ := x
          clear m0 m1
          dsimp only
          cases hce : colEq ra rb with
          | true =>
            have HS := Lib.hid (HYES.out hce)
            clear hce hs1 hd
            go_wp2
            go_roundw
            case rel => exact ⟨k + 1, by omega, by go_num, hK4, HS.out⟩
            case measure => simp [intOf]; omega
          | false =>
            have HS := Lib.hid (HNO.out hce)
            clear hce hs1 hd
            go_wp2
            go_ret
            exact IsPost.mk HS.out hK4
        · have hd : decide ((k : Int) % 4 < 2) = false := by simp; omega
          have HS := Lib.hid (show PairP rs (k + 1) from fun r hr hr2 hr3 => by
            by_cases h : r < k
            · exact HPR.out r h hr2 hr3
            · have : r = k := by omega
              subst this
              exact absurd hr2 hk2)
          clear hk2 HC HRN HSAME HPR
          go_wp2
          refine wp_region_after (w0 := w) (by kernel_rfl) (by kernel_rfl) hb ?_
          iterate 4 (go_big_quiet_step (fail))
          iterate 11 go_big_quiet_skip
          iterate 1 (go_big_quiet_step (fail))
          refine wpQuiet_nil ?_
          intro _ hw'
          obtain ⟨x, hw''⟩ := hw'
          subst hw''
          obtain ⟨w4, hK4⟩ := x
          dsimp only
          clear hd
          go_wp2
          go_roundw
          case rel => exact ⟨k + 1, by omega, by go_num, hK4, HS.out⟩
          case measure => simp [intOf]; omega
      · have hkk : k = rs.length := by omega
        subst hkk
        have HN := Lib.hid (show (true = true) ↔ pok rs = true ∧ PairP rs rs.length from ⟨fun _ => ⟨HPOK.out, HPR.out⟩, fun _ => rfl⟩)
        go_wp2
        go_ret
        exact IsPost.mk ⟨fun _ => HN.out.mp (by first | trivial | rfl), fun _ => rfl⟩ hb
end Go.Proofs.Ytfoggbcfkniimaa
