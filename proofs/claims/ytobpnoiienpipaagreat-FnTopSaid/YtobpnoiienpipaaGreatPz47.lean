/-
  What is proved: the walk of IsPaired.
  Conditions: the picture can be read.
-/
import Derived.Test.YtobpnoiienpipaaGreatSpecPic
import Derived.Test.YtobpnoiienpipaaGreatPz32
import Derived.Test.YtobpnoiienpipaaGreatPz29
import Derived.Deep.RegionLaw
import Derived.Laws.CopyOwn
import Derived.Laws.OwnMore
namespace Go.Proofs.YtobpnoiienpipaaGreat
set_option linter.unusedVariables false
open Go.RowKit
attribute [local go_sem] run_store_float run_store_complex unary_negf neg256

/-- Are the colours of two rows of one length equal? -/
def hue (p : C3 × C3) : Bool := feq p.1.2.1 p.2.2.1 && feq p.1.2.2 p.2.2.2
def colEq (a b : List C3) : Bool := (List.zip a b).all hue
theorem feq_def (a b : Nat) : (FloatKind.f32.format.order a b == some .eq) = feq a b := rfl
attribute [local go_sem] feq_def
theorem hasColour_any (c d : C3) (w : World) :
    Calls Tryz.prog 30 #[.agg #[.float .f32 c.1, .complex .f32 c.2.1 c.2.2], .agg #[.float .f32 d.1, .complex .f32 d.2.1 d.2.2]] w fun e w' => e = .returned (.bool (hue (c, d))) ∧ Below w.heap.size w w' := by
  obtain ⟨y, u, v⟩ := c
  obtain ⟨y', u', v'⟩ := d
  unfold hue
  simp only
  have hb := ((Below.refl w.heap.size w).alloc (Nat.le_refl _) (.cells #[.float .f32 y, .complex .f32 u v] 61)).alloc (by simp) (.cells #[.float .f32 y', .complex .f32 u' v'] 61)
  have HB := Lib.hid hb
  clear hb
  go_enter Tryz.func30, Tryz.ntmps30
  go_wp2
  go_ret
  exact ⟨rfl, HB.out⟩

set_option maxHeartbeats 2000000 in
theorem equalHue_any (v v' : Value) (a b : List C3) (w : World) (h : RowV w v a) (h' : RowV w v' b) (hne : a ≠ []) (hl : a.length ≤ 1000000) (hab : a.length = b.length) :
    Calls Tryz.prog 29 #[v, v', .func (.func 30) #[] #[]] w fun e w' => e = .returned (.bool (colEq a b)) ∧ Below w.heap.size w w' := by
  have hbn : ((a.length : Int) != (b.length : Int)) = false := by rw [hab]; simp
  have hb0 : b ≠ [] := by intro e; rw [e] at hab; exact hne (List.eq_nil_of_length_eq_zero hab)
  obtain ⟨g, o, cap, rfl, hcap, hcell⟩ := h.len hne
  obtain ⟨g', o', cap', rfl, hcap', hcell'⟩ := h'.len hb0
  have HC := Lib.hid hcell
  have HC' := Lib.hid hcell'
  have HLEN := Lib.hid hab
  have HZL := Lib.hid (show (List.zip a b).length = a.length by rw [List.length_zip, ← hab, Nat.min_self])
  unfold colEq
  have HX := fun c d W => Lib.hid (hasColour_any c d W)
  clear h h' hab hcell hcell' hne hb0
  generalize hzs : List.zip a b = zs at *
  have HZS := Lib.hid hzs
  clear hzs
  go_enter Tryz.func29, Tryz.ntmps29
  go_wp2
  go_loopw [17] (fun i wr => ∃ k : Nat, k ≤ a.length ∧ i = .int .i64 (k : Int) ∧ Below w.heap.size w wr ∧ (zs.take k).all hue = true) (fun i _ => a.length - (intOf i).toNat)
  case atStart => exact ⟨0, Nat.zero_le _, rfl, Below.refl _ _, by simp⟩
  case round =>
    obtain ⟨k, hk, rfl, hb, hall⟩ := hrel
    have HALL := Lib.hid hall
    clear hall
    by_cases hlt : k < a.length
    · have hltb : k < b.length := by have := HLEN.out; omega
      have hz : k < zs.length := by have := HZL.out; omega
      obtain ⟨hc0, hc1⟩ := HC.out k hlt
      obtain ⟨hc0', hc1'⟩ := HC'.out k hltb
      have hd0 := (grown_of hb).cell hc0 (by simp)
      have hd1 := (grown_of hb).cell hc1 (by simp)
      have hd0' := (grown_of hb).cell hc0' (by simp)
      have hd1' := (grown_of hb).cell hc1' (by simp)
      have hk0' := hc0'
      have hk1' := hc1'
      have HK := Lib.hid (show zs[k] = (a[k], b[k]) by have := HZS.out; subst this; exact List.getElem_zip)
      have HYES := Lib.hid (fun e => all_take hz HALL.out e)
      have HNO := Lib.hid (fun e => all_not (p := hue) hz e)
      rw [HK.out] at HYES HNO
      generalize a[k] = c at *
      generalize b[k] = d at *
      clear hc0 hc1 hc0' hc1' HK
      have hb2 : Below w.heap.size w ((wr.alloc (.cells #[.float .f32 c.1, .complex .f32 c.2.1 c.2.2] 61)).alloc (.cells #[.float .f32 d.1, .complex .f32 d.2.1 d.2.2] 61)) := (hb.alloc hb.size _).alloc (by have := hb.size; simp; omega) _
      have hbA := hb.alloc hb.size (.cells #[.float .f32 c.1, .complex .f32 c.2.1 c.2.2] 61)
      have hA0 := (grown_of hbA).cell hk0' (by simp)
      have hA1 := (grown_of hbA).cell hk1' (by simp)
      go_wp2_with fail
      refine (HX c d _).out.mono ?_
      rintro e w1 ⟨rfl, hb1⟩
      cases hh : hue (c, d) with
      | true =>
        have HS := Lib.hid (HYES.out hh)
        clear hh
        go_wp2
        go_roundw
        case rel => exact ⟨k + 1, by omega, by go_num, below_trans hb2 hb1 hb2.size, HS.out⟩
        case measure => simp [intOf]; omega
      | false =>
        have HS := Lib.hid (HNO.out hh)
        clear hh
        go_wp2
        go_ret
        exact ⟨by rw [HS.out]; rfl, below_trans hb2 hb1 hb2.size⟩
    · have HK := Lib.hid (show zs.take k = zs from List.take_of_length_le (by have := HZL.out; omega))
      go_wp2
      go_ret
      exact ⟨by have := HALL.out; rw [HK.out] at this; rw [this]; rfl, hb⟩

theorem pok_same {rs : List (List C3)} (h : pok rs = true) {i j : Nat} (hi : i < rs.length) (hj : j < rs.length) : rs[i].length = rs[j].length := by
  unfold pok at h
  rw [Bool.and_eq_true] at h
  have key : ∀ k (hk : k < rs.length), rs[k].length = (rs.headD []).length := by
    intro k hk
    have h1 := List.all_eq_true.1 h.2 _ (List.getElem_mem hk)
    unfold rowFit at h1
    rw [Bool.and_eq_true, decide_eq_true_iff] at h1
    exact h1.2
  rw [key i hi, key j hj]
/-- Do the rows r and r+2 agree, wherever the picture wants it? -/
def PairP (rs : List (List C3)) (n : Nat) : Prop := ∀ r, r < n → r % 4 < 2 → ∀ (h : r + 2 < rs.length), colEq (rs[r]'(by omega)) rs[r + 2] = true
def IsPost (rs : List (List C3)) (w : World) (e : Ending) (w' : World) : Prop := ∃ b, e = .returned (.bool b) ∧ (b = true ↔ pok rs = true ∧ PairP rs rs.length) ∧ Below w.heap.size w w'
theorem IsPost.mk {rs : List (List C3)} {w w' : World} {b : Bool} (h : b = true ↔ pok rs = true ∧ PairP rs rs.length) (hb : Below w.heap.size w w') : IsPost rs w (.returned (.bool b)) w' := ⟨b, rfl, h, hb⟩
set_option maxHeartbeats 4000000 in
theorem isPaired_any (v : Value) (rs : List (List C3)) (w : World) (h : PicV w v rs) (ht : Thin rs) (hl : rs.length ≤ 1000000) :
    Calls Tryz.prog 8 #[v] w fun e w' => IsPost rs w e w' := by
  have HP := Lib.hid (pictureOk_any v rs w h ht hl)
  cases hp : pok rs with
  | false =>
    rw [hp] at HP
    have HN := Lib.hid (show (false = true) ↔ pok rs = true ∧ PairP rs rs.length by rw [hp]; simp)
    obtain ⟨a, c, rfl⟩ := h.lenv
    clear h hp
    go_enter Tryz.func8, Tryz.ntmps8
    go_wp2_with fail
    refine HP.out.mono ?_
    rintro e w1 ⟨rfl, hb⟩
    go_wp2
    go_ret
    exact IsPost.mk HN.out hb
  | true =>
    rw [hp] at HP
    obtain ⟨h4, h5, h6⟩ := pok_size_of hp
    have hne : rs ≠ [] := by rintro rfl; simp at h5
    have HRN := Lib.hid (pok_rows_ne hp)
    have HSAME := Lib.hid (fun i j (hi : i < rs.length) (hj : j < rs.length) => pok_same hp hi hj)
    have HPOK := Lib.hid hp
    have H4 := Lib.hid h4
    obtain ⟨g, o, cap, rfl, _, hcell⟩ := h.len hne
    have HC := Lib.hid hcell
    clear h hcell hne hp h4
    go_enter Tryz.func8, Tryz.ntmps8
    go_wp2_with fail
    refine HP.out.mono ?_
    rintro e w1 ⟨rfl, hb1⟩
    clear HP
    go_wp2
    go_loopw [9] (fun i wr => ∃ k : Nat, k ≤ rs.length ∧ i = .int .i64 (k : Int) ∧ Aft w wr ∧ PairP rs k) (fun i _ => rs.length - (intOf i).toNat)
    case atStart => exact ⟨0, Nat.zero_le _, rfl, hb1, fun r hr => by omega⟩
    case round =>
      obtain ⟨k, hk, rfl, hb, hpr⟩ := hrel
      have HPR := Lib.hid hpr
      clear hpr
      by_cases hlt : k < rs.length
      · by_cases hk2 : k % 4 < 2
        · have hk3 : k + 2 < rs.length := by have := H4.out; omega
          obtain ⟨a, c, hc, hr⟩ := HC.out k hlt
          obtain ⟨a', c', hc', hr'⟩ := HC.out (k + 2) hk3
          obtain ⟨e1, e2⟩ := HRN.out _ (List.getElem_mem hlt)
          have e3 := HSAME.out k (k + 2) hlt hk3
          have HYES := Lib.hid (fun (e : colEq rs[k] rs[k + 2] = true) => show PairP rs (k + 1) from fun r hr hr2 hr3 => by
            by_cases h : r < k
            · exact HPR.out r h hr2 hr3
            · have : r = k := by omega
              subst this
              exact e)
          have HNO := Lib.hid (fun (e : colEq rs[k] rs[k + 2] = false) => show (false = true) ↔ pok rs = true ∧ PairP rs rs.length from ⟨fun h => (by cases h), fun h => by
            have := h.2 k hlt hk2 hk3
            rw [e] at this; cases this⟩)
          generalize rs[k] = ra at *
          generalize rs[k + 2] = rb at *
          have HE := fun W (hW : Aft w W) => Lib.hid (equalHue_any _ _ ra rb W (hr.below hW) (hr'.below hW) e1 e2 e3)
          have m0 := fun x : After w => x.h.load hc
          have m1 := fun x : After w => x.h.load hc'
          have hd : decide ((k : Int) % 4 < 2) = true := by simp; omega
          have hs1 : IntKind.i64.wrap ((k : Int) + 2) = ((k + 2 : Nat) : Int) := by rw [IntWalk.i64_in _ (by omega)]; omega
          clear hr hr' hc hc' e1 e2 e3 hk2 HC HRN HSAME HPR
          go_wp2
          refine wp_region_after (w0 := w) (by kernel_rfl) (by kernel_rfl) hb ?_
          iterate 13 (go_big_quiet_step (fail))
          go_big_quiet_step ((go_at_call 29; exact calls_after (HE (After.W _) (After.h _)).out))
          iterate 2 (go_big_quiet_step (fail))
          refine wpQuiet_nil ?_
          intro _ hw'
          obtain ⟨x, hw''⟩ := hw'
          subst hw''
          obtain ⟨w4, hK4⟩ := x
          clear m0 m1
          dsimp only
          cases hce : colEq ra rb with
          | true =>
            have HS := Lib.hid (HYES.out hce)
            clear hce hs1 hd
            go_wp2
            go_roundw
            case rel => exact ⟨k + 1, by omega, by go_num, hK4, HS.out⟩
            case measure => simp [intOf]; omega
          | false =>
            have HS := Lib.hid (HNO.out hce)
            clear hce hs1 hd
            go_wp2
            go_ret
            exact IsPost.mk HS.out hK4
        · have hd : decide ((k : Int) % 4 < 2) = false := by simp; omega
          have HS := Lib.hid (show PairP rs (k + 1) from fun r hr hr2 hr3 => by
            by_cases h : r < k
            · exact HPR.out r h hr2 hr3
            · have : r = k := by omega
              subst this
              exact absurd hr2 hk2)
          clear hk2 HC HRN HSAME HPR
          go_wp2
          refine wp_region_after (w0 := w) (by kernel_rfl) (by kernel_rfl) hb ?_
          iterate 4 (go_big_quiet_step (fail))
          iterate 11 go_big_quiet_skip
          iterate 1 (go_big_quiet_step (fail))
          refine wpQuiet_nil ?_
          intro _ hw'
          obtain ⟨x, hw''⟩ := hw'
          subst hw''
          obtain ⟨w4, hK4⟩ := x
          dsimp only
          clear hd
          go_wp2
          go_roundw
          case rel => exact ⟨k + 1, by omega, by go_num, hK4, HS.out⟩
          case measure => simp [intOf]; omega
      · have hkk : k = rs.length := by omega
        subst hkk
        have HN := Lib.hid (show (true = true) ↔ pok rs = true ∧ PairP rs rs.length from ⟨fun _ => ⟨HPOK.out, HPR.out⟩, fun _ => rfl⟩)
        go_wp2
        go_ret
        exact IsPost.mk ⟨fun _ => HN.out.mp (by first | trivial | rfl), fun _ => rfl⟩ hb
end Go.Proofs.YtobpnoiienpipaaGreat

/-
  What is proved: the walk of the law FnPaired.
  Conditions: none beyond the argument's own.
-/
namespace Go.Proofs.YtobpnoiienpipaaGreat
set_option linter.unusedVariables false
open Go.RowKit
attribute [local go_sem] feq_def

end Go.Proofs.YtobpnoiienpipaaGreat

/-
  What is proved: the walk of Weave over the two fields of a picture.
  Conditions: the fields can be read.
-/
namespace Go.Proofs.YtobpnoiienpipaaGreat
set_option linter.unusedVariables false
open Go.RowKit Go.Shelf
attribute [local go_sem] run_store_float run_store_complex unary_negf neg256 Oper.semAt_some

set_option maxRecDepth 100000 in
set_option maxHeartbeats 2000000 in
theorem values1_in (n : Nat) (hn : 1 ≤ n) (w0 : World) (l Bl g o cap : Nat) (L : List (RowIn w0)) (hlen : L.length ≤ 1000000) (J Jx : List (RowIn w0) → World → Prop)
    (hcell : ∀ i (h : i < L.length), w0.cell? ⟨g, o + i, none⟩ = some L[i].1.1)
    (hY : ∀ pre x W, J pre W → pre.length < L.length → YieldAt Fence.wide (n - 1) Tryz.prog l #[x.1.1] W fun e W' =>
      (e = .returned (.bool true) ∧ J (pre ++ [x]) W' ∧ Below w0.heap.size W W') ∨ (e = .returned (.bool false) ∧ Jx (pre ++ [x]) W'))
    (W : World) (hW : Below w0.heap.size w0 W) (hBl : w0.cell? ⟨Bl, 0, none⟩ = some (.slice (some ⟨g, o, none⟩) L.length cap)) (h0 : J [] W) :
    CallsIn Fence.wide n Tryz.prog 99 #[.func (.yield l) #[] #[], .pointer (some ⟨Bl, 0, none⟩)] W fun e W' => (∃ v, e = .returned v) ∧
      ((∃ ys, ys = L ∧ J ys W') ∨ (∃ pre, pre <+: L ∧ Jx pre W')) := by
  refine callsIn_of_wp Tryz.func99 rfl trivial ?_ rfl
  simp only [Tryz.ntmps99, List.size_toArray, List.length_cons, List.length_nil, Nat.reduceAdd, Nat.reduceSub, Array.replicate_succ, Array.replicate_zero, List.push_toArray, List.append_toArray, List.nil_append, List.cons_append]
  have hbl := (grown_of hW).cell hBl (by simp)
  gi_wp2
  gi_loopw [7] (fun i wr => ∃ (m : Nat) (pre : List (RowIn w0)), i = .int .i64 (m : Int) ∧ m ≤ L.length ∧ pre ++ L.drop m = L ∧ J pre wr ∧ Below w0.heap.size w0 wr) (fun i _ => L.length - (intOf i).toNat)
  case atStart => exact ⟨0, [], rfl, by omega, rfl, h0, hW⟩
  case round =>
    obtain ⟨m, pre, rfl, hm, hpre, hJs, hb⟩ := hrel
    by_cases hlt : m < L.length
    · have hc := (grown_of hb).cell (hcell m hlt) (by simp)
      rw [List.drop_eq_getElem_cons hlt] at hpre
      have hpl : pre.length < L.length := by
        have := congrArg List.length hpre
        rw [List.length_append, List.length_cons] at this
        omega
      obtain ⟨fn, tmps, assign, body, hy, hR⟩ := hY pre L[m] wr hJs hpl
      have HP := Lib.hid hpre
      clear hpre
      generalize L[m] = x at *
      gi_wp2
      refine hR.mono ?_
      rintro e W3 (⟨rfl, hJ3, hk3⟩ | ⟨rfl, hJx3⟩)
      · gi_wp2
        go_roundw
        case rel => exact ⟨m + 1, _, by go_num, by omega, by rw [List.append_assoc]; exact HP.out, hJ3, hb.trans hk3⟩
        case measure => simp [intOf]; omega
      · gi_wp2
        refine bodyPost_ret (results_none rfl _ _ _) rfl ?_
        exact ⟨⟨_, rfl⟩, .inr ⟨_, ⟨_, by rw [List.append_assoc]; exact HP.out⟩, hJx3⟩⟩
    · rw [List.drop_of_length_le (by omega), List.append_nil] at hpre
      have HP := Lib.hid hpre
      clear hpre
      gi_wp2
      go_end0
      exact ⟨⟨_, rfl⟩, .inl ⟨pre, HP.out, hJs⟩⟩
set_option maxHeartbeats 1000000 in
theorem values_any (a : Option Addr) (m c : Nat) (w : World) :
    Calls Tryz.prog 67 #[.slice a m c] w fun e w' => e = .returned (.func (.func 99) #[] #[.pointer (some ⟨w.heap.size, 0, none⟩)]) ∧ w' = w.alloc (.cells #[.slice a m c] 24) := by
  go_enter Tryz.func67, Tryz.ntmps67
  go_wp2
  go_ret
  exact ⟨rfl, rfl⟩
theorem values_hands (n : Nat) (hn : 1 ≤ n) (w0 : World) (Bl g o cap : Nat) (L : List (RowIn w0)) (hlen : L.length ≤ 1000000)
    (hcell : ∀ i (h : i < L.length), w0.cell? ⟨g, o + i, none⟩ = some L[i].1.1) (hBl : w0.cell? ⟨Bl, 0, none⟩ = some (.slice (some ⟨g, o, none⟩) L.length cap)) :
    Hands n w0 99 #[.pointer (some ⟨Bl, 0, none⟩)] L w0 :=
  fun l J Jx W hW _ _ hY h0 => values1_in n hn w0 l Bl g o cap L hlen J Jx hcell hY W hW hBl h0

/-- What the first 2 k rows are woven of. -/
def Woven (w : World) (rs : List (List C3)) (k : Nat) (vals : List Value) : Prop := ∀ q (h : q < rs.length), q < 2 * k → ∃ a c, vals[q]? = some (.slice a rs[q].length c) ∧ RowV w (.slice a rs[q].length c) rs[q]
def WeavePost (rs : List (List C3)) (w : World) (e : Ending) (w' : World) : Prop := ∃ v', e = .returned (.tuple #[v', .bool (pok rs)]) ∧ (pok rs = true → PicV w' v' rs) ∧ Below w.heap.size w w'
theorem WeavePost.no {rs : List (List C3)} {w w' : World} {v' : Value} (h : pok rs = false) (hb : Below w.heap.size w w') : WeavePost rs w (.returned (.tuple #[v', .bool false])) w' := ⟨v', by rw [h], (fun e => by rw [h] at e; cases e), hb⟩
theorem WeavePost.yes {rs : List (List C3)} {w w' : World} {v' : Value} (h : pok rs = true) (hp : PicV w' v' rs) (hb : Below w.heap.size w w') : WeavePost rs w (.returned (.tuple #[v', .bool true])) w' := ⟨v', by rw [h], fun _ => hp, hb⟩
end Go.Proofs.YtobpnoiienpipaaGreat

/-
  What is proved: the walk of Weave over two fields of equal length.
  Conditions: the fields can be read, and lie where the woven picture's rows are told of.
-/
namespace Go.Proofs.YtobpnoiienpipaaGreat
set_option linter.unusedVariables false
open Go.RowKit Go.Shelf
attribute [local go_sem] run_store_float run_store_complex unary_negf neg256 Oper.semAt_some

/-- What holds at a round's beginning. -/
def Wov (w : World) (rs : List (List C3)) (n k : Nat) (W : World) : Prop := ∃ L : List Value, W.heap[w.heap.size]? = some (.cells L.toArray 40 (0, 0)) ∧ L.length = 2 * n ∧ Woven w rs k L ∧ Below w.heap.size w W
theorem Wov.start (w : World) (rs : List (List C3)) (n : Nat) (L : List Value) (h : L.length = 2 * n) : Wov w rs n 0 (w.alloc (.cells L.toArray 40)) :=
  ⟨L, heap_alloc_new w _, h, fun q h h2 => by omega, (Below.refl _ _).alloc (Nat.le_refl _) _⟩
theorem Woven.next {w : World} {rs : List (List C3)} {k n : Nat} {L : List Value} (h : Woven w rs k L) (hl : L.length = 2 * n) (hk : k < n) {u1 u2 : Value}
    (h1 : ∀ (hq : 2 * k < rs.length), ∃ a c, u1 = .slice a rs[2 * k].length c ∧ RowV w (.slice a rs[2 * k].length c) rs[2 * k])
    (h2 : ∀ (hq : 2 * k + 1 < rs.length), ∃ a c, u2 = .slice a rs[2 * k + 1].length c ∧ RowV w (.slice a rs[2 * k + 1].length c) rs[2 * k + 1]) : Woven w rs (k + 1) (splice L (2 * k) [u1, u2]) := by
  intro q hq hlt
  have ht : (L.take (2 * k)).length = 2 * k := by rw [List.length_take]; omega
  unfold splice
  by_cases ha : q < 2 * k
  · obtain ⟨a, c, e1, e2⟩ := h q hq ha
    refine ⟨a, c, ?_, e2⟩
    rw [List.getElem?_append_left (by omega), List.getElem?_take, if_pos ha]
    exact e1
  · by_cases hb : q = 2 * k
    · subst hb
      obtain ⟨a, c, e1, e2⟩ := h1 hq
      exact ⟨a, c, by rw [List.getElem?_append_right (by omega), ht, ← e1]; simp, e2⟩
    · have : q = 2 * k + 1 := by omega
      subst this
      obtain ⟨a, c, e1, e2⟩ := h2 hq
      exact ⟨a, c, by rw [List.getElem?_append_right (by omega), ht, ← e1]; simp, e2⟩
theorem Wov.pic {w W : World} {rs : List (List C3)} {n : Nat} (h : Wov w rs n n W) (hk : rs.length = 2 * n) : PicV W (.slice (some ⟨w.heap.size, 0, none⟩) (2 * n) (2 * n)) rs := by
  obtain ⟨L, hg, hl, hw, hb⟩ := h
  refine .inr ⟨w.heap.size, 0, 2 * n, by rw [hk], by omega, fun i hi => ?_⟩
  obtain ⟨a, c, e1, e2⟩ := hw i hi (by omega)
  refine ⟨_, ?_, e2.below hb⟩
  rw [Nat.zero_add, cell_of_row _ _ i _ _ _ hg]
  simpa using e1

theorem make_rows (n : Nat) (hn : n ≤ 1000) (W : World) : (Instr.makeSlice 24 (.int .i64 (2 * (n : Int))) (.int .i64 (2 * (n : Int)))).run Tryz.prog W = .ok (.slice (some ⟨W.heap.size, 0, none⟩) (2 * n) (2 * n)) (W.alloc (.cells (List.replicate (2 * n) (.slice none 0 0)).toArray 40)) := by
  obtain ⟨i0, hi, hz0, hz1, hz2⟩ := info_parts info_row
  have h := run_make (P := Tryz.prog) W 24 40 i0 _ Tryz.underlying24 hi hz0 .i64 .i64 (2 * n) (2 * n) (by omega) (by omega) (by rw [hz2]; omega) (by omega)
  rw [hz1] at h
  have e : (2 * (n : Int)).toNat = 2 * n := by omega
  rw [← toList_madeCells_one]
  simpa [Value.cells, e] using h
set_option maxRecDepth 100000 in
set_option maxHeartbeats 4000000 in
theorem weave_yes (g o cap g' o' cap' n : Nat) (hn : n ≤ 1000) (rs : List (List C3)) (hrs : rs.length = 2 * n) (ht : Thin rs) (w : World)
    (hcell : ∀ k, k < n → ∀ (hq : 2 * k < rs.length), ∃ a c, w.cell? ⟨g, o + k, none⟩ = some (.slice a rs[2 * k].length c) ∧ RowV w (.slice a rs[2 * k].length c) rs[2 * k])
    (hcell' : ∀ k, k < n → ∀ (hq : 2 * k + 1 < rs.length), ∃ a c, w.cell? ⟨g', o' + k, none⟩ = some (.slice a rs[2 * k + 1].length c) ∧ RowV w (.slice a rs[2 * k + 1].length c) rs[2 * k + 1]) :
    Calls Tryz.prog 34 #[.slice (some ⟨g, o, none⟩) n cap, .slice (some ⟨g', o', none⟩) n cap'] w fun e w' => WeavePost rs w e w' := by
  have HC := Lib.hid hcell
  have HC' := Lib.hid hcell'
  have HRS := Lib.hid hrs
  have HT := Lib.hid ht
  have hst := Lib.hid (Wov.start w rs)
  clear hcell hcell' hrs ht
  have HST := Lib.hid (Wov.start w rs n (List.replicate (2 * n) (.slice none 0 0)) (by simp))
  have hmk := make_rows n hn w
  have HPI := Lib.hid (fun W (h : Wov w rs n n W) => h.pic HRS.out)
  obtain ⟨m, hm⟩ : ∃ m, m = 2 * n := ⟨_, rfl⟩
  rw [← hm] at HST hmk HPI
  have HM := Lib.hid hm
  clear hst hm
  go_enter Tryz.func34, Tryz.ntmps34
  go_wp2
  go_loopw [19] (fun i wr => ∃ k : Nat, k ≤ n ∧ i = .int .i64 (k : Int) ∧ Wov w rs n k wr) (fun i _ => n - (intOf i).toNat)
  case atStart => exact ⟨0, Nat.zero_le _, rfl, HST.out⟩
  case round =>
    obtain ⟨k, hk, rfl, hm⟩ := hrel
    by_cases hlt : k < n
    · obtain ⟨L, hg, hL, hwo, hbl⟩ := hm
      have hq1 : 2 * k + 1 < rs.length := by have := HRS.out; omega
      obtain ⟨a, c, hc, hr⟩ := HC.out k hlt (by omega)
      obtain ⟨a', c', hc', hr'⟩ := HC'.out k hlt hq1
      have HNX := Lib.hid (hwo.next hL hlt (u1 := .slice a (rs[2 * k]'(by omega)).length c) (u2 := .slice a' rs[2 * k + 1].length c') (fun _ => ⟨a, c, rfl, hr⟩) (fun _ => ⟨a', c', rfl, hr'⟩))
      have HLN := Lib.hid hL
      have HBL := Lib.hid hbl
      have m0 := (grown_of hbl).cell hc (by simp)
      have m1 := (grown_of hbl).cell hc' (by simp)
      have HG := fun o => Lib.hid (show ((wr.alloc o).drew).heap[w.heap.size]? = some (.cells L.toArray 40 (0, 0)) from (Below.heap_alloc wr o _ (Array.getElem?_eq_some_iff.1 hg).1).trans hg)
      generalize (rs[2 * k]'(by omega)).length = na at *
      generalize rs[2 * k + 1].length = nb at *
      obtain ⟨q, hq⟩ : ∃ q, q = 2 * k := ⟨_, rfl⟩
      have hwr : IntKind.i64.wrap (2 * (k : Int)) = (q : Int) := by rw [IntWalk.i64_in _ (by omega)]; omega
      have hql : q + 2 ≤ m := by have := HM.out; omega
      have hq3 : q ≤ m := by omega
      have hq4 : ¬ m = q := by omega
      have hq5 : ¬ m - q = 0 := by omega
      rw [← hq] at HNX
      have HQ := Lib.hid hq
      clear hq
      have HNEW := Lib.hid (World.news_of_block (w := (wr.alloc (.cells #[.slice a na c, .slice a' nb c'] 40)).drew) (heap_alloc_new wr _))
      clear hr hr' hc hc' hwo hL hg hbl HST
      go_wp2
      go_region_law (refine step_copy_splice rfl (.tmp 25) (.tmp 34) 24 24 rfl 40 Tryz.underlying24 (by kernel_rfl) _ _ _ _ _ _ rfl rfl w.heap.size q L 40 (HG _).out [.slice a na c, .slice a' nb c'] (by show 2 = Nat.min 2 _; exact (Nat.min_eq_left (by omega)).symm) (fun _ => ⟨rfl, _, rfl, HNEW.out⟩) (by have := HLN.out; have := HM.out; simp; omega) (by simp [Value.oneCell']) w.heap.size w ((HBL.out.alloc HBL.out.size _).trans ⟨rfl, rfl, rfl, Nat.le_refl _, fun _ _ => rfl⟩) (Nat.le_refl _) ?_; intro w4 hg4 hb4)
      all_goals
        go_wp2
        go_roundw
        case rel => exact ⟨k + 1, by omega, by go_num, _, hg4.out, by rw [length_splice _ _ _ (by have := HLN.out; have := HM.out; simp; omega)]; exact HLN.out, HNX.out, hb4⟩
        case measure => simp [intOf]; omega
    · have hkk : k = n := by omega
      subst hkk
      have hpv := HPI.out wr hm
      have HA := Lib.hid (show Aft w wr from hm.choose_spec.2.2.2)
      clear HC HC' hm HST HPI
      obtain rfl : m = rs.length := by have := HM.out; have := HRS.out; omega
      have HP := Lib.hid (pictureOk_any _ rs wr hpv HT.out (by have := HRS.out; omega))
      cases hp : pok rs with
      | false =>
        rw [hp] at HP
        have HPF := Lib.hid hp
        clear hp hpv
        go_wp2_with fail
        refine HP.out.mono ?_
        rintro e w1 ⟨rfl, hb⟩
        go_wp2
        go_ret2
        exact WeavePost.no HPF.out (HA.out.next hb)
      | true =>
        rw [hp] at HP
        have HPF := Lib.hid hp
        obtain ⟨h4, h5, h6⟩ := pok_size_of hp
        have hne : rs ≠ [] := by rintro rfl; simp at h5
        have HRN := Lib.hid (pok_rows_ne hp)
        obtain ⟨g1, o1, cap1, hv1, _, hcell1⟩ := hpv.len hne
        cases hv1
        have HC := Lib.hid hcell1
        clear hp hpv hcell1 hne h4
        go_wp2_with fail
        refine HP.out.mono ?_
        rintro e w1 ⟨rfl, hb⟩
        have HA1 := Lib.hid (HA.out.next hb)
        go_wp2_with fail
        refine (values_any _ _ _ w1).mono ?_
        rintro e w2 ⟨rfl, rfl⟩
        have hb2 : Below wr.heap.size wr (w1.alloc (.cells #[.slice (some ⟨w.heap.size, 0, none⟩) rs.length rs.length] 24)) := hb.alloc hb.size _
        have HA2 := Lib.hid (HA.out.next hb2)
        have k1 : (w1.alloc (.cells #[.slice (some ⟨w.heap.size, 0, none⟩) rs.length rs.length] 24)).cell? ⟨w1.heap.size, 0, none⟩ = some (.slice (some ⟨w.heap.size, 0, none⟩) rs.length rs.length) := (cell_of_row _ _ 0 _ _ _ (heap_alloc_new w1 _)).trans rfl
        obtain ⟨w2, hw2⟩ : ∃ w2, w1.alloc (.cells #[.slice (some ⟨w.heap.size, 0, none⟩) rs.length rs.length] 24) = w2 := ⟨_, rfl⟩
        rw [hw2] at hb2 k1 HA2
        obtain ⟨L, e1, e2, e3⟩ := rows_in (w0 := w2) hb2 HRN.out HC.out
        rw [← e1] at k1
        have HH := Lib.hid (copies_any w2 _ _ L (by omega) (enters_of Tryz.func99 (by kernel_rfl) rfl)
          (values_hands 2 (by omega) w2 w1.heap.size w.heap.size 0 L.length L (by omega) e3 k1))
        rw [e2] at HH
        clear k1 e1 e2 e3 hb hb2 HC HP
        go_wp2_with fail
        try rw [hw2]
        refine (callsIn_wide.1 HH.out).mono ?_
        rintro e w3 ⟨v3, rfl, hv3, hb3⟩
        have HV3 := Lib.hid hv3
        clear hv3 hw2
        go_wp2
        go_ret2
        exact WeavePost.yes HPF.out HV3.out (HA2.out.next hb3)
end Go.Proofs.YtobpnoiienpipaaGreat
