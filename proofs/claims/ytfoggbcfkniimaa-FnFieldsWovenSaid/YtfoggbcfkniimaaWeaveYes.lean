/-
  What is proved: the walk of Weave over two fields of equal length.
  Conditions: the fields can be read, and lie where the woven picture's rows are told of.
-/
import Derived.Test.YtfoggbcfkniimaaWeave
import Derived.Laws.OwnMore
namespace Go.Proofs.Ytfoggbcfkniimaa
set_option linter.unusedVariables false
open Go.RowKit Go.Shelf
attribute [local go_sem] run_store_float run_store_complex unary_negf neg256 Oper.semAt_some

/-- What holds at a round's beginning. -/
def Wov (w : World) (rs : List (List C3)) (n k : Nat) (W : World) : Prop := ∃ L : List Value, W.heap[w.heap.size]? = some (.cells L.toArray 46 (0, 0)) ∧ L.length = 2 * n ∧ Woven w rs k L ∧ Below w.heap.size w W
theorem Wov.start (w : World) (rs : List (List C3)) (n : Nat) (L : List Value) (h : L.length = 2 * n) : Wov w rs n 0 (w.alloc (.cells L.toArray 46)) :=
  ⟨L, heap_alloc_new w _, h, fun q h h2 => by omega, (Below.refl _ _).alloc (Nat.le_refl _) _⟩
theorem Woven.next {w : World} {rs : List (List C3)} {k n : Nat} {L : List Value} (h : Woven w rs k L) (hl : L.length = 2 * n) (hk : k < n) {u1 u2 : Value}
    (h1 : ∀ (hq : 2 * k < rs.length), ∃ a c, u1 = .slice a rs[2 * k].length c ∧ RowV w (.slice a rs[2 * k].length c) rs[2 * k])
    (h2 : ∀ (hq : 2 * k + 1 < rs.length), ∃ a c, u2 = .slice a rs[2 * k + 1].length c ∧ RowV w (.slice a rs[2 * k + 1].length c) rs[2 * k + 1]) : Woven w rs (k + 1) (splice L (2 * k) [u1, u2]) := by
  intro q hq hlt
  have ht : (L.take (2 * k)).length = 2 * k := by rw [List.length_take]; omega
  unfold splice
  by_cases ha : q < 2 * k
  · obtain ⟨a, c, e1, e2⟩ := h q hq ha
    refine ⟨a, c, ?_, e2⟩
    rw [List.getElem?_append_left (by omega), List.getElem?_take, if_pos ha]
    exact e1
  · by_cases hb : q = 2 * k
    · subst hb
      obtain ⟨a, c, e1, e2⟩ := h1 hq
      exact ⟨a, c, by rw [List.getElem?_append_right (by omega), ht, ← e1]; simp, e2⟩
    · have : q = 2 * k + 1 := by omega
      subst this
      obtain ⟨a, c, e1, e2⟩ := h2 hq
      exact ⟨a, c, by rw [List.getElem?_append_right (by omega), ht, ← e1]; simp, e2⟩
theorem Wov.pic {w W : World} {rs : List (List C3)} {n : Nat} (h : Wov w rs n n W) (hk : rs.length = 2 * n) : PicV W (.slice (some ⟨w.heap.size, 0, none⟩) (2 * n) (2 * n)) rs := by
  obtain ⟨L, hg, hl, hw, hb⟩ := h
  refine .inr ⟨w.heap.size, 0, 2 * n, by rw [hk], by omega, fun i hi => ?_⟩
  obtain ⟨a, c, e1, e2⟩ := hw i hi (by omega)
  refine ⟨_, ?_, e2.below hb⟩
  rw [Nat.zero_add, cell_of_row _ _ i _ _ _ hg]
  simpa using e1

theorem make_rows (n : Nat) (hn : n ≤ 1000) (W : World) : (Instr.makeSlice 38 (.int .i64 (2 * (n : Int))) (.int .i64 (2 * (n : Int)))).run Try.prog W = .ok (.slice (some ⟨W.heap.size, 0, none⟩) (2 * n) (2 * n)) (W.alloc (.cells (List.replicate (2 * n) (.slice none 0 0)).toArray 46)) := by
  obtain ⟨i0, hi, hz0, hz1, hz2⟩ := info_parts info_row
  have h := run_make (P := Try.prog) W 38 46 i0 _ Try.underlying38 hi hz0 .i64 .i64 (2 * n) (2 * n) (by omega) (by omega) (by rw [hz2]; omega) (by omega)
  rw [hz1] at h
  have e : (2 * (n : Int)).toNat = 2 * n := by omega
  rw [← toList_madeCells_one]
  simpa [Value.cells, e] using h
set_option maxRecDepth 100000 in
set_option maxHeartbeats 4000000 in
theorem weave_yes (g o cap g' o' cap' n : Nat) (hn : n ≤ 1000) (rs : List (List C3)) (hrs : rs.length = 2 * n) (ht : Thin rs) (w : World)
    (hcell : ∀ k, k < n → ∀ (hq : 2 * k < rs.length), ∃ a c, w.cell? ⟨g, o + k, none⟩ = some (.slice a rs[2 * k].length c) ∧ RowV w (.slice a rs[2 * k].length c) rs[2 * k])
    (hcell' : ∀ k, k < n → ∀ (hq : 2 * k + 1 < rs.length), ∃ a c, w.cell? ⟨g', o' + k, none⟩ = some (.slice a rs[2 * k + 1].length c) ∧ RowV w (.slice a rs[2 * k + 1].length c) rs[2 * k + 1]) :
    Calls Try.prog 19 #[.slice (some ⟨g, o, none⟩) n cap, .slice (some ⟨g', o', none⟩) n cap'] w fun e w' => WeavePost rs w e w' := by
  have HC := Lib.hid hcell
  have HC' := Lib.hid hcell'
  have HRS := Lib.hid hrs
  have HT := Lib.hid ht
  have hst := Lib.hid (Wov.start w rs)
  clear hcell hcell' hrs ht
  have HST := Lib.hid (Wov.start w rs n (List.replicate (2 * n) (.slice none 0 0)) (by simp))
  have hmk := make_rows n hn w
  have HPI := Lib.hid (fun W (h : Wov w rs n n W) => h.pic HRS.out)
  obtain ⟨m, hm⟩ : ∃ m, m = 2 * n := ⟨_, rfl⟩
  rw [← hm] at HST hmk HPI
  have HM := Lib.hid hm
  clear hst hm
  go_enter Try.func19, Try.ntmps19
  go_wp2
  go_loopw [19] (fun i wr => ∃ k : Nat, k ≤ n ∧ i = .int .i64 (k : Int) ∧ Wov w rs n k wr) (fun i _ => n - (intOf i).toNat)
  case atStart => exact ⟨0, Nat.zero_le _, rfl, HST.out⟩
  case round =>
    obtain ⟨k, hk, rfl, hm⟩ := hrel
    by_cases hlt : k < n
    · obtain ⟨L, hg, hL, hwo, hbl⟩ := hm
      have hq1 : 2 * k + 1 < rs.length := by have := HRS.out; omega
      obtain ⟨a, c, hc, hr⟩ := HC.out k hlt (by omega)
      obtain ⟨a', c', hc', hr'⟩ := HC'.out k hlt hq1
      have HNX := Lib.hid (hwo.next hL hlt (u1 := .slice a (rs[2 * k]'(by omega)).length c) (u2 := .slice a' rs[2 * k + 1].length c') (fun _ => ⟨a, c, rfl, hr⟩) (fun _ => ⟨a', c', rfl, hr'⟩))
      have HLN := Lib.hid hL
      have HBL := Lib.hid hbl
      have m0 := (grown_of hbl).cell hc (by simp)
      have m1 := (grown_of hbl).cell hc' (by simp)
      have HG := fun o => Lib.hid (show ((wr.alloc o).drew).heap[w.heap.size]? = some (.cells L.toArray 46 (0, 0)) from (Go.heap_alloc_old wr o _ (Array.getElem?_eq_some_iff.1 hg).1).trans hg)
      generalize (rs[2 * k]'(by omega)).length = na at *
      generalize rs[2 * k + 1].length = nb at *
      obtain ⟨q, hq⟩ : ∃ q, q = 2 * k := ⟨_, rfl⟩
      have hwr : IntKind.i64.wrap (2 * (k : Int)) = (q : Int) := by rw [IntWalk.i64_in _ (by omega)]; omega
      have hql : q + 2 ≤ m := by have := HM.out; omega
      have hq3 : q ≤ m := by omega
      have hq4 : ¬ m = q := by omega
      have hq5 : ¬ m - q = 0 := by omega
      rw [← hq] at HNX
      have HQ := Lib.hid hq
      clear hq
      have HNEW := Lib.hid (World.news_of_block (w := (wr.alloc (.cells #[.slice a na c, .slice a' nb c'] 46)).drew) (heap_alloc_new wr _))
      clear hr hr' hc hc' hwo hL hg hbl HST
      go_wp2
      go_region_law (refine step_copy_splice rfl (.tmp 25) (.tmp 34) 38 38 rfl 46 Try.underlying38 (by kernel_rfl) _ _ _ _ _ _ rfl rfl w.heap.size q L 46 (HG _).out [.slice a na c, .slice a' nb c'] (by show 2 = Nat.min 2 _; exact (Nat.min_eq_left (by omega)).symm) (fun _ => ⟨rfl, _, rfl, HNEW.out⟩) (by have := HLN.out; have := HM.out; simp; omega) (by simp [Value.oneCell']) w.heap.size w ((HBL.out.alloc HBL.out.size _).trans ⟨rfl, rfl, rfl, Nat.le_refl _, fun _ _ => rfl⟩) (Nat.le_refl _) ?_; intro w4 hg4 hb4)
      all_goals
        go_wp2
        go_roundw
        case rel => exact ⟨k + 1, by omega, by go_num, _, hg4.out, by rw [length_splice _ _ _ (by have := HLN.out; have := HM.out; simp; omega)]; exact HLN.out, HNX.out, hb4⟩
        case measure => simp [intOf]; omega
    · have hkk : k = n := by omega
      subst hkk
      have hpv := HPI.out wr hm
      have HA := Lib.hid (show Aft w wr from hm.choose_spec.2.2.2)
      clear HC HC' hm HST HPI
      obtain rfl : m = rs.length := by have := HM.out; have := HRS.out; omega
      have HP := Lib.hid (pictureOk_any _ rs wr hpv HT.out (by have := HRS.out; omega))
      cases hp : pok rs with
      | false =>
        rw [hp] at HP
        have HPF := Lib.hid hp
        clear hp hpv
        go_wp2_with fail
        refine HP.out.mono ?_
        rintro e w1 ⟨rfl, hb⟩
        go_wp2
        go_ret2
        exact WeavePost.no HPF.out (HA.out.next hb)
      | true =>
        rw [hp] at HP
        have HPF := Lib.hid hp
        obtain ⟨h4, h5, h6⟩ := pok_size_of hp
        have hne : rs ≠ [] := by rintro rfl; simp at h5
        have HRN := Lib.hid (pok_rows_ne hp)
        obtain ⟨g1, o1, cap1, hv1, _, hcell1⟩ := hpv.len hne
        cases hv1
        have HC := Lib.hid hcell1
        clear hp hpv hcell1 hne h4
        go_wp2_with fail
        refine HP.out.mono ?_
        rintro e w1 ⟨rfl, hb⟩
        have HA1 := Lib.hid (HA.out.next hb)
        go_wp2_with fail
        refine (values_any _ _ _ w1).mono ?_
        rintro e w2 ⟨rfl, rfl⟩
        have hb2 : Below wr.heap.size wr (w1.alloc (.cells #[.slice (some ⟨w.heap.size, 0, none⟩) rs.length rs.length] 38)) := hb.alloc hb.size _
        have HA2 := Lib.hid (HA.out.next hb2)
        have k1 : (w1.alloc (.cells #[.slice (some ⟨w.heap.size, 0, none⟩) rs.length rs.length] 38)).cell? ⟨w1.heap.size, 0, none⟩ = some (.slice (some ⟨w.heap.size, 0, none⟩) rs.length rs.length) := (cell_of_row _ _ 0 _ _ _ (heap_alloc_new w1 _)).trans rfl
        obtain ⟨w2, hw2⟩ : ∃ w2, w1.alloc (.cells #[.slice (some ⟨w.heap.size, 0, none⟩) rs.length rs.length] 38) = w2 := ⟨_, rfl⟩
        rw [hw2] at hb2 k1 HA2
        obtain ⟨L, e1, e2, e3⟩ := rows_in (w0 := w2) hb2 HRN.out HC.out
        rw [← e1] at k1
        have HH := Lib.hid (copies_any w2 _ _ L (by omega) (enters_of Try.func56 (by kernel_rfl) rfl)
          (values_hands 2 (by omega) w2 w1.heap.size w.heap.size 0 L.length L (by omega) e3 k1))
        rw [e2] at HH
        clear k1 e1 e2 e3 hb hb2 HC HP
        go_wp2_with fail
        try rw [hw2]
        refine (callsIn_wide.1 HH.out).mono ?_
        rintro e w3 ⟨v3, rfl, hv3, hb3⟩
        have HV3 := Lib.hid hv3
        clear hv3 hw2
        go_wp2
        go_ret2
        exact WeavePost.yes HPF.out HV3.out (HA2.out.next hb3)
end Go.Proofs.Ytfoggbcfkniimaa
