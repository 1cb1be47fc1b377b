/-
  What is proved: the walk of Weave over two fields of equal length.
  Conditions: the fields can be read, and lie where the woven picture's rows are told of.
-/
import Derived.Test.YtlbepmiomcmcnaaWeave
namespace Go.Proofs.Ytlbepmiomcmcnaa
set_option linter.unusedVariables false
open Go.RowKit Go.Shelf
attribute [local go_sem] run_store_float run_store_complex unary_negf neg256 Oper.semAt_some

/-- What holds at a round's beginning. -/
def Wov (w : World) (rs : List (List C3)) (k : Nat) (v : Value) (vals : List Value) (W : World) : Prop :=
  Aft w W ∧ W.ownsRow w.heap.size 32 1 v (2 * k) vals ∧ Woven w rs k vals
theorem Wov.start (w : World) (rs : List (List C3)) : Wov w rs 0 (.slice none 0 0) [] w := ⟨Aft.start w, World.ownsRow_nil _ _ _ _, fun q h h2 => by omega⟩
theorem Wov.drew {w W : World} {rs : List (List C3)} {k : Nat} {v : Value} {vals : List Value} (h : Wov w rs k v vals W) : Wov w rs k v vals W.drew := ⟨h.1.drew, h.2.1.drew, h.2.2⟩
theorem Wov.alloc {w W : World} {rs : List (List C3)} {k : Nat} {v : Value} {vals : List Value} (h : Wov w rs k v vals W) (o : Obj) : Wov w rs k v vals (W.alloc o) := ⟨Below.alloc h.1 (Below.size h.1) o, h.2.1.alloc o, h.2.2⟩
theorem Wov.load {w W : World} {rs : List (List C3)} {k : Nat} {v : Value} {vals : List Value} (h : Wov w rs k v vals W) {p : Addr} {u : Value} (hc : w.cell? p = some u) : W.cell? p = some u := h.1.load hc
theorem Wov.next {w W W' : World} {rs : List (List C3)} {k : Nat} {v v' : Value} {vals : List Value} (h : Wov w rs k v vals W) {u1 u2 : Value}
    (hown : W'.ownsRow w.heap.size 32 1 v' (2 * k + 2) (vals ++ [u1, u2])) (hg : W.grownBy W' v.ownBlock)
    (h1 : ∀ (hq : 2 * k < rs.length), ∃ a c, u1 = .slice a rs[2 * k].length c ∧ RowV w (.slice a rs[2 * k].length c) rs[2 * k])
    (h2 : ∀ (hq : 2 * k + 1 < rs.length), ∃ a c, u2 = .slice a rs[2 * k + 1].length c ∧ RowV w (.slice a rs[2 * k + 1].length c) rs[2 * k + 1]) : Wov w rs (k + 1) v' (vals ++ [u1, u2]) W' := by
  have hl : vals.length = 2 * k := by have := h.2.1.1; omega
  refine ⟨?_, by rw [Nat.mul_add]; exact hown, ?_⟩
  · exact Below.grown h.1 hg (Below.size h.1) (fun r e => (World.ownsRow.lt h.2.1 r e).1)
  · intro q hq hlt
    by_cases ha : q < 2 * k
    · obtain ⟨a, c, e1, e2⟩ := h.2.2 q hq ha
      exact ⟨a, c, by rw [List.getElem?_append_left (by omega)]; exact e1, e2⟩
    · by_cases hb : q = 2 * k
      · subst hb
        obtain ⟨a, c, e1, e2⟩ := h1 hq
        exact ⟨a, c, by rw [List.getElem?_append_right (by omega), hl, ← e1]; simp, e2⟩
      · have : q = 2 * k + 1 := by omega
        subst this
        obtain ⟨a, c, e1, e2⟩ := h2 hq
        exact ⟨a, c, by rw [List.getElem?_append_right (by omega), hl, ← e1]; simp, e2⟩
theorem Wov.pic {w W : World} {rs : List (List C3)} {k : Nat} {v : Value} {vals : List Value} (h : Wov w rs k v vals W) (hk : rs.length = 2 * k) : PicV W v rs := by
  have h' := h.2.1
  rcases h.2.1.2 with ⟨rfl, h0⟩ | ⟨g, cap, cur, rfl, _, hgg, hn, _⟩
  · have : rs = [] := List.eq_nil_of_length_eq_zero (by omega)
    subst this
    exact PicV.nil _
  · refine .inr ⟨g, 0, cap, by rw [hk], by omega, fun i hi => ?_⟩
    obtain ⟨a, c, e1, e2⟩ := h.2.2 i hi (by omega)
    have hadd : (⟨g, 0, none⟩ : Addr).add i = ⟨g, 0 + i, none⟩ := by unfold Addr.add; split <;> simp_all
    have hc := World.ownsRow.cells h' (g := g) rfl i _ e1
    rw [hadd] at hc
    exact ⟨_, hc, e2.below h.1⟩

set_option maxRecDepth 100000 in
set_option maxHeartbeats 4000000 in
theorem weave_yes (g o cap g' o' cap' n : Nat) (hn : n ≤ 1000) (rs : List (List C3)) (hrs : rs.length = 2 * n) (ht : Thin rs) (w : World)
    (hcell : ∀ k, k < n → ∀ (hq : 2 * k < rs.length), ∃ a c, w.cell? ⟨g, o + k, none⟩ = some (.slice a rs[2 * k].length c) ∧ RowV w (.slice a rs[2 * k].length c) rs[2 * k])
    (hcell' : ∀ k, k < n → ∀ (hq : 2 * k + 1 < rs.length), ∃ a c, w.cell? ⟨g', o' + k, none⟩ = some (.slice a rs[2 * k + 1].length c) ∧ RowV w (.slice a rs[2 * k + 1].length c) rs[2 * k + 1]) :
    Calls Try.prog 10 #[.slice (some ⟨g, o, none⟩) n cap, .slice (some ⟨g', o', none⟩) n cap'] w fun e w' => WeavePost rs w e w' := by
  have HC := Lib.hid hcell
  have HC' := Lib.hid hcell'
  have HRS := Lib.hid hrs
  have HT := Lib.hid ht
  have hst := Lib.hid (Wov.start w rs)
  clear hcell hcell' hrs ht
  go_enter Try.func10, Try.ntmps10
  go_wp2
  go_loopw [6, 15] (fun u i wr => ∃ (k : Nat) (vals : List Value), k ≤ n ∧ i = .int .i64 (k : Int) ∧ Wov w rs k u vals wr) (fun _ i _ => n - (intOf i).toNat)
  case atStart => exact ⟨0, [], Nat.zero_le _, rfl, hst.out⟩
  case round =>
    obtain ⟨k, vals, hk, rfl, hm⟩ := hrel
    have HM := Lib.hid hm
    clear hm hst
    by_cases hlt : k < n
    · have hq1 : 2 * k + 1 < rs.length := by have := HRS.out; omega
      obtain ⟨a, c, hc, hr⟩ := HC.out k hlt (by omega)
      obtain ⟨a', c', hc', hr'⟩ := HC'.out k hlt hq1
      have HR := Lib.hid hr
      have HR' := Lib.hid hr'
      have m0 := HM.out.load hc
      have m1 := HM.out.load hc'
      have HNX := Lib.hid (fun v' W' (hown : World.ownsRow W' w.heap.size 32 1 v' (2 * k + 2) (vals ++ [.slice a (rs[2 * k]'(by omega)).length c, .slice a' rs[2 * k + 1].length c'])) (hg : (wr.alloc (.cells #[.slice a (rs[2 * k]'(by omega)).length c, .slice a' rs[2 * k + 1].length c'] 32)).drew.grownBy W' u6.ownBlock) =>
        (HM.out.alloc _).drew.next hown hg (fun _ => ⟨a, c, rfl, HR.out⟩) (fun _ => ⟨a', c', rfl, HR'.out⟩))
      have HO := Lib.hid (fun o => (HM.out.alloc o).drew.2.1)
      have HS := Lib.hid (Below.size HM.out.1)
      have HL := Lib.hid (fun v' k' vals' W (h : Wov w rs k' v' vals' W) => And.intro (h.load hc) (h.load hc'))
      generalize (rs[2 * k]'(by omega)).length = na at *
      generalize rs[2 * k + 1].length = nb at *
      have HNEW := Lib.hid (World.news_of_block (w := (wr.alloc (.cells #[.slice a na c, .slice a' nb c'] 32)).drew) (heap_alloc_new wr _))
      clear hr hr' hc hc' HR HR' HM
      go_wp2
      go_region_held3 (fun W => W.cell? ⟨g, o + k, none⟩ = some (.slice a na c) ∧ W.cell? ⟨g', o' + k, none⟩ = some (.slice a' nb c')) (go_keep)
        (first | (refine step_rows (by rfl) (.tmp 18) (.tmp 27) (by rfl) w.heap.size u6 (2 * k) vals [.slice a na c, .slice a' nb c'] (by rfl) (HO.out _) ⟨wr.heap.size, 0, none⟩ 2 2 (by rfl) (by rfl) HNEW.out (by simp [Value.oneCell']) (by decide) (by omega) (by have := HS.out; simp; omega) ?_; intro g6 cap6 w6 ho6 hg6 hlt6; have hx6 := HNX.out _ _ ho6 hg6; obtain ⟨k0, k1⟩ := HL.out _ _ _ _ hx6))
      have HX := Lib.hid hx6
      clear hx6 k0 k1 ho6 hg6 hlt6 HNX HO HS HNEW HL m0 m1
      go_wp2
      go_roundw
      case rel => exact ⟨k + 1, _, by omega, by go_num, HX.out⟩
      case measure => simp [intOf]; omega
    · have hkk : k = n := by omega
      subst hkk
      have hpv := HM.out.pic HRS.out
      have HA := Lib.hid HM.out.1
      clear HC HC' HM
      have HP := Lib.hid (pictureOk_any u6 rs wr hpv HT.out (by have := HRS.out; omega))
      cases hp : pok rs with
      | false =>
        rw [hp] at HP
        have HPF := Lib.hid hp
        clear hp hpv
        go_wp2_with fail
        refine HP.out.mono ?_
        rintro e w1 ⟨rfl, hb⟩
        go_wp2
        go_ret2
        exact WeavePost.no HPF.out (HA.out.next hb)
      | true =>
        rw [hp] at HP
        have HPF := Lib.hid hp
        obtain ⟨h4, h5, h6⟩ := pok_size_of hp
        have hne : rs ≠ [] := by rintro rfl; simp at h5
        have HRN := Lib.hid (pok_rows_ne hp)
        obtain ⟨g1, o1, cap1, rfl, _, hcell1⟩ := hpv.len hne
        have HC := Lib.hid hcell1
        clear hp hpv hcell1 hne h4
        go_wp2_with fail
        refine HP.out.mono ?_
        rintro e w1 ⟨rfl, hb⟩
        have HA1 := Lib.hid (HA.out.next hb)
        go_wp2_with fail
        refine (values_any _ _ _ w1).mono ?_
        rintro e w2 ⟨rfl, rfl⟩
        have hb2 : Below wr.heap.size wr (w1.alloc (.cells #[.slice (some ⟨g1, o1, none⟩) rs.length cap1] 24)) := hb.alloc hb.size _
        have HA2 := Lib.hid (HA.out.next hb2)
        have k1 : (w1.alloc (.cells #[.slice (some ⟨g1, o1, none⟩) rs.length cap1] 24)).cell? ⟨w1.heap.size, 0, none⟩ = some (.slice (some ⟨g1, o1, none⟩) rs.length cap1) := (cell_of_row _ _ 0 _ _ _ (heap_alloc_new w1 _)).trans rfl
        obtain ⟨w2, hw2⟩ : ∃ w2, w1.alloc (.cells #[.slice (some ⟨g1, o1, none⟩) rs.length cap1] 24) = w2 := ⟨_, rfl⟩
        rw [hw2] at hb2 k1 HA2
        obtain ⟨L, e1, e2, e3⟩ := rows_in (w0 := w2) hb2 HRN.out HC.out
        rw [← e1] at k1
        have HH := Lib.hid (copies_any w2 _ _ L (by omega) (enters_of Try.func53 (by kernel_rfl) rfl)
          (values_hands 2 (by omega) w2 w1.heap.size g1 o1 cap1 L (by omega) e3 k1))
        rw [e2] at HH
        clear k1 e1 e2 e3 hb hb2 HC HP
        go_wp2_with fail
        try rw [hw2]
        refine (callsIn_wide.1 HH.out).mono ?_
        rintro e w3 ⟨v3, rfl, hv3, hb3⟩
        have HV3 := Lib.hid hv3
        clear hv3 hw2
        go_wp2
        go_ret2
        exact WeavePost.yes HPF.out HV3.out (HA2.out.next hb3)
end Go.Proofs.Ytlbepmiomcmcnaa
