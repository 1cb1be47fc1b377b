/-
  What is proved: the walk of the law FnLineParts.
  Conditions: none beyond the argument's own.
-/
import Derived.Test.YtjccnmnhgahlfaaDrawLine
import Derived.Test.YtjccnmnhgahlfaaPart
import Derived.Test.YtjccnmnhgahlfaaFSame
namespace Go.Proofs.Ytjccnmnhgahlfaa
set_option linter.unusedVariables false
open Go.RowKit
attribute [local go_sem] run_store_float run_store_complex unary_negf neg256

theorem parts_all {xs : List Nat} (h : 24 ≤ xs.length) : (part xs 0 8 ++ part xs 8 16) ++ part xs 24 (xs.length - 24) = xs := by
  unfold part
  have h2 : (xs.drop 24).take (xs.length - 24) = xs.drop 24 := List.take_of_length_le (by rw [List.length_drop]; exact Nat.le_refl _)
  rw [List.drop_zero, h2]
  have h1 : xs.take 8 ++ (xs.drop 8).take 16 = xs.take 24 := by
    rw [show (24 : Nat) = 8 + 16 from rfl, List.take_add]
  rw [h1, List.take_append_drop]
def DrawOne (w : World) (e : Ending) (w' : World) : Prop := ∃ v xs, xs.length ≤ 5000 ∧ e = .returned v ∧ FRow w' v xs ∧ Below w.heap.size w w'
theorem DrawOne.mk {w w' : World} {v : Value} {xs : List Nat} (hl : xs.length ≤ 5000) (hr : FRow w' v xs) (hb : Below w.heap.size w w') : DrawOne w (.returned v) w' := ⟨v, xs, hl, rfl, hr, hb⟩
set_option maxHeartbeats 1000000 in
theorem drawLine_any (a : Option Addr) (len cap : Nat) (w : World) (hs : Src w w.heap.size a len cap) :
    Calls Try.prog 14 #[.slice a len cap] w fun e w' => DrawOne w e w' := by
  have HN := Lib.hid (l01New_any a len cap w hs)
  clear hs
  go_enter Try.func14, Try.ntmps14
  go_wp2_with fail
  refine HN.out.mono ?_
  rintro e w1 ⟨rfl, hc1, hg1⟩
  go_wp2_with fail
  refine (l04Line_any _ _ hc1).mono ?_
  rintro e w2 ⟨v, ys, rfl, hyl, ho2, hc2, hg2⟩
  have HO2 := Lib.hid ho2
  clear ho2
  go_wp2
  go_ret
  exact DrawOne.mk hyl HO2.out.row (drawn hg1 hg2)
set_option maxHeartbeats 4000000 in
set_option maxRecDepth 20000 in
theorem walk_FnLineParts (a0 : Option Addr) (len0 cap0 : Nat) (z0 : List Int) (w : World) (w0 : IsRow .u8 w a0 len0 cap0 z0) :
    Calls Try.prog 3 #[.slice a0 len0 cap0] w fun e w' => e = .returned (.bool true) ∧ Below w.heap.size w w' := by
  by_cases hbig : 1048576 < len0
  · have hbb : decide ((1048576 : Int) < len0) = true := by simp; omega
    have HB := Lib.hid (big_any a0 len0 cap0 w)
    rw [hbb] at HB
    clear hbb
    go_enter Try.func3, Try.ntmps3
    go_wp2_with fail
    refine HB.out.mono ?_
    rintro e w1 ⟨rfl, rfl⟩
    go_wp2
    go_ret
    exact ⟨rfl, Below.refl _ _⟩
  · have hbb : decide ((1048576 : Int) < len0) = false := by simp; omega
    have HB := Lib.hid (big_any a0 len0 cap0 w)
    rw [hbb] at HB
    have HD := Lib.hid (drawLine_any a0 len0 cap0 w (w0.src (by omega)))
    clear hbb w0
    go_enter Try.func3, Try.ntmps3
    go_wp2_with fail
    refine HB.out.mono ?_
    rintro e w1 ⟨rfl, rfl⟩
    go_wp2_with fail
    refine HD.out.mono ?_
    rintro e w1 ⟨v, xs, hxl, rfl, hr, hb1⟩
    have HR := fun W (hb : Below w1.heap.size w1 W) => Lib.hid (hr.below hb)
    clear hr HD HB
    have r1 := HR _ (Below.refl _ _)
    go_wp2_with fail
    refine (pulseOf_any v xs _ r1.out (by omega)).mono ?_
    rintro e w2 ⟨va, rfl, hn2, hb2⟩
    have r2 := HR _ hb2
    have NA := Lib.hid hn2
    clear hn2 r1
    go_wp2_with fail
    refine (burstOf_any v xs _ r2.out (by omega)).mono ?_
    rintro e w3 ⟨vb, rfl, hn3, hb3⟩
    have tb3 := below_trans hb2 hb3 hb2.size
    have r3 := HR _ tb3
    have NA3 := Lib.hid (NA.out.below hb3)
    have NB := Lib.hid hn3
    clear hn3 r2 NA
    go_wp2_with fail
    refine (cellsOf_any v xs _ r3.out (by omega)).mono ?_
    rintro e w4 ⟨vc, rfl, hn4, hb4⟩
    have tb4 := below_trans tb3 hb4 tb3.size
    have r4 := HR _ tb4
    have NA4 := Lib.hid (NA3.out.below hb4)
    have NB4 := Lib.hid (NB.out.below hb4)
    have NC := Lib.hid hn4
    clear hn4 r3 NA3 NB hb2 hb3 hb4 tb3
    go_wp2_with fail
    refine (specLineOk_any v xs _ r4.out (by omega)).mono ?_
    rintro e w5 ⟨rfl, rfl⟩
    have tb := below_trans hb1 tb4 hb1.size
    cases ho : lineOk xs with
    | false =>
      rw [lpart_no ho] at NA4 NB4 NC
      obtain ⟨a1, c1, rfl⟩ := NA4.out.row.lenv
      obtain ⟨a2, c2, rfl⟩ := NB4.out.row.lenv
      obtain ⟨a3, c3, rfl⟩ := NC.out.row.lenv
      clear NA4 NB4 NC HR r4 ho
      go_wp2
      go_ret
      exact ⟨rfl, tb⟩
    | true =>
      have hlen := lineOk_len ho
      rw [lpart_yes ho] at NA4 NB4 NC
      have l1 := part_len xs 0 8 (by omega)
      have l2 := part_len xs 8 16 (by omega)
      have l3 := part_len xs 24 (xs.length - 24) (by omega)
      have HPA := Lib.hid (parts_all (xs := xs) (by omega))
      have HL := Lib.hid (And.intro l1 (And.intro l2 l3))
      have HLN := Lib.hid hlen
      obtain ⟨g1, c1, rfl⟩ : ∃ g c, va = .slice (some ⟨g, 0, none⟩) 8 c := by
        rcases NA4.out with ⟨_, e⟩ | ⟨g, c, e, _⟩
        · rw [e] at l1; simp at l1
        · exact ⟨g, c, by rw [e, l1]⟩
      obtain ⟨g2, c2, rfl⟩ : ∃ g c, vb = .slice (some ⟨g, 0, none⟩) 16 c := by
        rcases NB4.out with ⟨_, e⟩ | ⟨g, c, e, _⟩
        · rw [e] at l2; simp at l2
        · exact ⟨g, c, by rw [e, l2]⟩
      obtain ⟨g3, c3, rfl⟩ : ∃ g c, vc = .slice (some ⟨g, 0, none⟩) (xs.length - 24) c := by
        rcases NC.out with ⟨_, e⟩ | ⟨g, c, e, _⟩
        · rw [e] at l3; simp at l3; omega
        · exact ⟨g, c, by rw [e, l3]⟩
      have hbo := (Below.refl w4.heap.size w4).alloc (Nat.le_refl _) (.cells #[] 52)
      have HOW := Lib.hid (OwnF.made0 w4)
      have FA := Lib.hid (NA4.out.below hbo).row.cells
      clear l1 l2 l3 hlen ho NA4
      go_wp2_with (first
        | (at_builtin
           refine ownF_append rfl (.tmp 30) (.tmp 31) rfl w4.heap.size _ [] (part xs 0 8) rfl HOW.out g1 0 c1 (by rw [HL.out.1]; rfl) FA.out (by have := HL.out.1; omega) (by have := HL.out.1; simp; omega) (by simp) ?_
           intro g6 c6 w6 ho6 hg6 hor6 hlt6
           rw [HL.out.1] at ho6 ⊢
           simp only [List.length_nil, Nat.zero_add, List.nil_append] at ho6 ⊢
           have tb6 : Below w4.heap.size w4 w6 := hbo.grown hg6 hbo.size (fun r hr => (HOW.out.lt r hr).1)
           have FB6 := Lib.hid (NB4.out.below tb6).row.cells
           have HO6 := Lib.hid ho6
           clear FA HOW hbo ho6 hg6 hor6 NB4)
        | (at_builtin
           refine ownF_append rfl (.tmp 32) (.tmp 33) rfl w4.heap.size _ (part xs 0 8) (part xs 8 16) rfl HO6.out g2 0 c2 (by rw [HL.out.2.1]; rfl) FB6.out (by have := HL.out.2.1; omega) (by have := HL.out.1; have := HL.out.2.1; omega) tb6.size ?_
           intro g7 c7 w7 ho7 hg7 hor7 hlt7
           rw [HL.out.1, HL.out.2.1] at ho7 ⊢
           have tb7 : Below w4.heap.size w4 w7 := tb6.grown hg7 tb6.size (fun r hr => (HO6.out.lt r hr).1)
           have FC7 := Lib.hid (NC.out.below tb7).row.cells
           have HO7 := Lib.hid ho7
           clear FB6 HO6 ho7 hg7 hor7 NC tb6)
        | (at_builtin
           refine ownF_append rfl (.tmp 34) (.tmp 35) rfl w4.heap.size _ (part xs 0 8 ++ part xs 8 16) (part xs 24 (xs.length - 24)) rfl HO7.out g3 0 c3 (by rw [HL.out.2.2]; rfl) FC7.out (by have := HL.out.2.2; have := HLN.out; omega) (by have := HL.out; simp only [List.length_append]; omega) tb7.size ?_
           intro g8 c8 w8 ho8 hg8 hor8 hlt8
           have tb8 : Below w4.heap.size w4 w8 := tb7.grown hg8 tb7.size (fun r hr => (HO7.out.lt r hr).1)
           have hl8 : (part xs 0 8 ++ part xs 8 16).length + (part xs 24 (xs.length - 24)).length = xs.length := by have := HL.out; have := HLN.out; simp only [List.length_append]; omega
           rw [HPA.out] at ho8
           rw [hl8] at ho8 ⊢
           have HF8 := Lib.hid ho8.new.row
           have r8 := HR _ (below_trans tb4 tb8 tb4.size)
           have tbz := below_trans tb tb8 tb.size
           clear FC7 HO7 ho8 hg8 hor8 hl8 HR r4)
        | (go_at_call 19
           refine (sameSamples_sm _ _ xs xs _ HF8.out r8.out (SmL.refl _) (by omega)).mono ?_
           rintro e w9 ⟨rfl, n9, rfl⟩
           have h4 : 4 ≤ xs.length - 24 := by have := HLN.out; omega
           have tb9 : Below w.heap.size w (w8.drewN n9) := belowDN tbz n9))
      go_ret
      exact ⟨by
        show Ending.returned (.bool (decide ((4 : Int) ≤ ((xs.length - 24 : Nat) : Int)))) = _
        rw [decide_eq_true (by omega)], tb9⟩
end Go.Proofs.Ytjccnmnhgahlfaa
