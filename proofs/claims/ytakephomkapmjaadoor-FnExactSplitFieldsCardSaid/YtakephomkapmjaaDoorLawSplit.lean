/-
  What is proved: the walk of the law FnExactSplitFields.
  Conditions: the library's table of spaces holds what its initialiser lays.
-/
import Derived.Test.YtakephomkapmjaaDoorTabS
namespace Go.Proofs.YtakephomkapmjaaDoor
set_option linter.unusedVariables false
open Go.RowKit

set_option maxHeartbeats 1000000 in
theorem walk_FnExactSplitFields (s : ByteArray) (w : World) (ws : s.size ≤ maxLen) (ht : TabS w) :
    Calls Tryd.prog 9 #[.string s] w fun e w' => e = .returned (.bool true) ∧ Below w.heap.size w w' := by
  unfold maxLen at ws
  by_cases hs : 1048576 < s.size
  · go_enter Tryd.func9, Tryd.ntmps9
    go_wp2
    go_ret
    exact ⟨rfl, Below.refl _ _⟩
  · have hlen := spl_len s.data.toList
    have hA := Lib.hid (specSplitFields_any s w (by omega))
    have hB := Lib.hid (fun W hW => splitFields_any s W (by omega) hW)
    generalize hl : spl s.data.toList = ls at hlen
    have HL := Lib.hid hl
    generalize hb : splB s.data.toList = ok
    have HOK := Lib.hid hb
    have HT := Lib.hid ht
    clear hl hb ht
    go_enter Tryd.func9, Tryd.ntmps9
    go_wp2_with fail
    refine hA.out.mono ?_
    rintro e w1 ⟨v0, rfl, ho0, hb1⟩
    rw [HOK.out]
    rw [HL.out] at ho0
    have H0 := Lib.hid ho0
    have HB1 := Lib.hid hb1
    clear ho0 hb1 hA
    go_wp2_with fail
    refine (hB.out w1 (HT.out.below HB1.out)).mono ?_
    rintro e w2 ⟨v1, rfl, ho1, hb2⟩
    rw [HOK.out]
    rw [HL.out] at ho1
    have H1 := Lib.hid ho1
    have HB2 := Lib.hid hb2
    clear ho1 hb2
    go_wp2_with fail
    refine (eqStringS_any v1 v0 ls _ _ _ H1.out (H0.out.below HB2.out) (by omega)).mono ?_
    rintro e w3 ⟨rfl, hb3⟩
    have HB3 := Lib.hid hb3
    clear hb3
    go_wp2_with fail
    refine (markStringS_any 1 _ v1 ls _ (H1.out.below HB3.out) (by decide) (by decide) (by omega)).mono ?_
    rintro e w4 ⟨rfl, ho4, hg4⟩
    have H4 := Lib.hid ho4
    have HG4 := Lib.hid hg4
    clear ho4 hg4
    go_wp2_with fail
    refine (heldStringS_any 1 ls.length _ v1 _ H4.out (by decide) (by decide) (by omega)).mono ?_
    rintro e w5 ⟨rfl, hb5⟩
    have HB5 := Lib.hid hb5
    clear hb5
    have hv1 := H1.out.lt
    have HV1 := Lib.hid hv1
    clear hv1
    have hbel : Below w.heap.size w w4 := by
      have h12 := HB1.out.trans (HB2.out.mono HB1.out.size)
      have h13 := h12.trans (HB3.out.mono h12.size)
      exact h13.grown HG4.out h13.size (fun r hr => by have := (HV1.out r hr).1; have := HB1.out.size; omega)
    have HBL := Lib.hid (hbel.trans (HB5.out.mono hbel.size))
    have h0' : OwnS w5 w.heap.size v0 ls := by
      have a2 := H0.out.below HB2.out
      have a3 := a2.below HB3.out
      have a4 := a3.kept HG4.out (by
        cases hv : v0.ownBlock with
        | none => exact .inl rfl
        | some r0 =>
          refine .inr (fun e => ?_)
          have h1 := (H0.out.lt r0 hv).2
          have h2 := (HV1.out r0 e.symm).1
          omega)
      exact a4.below HB5.out
    have H0' := Lib.hid h0'
    clear h0' hbel
    go_wp2_with fail
    refine (hB.out w5 (HT.out.below HBL.out)).mono ?_
    rintro e w6 ⟨v2, rfl, ho6, hb6⟩
    rw [HOK.out]
    rw [HL.out] at ho6
    have H6 := Lib.hid ho6
    have HB6 := Lib.hid hb6
    clear ho6 hb6
    go_wp2_with fail
    refine (eqStringS_any v2 v0 ls _ _ _ H6.out (H0'.out.below HB6.out) (by omega)).mono ?_
    rintro e w7 ⟨rfl, hb7⟩
    have HB7 := Lib.hid hb7
    clear hb7
    go_wp2_with fail
    refine (heldStringS_any 1 ls.length _ v1 _ (((H4.out.below HB5.out).below HB6.out).below HB7.out) (by decide) (by decide) (by omega)).mono ?_
    rintro e w8 ⟨rfl, hb8⟩
    have HB8 := Lib.hid hb8
    clear hb8
    go_wp2
    go_ret
    have c1 := HBL.out
    have c2 := c1.trans (HB6.out.mono c1.size)
    have c3 := c2.trans (HB7.out.mono c2.size)
    exact ⟨rfl, c3.trans (HB8.out.mono c3.size)⟩
end Go.Proofs.YtakephomkapmjaaDoor
