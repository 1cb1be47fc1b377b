/-
  What is proved: the walk of the law FnPlainChannel.
  Conditions: none beyond the argument's own.
-/
import Derived.Test.YtnedmhhodmmddaaTransmit
import Derived.Test.YtnedmhhodmmddaaEquals
import Derived.Test.YtnedmhhodmmddaaUndo
namespace Go.Proofs.Ytnedmhhodmmddaa
set_option linter.unusedVariables false
open Go.RowKit
open Flt (Mag sumv subv mulv quov Q)
attribute [local go_sem] run_store_float run_store_complex unary_negf neg256

theorem one_ok : ChOk ⟨1065353216, 0, 1065353216, 0⟩ :=
  ⟨show Ieee.single.order 0 1065353216 = some .lt by decide +kernel, show leb 1065353216 1098907648 = true by decide +kernel, show leb 3263168512 0 = true by decide +kernel, show leb 0 1115684864 = true by decide +kernel, show leb 3246391296 1065353216 = true by decide +kernel, show leb 1065353216 1098907648 = true by decide +kernel, show leb 3246391296 0 = true by decide +kernel, show leb 0 1098907648 = true by decide +kernel⟩
theorem mag_one : Mag 154 1065353216 := ⟨false, 8388608, -23, by decide +kernel, .inr (by decide +kernel)⟩
theorem mag_nul (k : Nat) : Mag k 0 := ⟨false, 0, _, Flt.read_zero, .inl rfl⟩
theorem one_mag : MagH ⟨1065353216, 0, 1065353216, 0⟩ := ⟨mag_one, mag_nul _, mag_one, mag_nul _⟩
theorem plain_fin1 {cs : List C3} (hp : PlainR cs) : ∀ x ∈ enc cs, fin1 x = true := by
  have h := all_enc (f := id) (cs := cs) (p := fun x => fin1 x = true) fun c hc => by
    obtain ⟨y, a, b, hpc⟩ := hp c hc
    obtain ⟨b1, b2, b3⟩ := hpc.2.2.2
    exact hpc.qc.fins (by decide) (by omega) (by omega) (by omega) (lim_ok _ 145 (by omega) (by decide)) (lim_ok _ 145 (by omega) (by decide))
  rwa [List.map_id] at h
theorem plain_ok {cs : List C3} (hp : PlainR cs) (h1 : 1 ≤ cs.length) (h2 : cs.length ≤ 6) : sampOk (enc cs) = true :=
  sampOk_mk (by rw [enc_len]; omega) (plain_fin1 hp)
set_option maxHeartbeats 4000000 in
set_option maxRecDepth 100000 in
theorem walk_FnPlainChannel (a0 : Option Addr) (len0 cap0 : Nat) (z0 : List Int) (w : World) (w0 : IsRow .u8 w a0 len0 cap0 z0) :
    Calls Try.prog 3 #[.slice a0 len0 cap0] w fun e w' => e = .returned (.bool true) ∧ Below w.heap.size w w' := by
  by_cases hbig : 1048576 < len0
  · have hbb : decide ((1048576 : Int) < len0) = true := by simp; omega
    have HB := Lib.hid (big_any a0 len0 cap0 w)
    rw [hbb] at HB
    clear hbb
    go_enter Try.func3, Try.ntmps3
    go_wp2_with fail
    refine HB.out.mono ?_
    rintro e w1 ⟨rfl, rfl⟩
    go_wp2
    go_ret
    exact ⟨rfl, Below.refl _ _⟩
  · have hbb : decide ((1048576 : Int) < len0) = false := by simp; omega
    have HB := Lib.hid (big_any a0 len0 cap0 w)
    rw [hbb] at HB
    have HD := Lib.hid (drawPlain_any a0 len0 cap0 w (w0.src (by omega)))
    clear hbb w0
    go_enter Try.func3, Try.ntmps3
    go_wp2_with fail
    refine HB.out.mono ?_
    rintro e w1 ⟨rfl, rfl⟩
    go_wp2_with fail
    refine HD.out.mono ?_
    rintro e w1 ⟨v, cs, ⟨hl1, hl2⟩, hp, rfl, hr, hb1⟩
    have HE := Lib.hid (encode_even v cs w1 hr hp.fit (by omega))
    rw [if_pos (hp.rok hl1 (by omega))] at HE
    have HP := Lib.hid hp
    clear hr hp HD HB
    go_wp2_with fail
    refine HE.out.mono ?_
    rintro e w2 ⟨v2, rfl, hn2, hb2⟩
    have hb12 := below_trans hb1 hb2 hb1.size
    have hso := plain_ok HP.out hl1 hl2
    obtain ⟨htf, heq⟩ := plain_through HP.out
    have hlen : (enc cs).length = 4 * cs.length := enc_len cs
    obtain ⟨xs, hxs⟩ : ∃ xs, enc cs = xs := ⟨_, rfl⟩
    rw [hxs] at hn2 hso htf heq hlen
    have htl := heq.1
    have hst : sampOk (txs ⟨1065353216, 0, 1065353216, 0⟩ xs) = true := sampOk_mk (by rw [htl]; omega) htf
    have HEQ := Lib.hid heq.2
    have HTL := Lib.hid htl
    obtain ⟨g, cap, rfl, hg1, hcap, hmade⟩ : ∃ g cap, v2 = .slice (some ⟨g, 0, none⟩) xs.length cap ∧ w1.heap.size ≤ g ∧ xs.length ≤ cap ∧ MadeF w2 g xs.length xs.length xs := by
      rcases hn2 with ⟨_, h⟩ | h
      · rw [h] at hlen; simp at hlen; omega
      · exact h
    have HRW := Lib.hid hn2.row
    have hcells := fun i (hi : i < xs.length) => hmade.get i hi hi
    have HR1 := Lib.hid (show FRow w2 (.slice (some ⟨g, 1, none⟩) (xs.length - 1) (cap - 1)) (xs.drop 1) from .inr ⟨g, 1, cap - 1, by rw [List.length_drop], by rw [List.length_drop]; omega, fun i hi => by rw [List.getElem_drop]; exact hcells (1 + i) (by simp at hi; omega)⟩)
    have hno : sampOk (xs.drop 1) = false := sampOk_no (sampLen_no (by rw [List.length_drop]; omega))
    have HT1 := Lib.hid (transmit_any 1065353216 0 1065353216 0 _ xs w2 HRW.out one_ok one_mag hso hst)
    have HT2 := fun W hr => Lib.hid (transmitNo_any 1065353216 0 1065353216 0 (.slice (some ⟨g, 1, none⟩) (xs.length - 1) (cap - 1)) (xs.drop 1) W hr (by rw [List.length_drop]; omega) hno)
    obtain ⟨L, hL⟩ : ∃ L, xs.length = L := ⟨_, rfl⟩
    have hL1 : 4 ≤ L ∧ L ≤ 24 := by omega
    have HLL := Lib.hid hL
    rw [hL] at HT1 HT2 HR1 HRW hcap ⊢
    clear hn2 hmade hcells hno hso hst htf heq hlen hL htl hxs HE
    go_wp2_with fail
    refine HT1.out.mono ?_
    rintro e w3 ⟨v3, ys3, rfl, hy3, hn3, hb3⟩
    have hb13 := below_trans hb12 hb3 hb12.size
    have HR13 := Lib.hid (HR1.out.below hb3)
    have HRW3 := Lib.hid (HRW.out.below hb3)
    have HN3 := Lib.hid (And.intro hy3 hn3.row)
    clear HT1 HR1 HRW hy3 hn3 hb3 hb12
    have hn1 : ¬ cap = 1 := by omega
    have hn2 : ¬ 1 = cap := by omega
    go_wp2_with fail
    refine (HT2 _ HR13.out).out.mono ?_
    rintro e w4 ⟨v4, ys4, rfl, hy4, hn4, hb4⟩
    have hb14 := below_trans hb13 hb4 hb13.size
    subst hy4
    have hz4 : ∃ a c, v4 = .slice a 0 c := by
      rcases hn4 with ⟨rfl, _⟩ | ⟨g4, c4, rfl, _⟩
      · exact ⟨_, _, rfl⟩
      · exact ⟨_, _, rfl⟩
    obtain ⟨a4, c4, rfl⟩ := hz4
    have HR34 := Lib.hid (HRW3.out.below hb4)
    have HY34 := Lib.hid (HN3.out.2.below hb4)
    have hy3 := HN3.out.1
    subst hy3
    have htl : (txs ⟨1065353216, 0, 1065353216, 0⟩ xs).length = L := by rw [HTL.out, HLL.out]
    have HQ := Lib.hid (equals_any v3 (.slice (some ⟨g, 0, none⟩) L cap) _ xs w4 HY34.out HR34.out HTL.out HEQ.out (by omega))
    clear HT2 HR13 HRW3 HN3 hn4 hb4 hb13 htl
    go_wp2_with fail
    refine HQ.out.mono ?_
    rintro e w5 ⟨rfl, q5, rfl⟩
    go_wp2
    go_ret
    exact ⟨rfl, belowDN hb14 _⟩
end Go.Proofs.Ytnedmhhodmmddaa
