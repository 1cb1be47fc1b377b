/-
  What is proved: the walk of the model's MeanRow, as far as its second result goes.
  Conditions: both rows can be read.
-/
import Derived.Test.YtlbepmiomcmcnaaMeanRow
import Derived.Test.YtlbepmiomcmcnaaDrawRow
import Derived.Test.YtlbepmiomcmcnaaSame
namespace Go.Proofs.Ytlbepmiomcmcnaa
set_option linter.unusedVariables false
open Go.RowKit
attribute [local go_sem] run_store_float run_store_complex unary_negf neg256

/-- One cell that has just been laid, appended, at a step of a region that draws its order. -/
theorem step_cell {ops : Array Oper} {o : Oper} {a : Act} {w : World} {K : Act → World → Prop} {Q : Exit → Act → World → Prop} {E : Prop} (hgd : o.guard = none) (s x : Operand)
    (ho : o.op = .call { callee := .builtin .append, args := #[s, x], argTypes := #[32, 32] })
    (base : Nat) (v : Value) (cs ds : List C3) (hs : a.eval s = v) (hown : OwnC w base v cs) (g o' c : Nat) (hx : a.eval x = .slice (some ⟨g, o', none⟩) ds.length c) (hrow : RowV w (.slice (some ⟨g, o', none⟩) ds.length c) ds)
    (hm : 0 < ds.length) (hlen : cs.length + ds.length ≤ 1000000) (hbase : base ≤ w.heap.size)
    (h : ∀ g cap w', OwnC w' base (.slice (some ⟨g, 0, none⟩) (cs.length + ds.length) cap) (cs ++ ds) → w.grownBy w' v.ownBlock → (v.ownBlock = some g ∨ g = w.heap.size) → g < w'.heap.size → K (a.put o.dst (.slice (some ⟨g, 0, none⟩) (cs.length + ds.length) cap)) w') :
    if Region.wanted o (yielded ops a.tmps) = true then Oper.wp Try.prog o a w K Q else E := by
  obtain ⟨i0, hi, hz0, hz1, hz2⟩ := info_parts info_cell
  refine step_append_lies w hgd s x 32 ho base 45 i0 _ 2 12 Try.underlying32 hi hz0 hz1 hz2 rfl (by decide) v cs.length _ hs hown ⟨g, o', none⟩ ds.length c (cellsOf ds) hx (cellsOf_len ds) (fun j u hu => hrow.cells j u hu) (cellsOf_one ds) hm (by unfold maxLen; omega) (by omega) hbase w.heap.size rfl ?_
  intro g cap w' h2 h3 h4 h5
  refine h g cap w' ?_ h3 h4 h5
  unfold OwnC
  rw [List.length_append, cellsOf_append]
  exact h2

def SMPost (a b : List C3) (w : World) (e : Ending) (w' : World) : Prop := ∃ v', e = .returned (.tuple #[v', .bool (meanOk a b)]) ∧ Below w.heap.size w w'
theorem SMPost.mk {a b : List C3} {w w' : World} {v' : Value} {t : Bool} (h : meanOk a b = t) (hb : Below w.heap.size w w') : SMPost a b w (.returned (.tuple #[v', .bool t])) w' := ⟨v', by rw [h], hb⟩
theorem SMPost.no {a b : List C3} {w w' : World} {v' : Value} (h : meanOk a b = false) (hb : Below w.heap.size w w') : SMPost a b w (.returned (.tuple #[v', .bool false])) w' := .mk h hb

set_option maxHeartbeats 1000000 in
theorem specMean_no (v v' : Value) (a b : List C3) (w : World) (h : RowV w v a) (h' : RowV w v' b) (hl : a.length ≤ 1000000) (hl' : b.length ≤ 1000000) (hno : meanOk a b = false) :
    Calls Try.prog 15 #[v, v'] w fun e w' => SMPost a b w e w' := by
  have HN := Lib.hid hno
  have HR := fun W hW => Lib.hid (specRowOk_any v a W hW hl)
  have HR2 := fun W hW => Lib.hid (specRowOk_any v' b W hW hl')
  have HV := Lib.hid h
  have HV' := Lib.hid h'
  obtain ⟨ad, cap, rfl⟩ := h.lenv
  obtain ⟨ad', cap', rfl⟩ := h'.lenv
  have hbA := (Below.refl w.heap.size w).alloc (Nat.le_refl _) (.cells #[] 45)
  unfold meanOk at hno
  cases hra : rok a with
  | false =>
    rw [hra] at HR
    clear hra hno h h'
    go_enter Try.func15, Try.ntmps15
    go_wp2_with fail
    refine (HR _ (HV.out.below hbA)).out.mono ?_
    rintro e w1 ⟨rfl, hb⟩
    go_wp2
    go_ret2
    exact SMPost.no HN.out (below_trans hbA hb hbA.size)
  | true =>
    rw [hra] at HR hno
    cases hrb : rok b with
    | false =>
      rw [hrb] at HR2
      clear hra hrb hno h h'
      go_enter Try.func15, Try.ntmps15
      go_wp2_with fail
      refine (HR _ (HV.out.below hbA)).out.mono ?_
      rintro e w1 ⟨rfl, hb⟩
      have hb1 := below_trans hbA hb hbA.size
      go_wp2_with fail
      refine (HR2 w1 (HV'.out.below hb1)).out.mono ?_
      rintro e w2 ⟨rfl, hb2⟩
      go_wp2
      go_ret2
      exact SMPost.no HN.out (below_trans hb1 hb2 hb1.size)
    | true =>
      rw [hrb] at HR2 hno
      have hne : a.length ≠ b.length := by simpa using hno
      have hbn : ((a.length : Int) != (b.length : Int)) = true := by simp; omega
      clear hra hrb hno h h' hne
      go_enter Try.func15, Try.ntmps15
      go_wp2_with fail
      refine (HR _ (HV.out.below hbA)).out.mono ?_
      rintro e w1 ⟨rfl, hb⟩
      have hb1 := below_trans hbA hb hbA.size
      go_wp2_with fail
      refine (HR2 w1 (HV'.out.below hb1)).out.mono ?_
      rintro e w2 ⟨rfl, hb2⟩
      go_wp2
      go_ret2
      exact SMPost.no HN.out (below_trans hb1 hb2 hb1.size)

theorem OwnC.drew {w : World} {base : Nat} {v : Value} {cs : List C3} (h : OwnC w base v cs) : OwnC w.drew base v cs := h
theorem RowV.drew {w : World} {v : Value} {cs : List C3} (h : RowV w v cs) : RowV w.drew v cs := h
/-- What stands at the head of a round. -/
structure SRnd (w wr : World) (v : Value) (cs : List C3) : Prop where
  own : OwnC wr w.heap.size v cs
  below : Below w.heap.size w wr
theorem SRnd.grown {w wr w' : World} {v : Value} {cs : List C3} (h : SRnd w wr v cs) (hg : wr.grownBy w' none) : SRnd w w' v cs :=
  ⟨h.own.kept hg (by cases v.ownBlock <;> simp), h.below.grown hg h.below.size (fun k e => by cases e)⟩
set_option maxHeartbeats 4000000 in
theorem specMean_yes (v v' : Value) (a b : List C3) (w : World) (h : RowV w v a) (h' : RowV w v' b) (hl : a.length ≤ 1000000) (hl' : b.length ≤ 1000000) (hyes : meanOk a b = true) :
    Calls Try.prog 15 #[v, v'] w fun e w' => SMPost a b w e w' := by
  have HN := Lib.hid hyes
  have HR := fun W hW => Lib.hid (specRowOk_any v a W hW hl)
  have HR2 := fun W hW => Lib.hid (specRowOk_any v' b W hW hl')
  have HV := Lib.hid h
  have HV' := Lib.hid h'
  unfold meanOk at hyes
  rw [Bool.and_eq_true, Bool.and_eq_true, decide_eq_true_iff] at hyes
  obtain ⟨hra, hrb, hlen⟩ := hyes
  rw [hra] at HR
  rw [hrb] at HR2
  have ha64 := (rok_iff.1 hra).1.2
  obtain ⟨g, o, cap, rfl, hcap, hcell⟩ := h.len (rok_ne hra)
  obtain ⟨g', o', cap', rfl, hcap', hcell'⟩ := h'.len (rok_ne hrb)
  have HC := Lib.hid hcell
  have HC' := Lib.hid hcell'
  have HX := fun k (hk : k < a.length) (hk' : k < b.length) => Lib.hid (And.intro (fin_at hra hk) (fin_at hrb hk'))
  have hbn : ((a.length : Int) != (b.length : Int)) = false := by rw [hlen]; simp
  have hbA := (Below.refl w.heap.size w).alloc (Nat.le_refl _) (.cells #[] 45)
  have HO := Lib.hid (OwnC.made0 w)
  have HLEN := Lib.hid hlen
  clear hra hrb h h' hcell hcell' hlen
  go_enter Try.func15, Try.ntmps15
  go_wp2_with fail
  refine (HR _ (HV.out.below hbA)).out.mono ?_
  rintro e w1 ⟨rfl, hb⟩
  have hb1 := below_trans hbA hb hbA.size
  go_wp2_with fail
  refine (HR2 w1 (HV'.out.below hb1)).out.mono ?_
  rintro e w2 ⟨rfl, hb2⟩
  have HS := Lib.hid (show SRnd w w2 (.slice (some ⟨w.heap.size, 0, none⟩) 0 0) [] from (SRnd.mk HO.out hbA).grown (World.grownBy.trans (grown_of hb) (grown_of hb2)))
  clear hb hb1 hb2 hbA HO HR HR2
  go_wp2
  go_loopw [6, 7] (fun out i wr => ∃ (k gg cc : Nat) (cs : List C3), k ≤ a.length ∧ cs.length = k ∧ i = .int .i64 (k : Int) ∧ out = .slice (some ⟨gg, 0, none⟩) cs.length cc ∧ SRnd w wr (.slice (some ⟨gg, 0, none⟩) cs.length cc) cs) (fun _ i _ => a.length - (intOf i).toNat)
  case atStart => exact ⟨0, _, 0, [], Nat.zero_le _, rfl, rfl, rfl, HS.out⟩
  case round =>
    obtain ⟨k, gg, cc, cs, hk, hck, rfl, rfl, hm⟩ := hrel
    have HM := Lib.hid hm
    have HCK := Lib.hid hck
    have hcs : cs.length ≤ 64 := by omega
    clear hm HS hck
    by_cases hlt : k < a.length
    · have hltb : k < b.length := by have := HLEN.out; omega
      obtain ⟨hc0, hc1⟩ := HC.out k hlt
      obtain ⟨hc0', hc1'⟩ := HC'.out k hltb
      obtain ⟨hfa, hfb⟩ := (HX k hlt hltb).out
      have HY := fun W => Lib.hid (l02Half_any a[k].1 b[k].1 W hfa.1 hfb.1)
      have HU := fun W => Lib.hid (l02Half_any a[k].2.1 b[k].2.1 W hfa.2.1 hfb.2.1)
      have HZ := fun W => Lib.hid (l02Half_any a[k].2.2 b[k].2.2 W hfa.2.2 hfb.2.2)
      clear hfa hfb
      generalize a[k] = c at *
      generalize b[k] = d at *
      obtain ⟨y, u, z⟩ := c
      obtain ⟨y', u', z'⟩ := d
      simp only at hc0 hc1 hc0' hc1' HY HU HZ
      generalize Flt.half y y' = hy at *
      generalize Flt.half u u' = hu at *
      generalize Flt.half z z' = hz at *
      have HL := Lib.hid (fun W (hW : Below w.heap.size w W) => And.intro ((grown_of hW).cell hc0 (by simp)) (And.intro ((grown_of hW).cell hc1 (by simp)) (And.intro ((grown_of hW).cell hc0' (by simp)) ((grown_of hW).cell hc1' (by simp)))))
      obtain ⟨m0, m1, m2, m3⟩ := HL.out _ HM.out.below
      clear hc0 hc1 hc0' hc1'
      go_wp2
      go_quiet (first | (go_at_call 38; first | exact qt_add (HU _).out | exact qt_add (HZ _).out | exact qt_one (HU _).out | exact qt_one (HZ _).out))
      rename_i nq
      have hm7 := HM.out.grown (grownN (World.grownBy.refl wr none) nq)
      generalize wr.drewN nq = w7 at *
      clear m0 m1 m2 m3 HM HU HZ
      obtain ⟨m0, m1, m2, m3⟩ := HL.out _ hm7.below
      have hbase := hm7.below.size
      have HM7 := Lib.hid hm7
      clear hm7
      go_wp2
      go_region_held3 (fun W => W.cell? ⟨g, o + k * 2, none⟩ = some (.float .f32 y) ∧ W.cell? ⟨g', o' + k * 2, none⟩ = some (.float .f32 y')) (go_keep)
        (first | (go_at_call 38; refine (HY _).out.mono ?_; rintro e w4 ⟨rfl, rfl⟩) | (refine step_cell (by rfl) _ _ (by rfl) w.heap.size _ cs [(hy, hu, hz)] (by rfl) (HM7.out.own.alloc _).drew w7.heap.size 0 1 (by rfl) (row_lit w7 hy hu hz).drew (by simp) (by simp; omega) (by simp; omega) ?_; intro g2 cap2 w8 ho8 hg8 hor8 hlt8; have hb8 := (HM7.out.below.alloc hbase (.cells #[.float .f32 hy, .complex .f32 hu hz] 45)).drew.grown hg8 (by simp; omega) (fun r hr => (HM7.out.own.lt r hr).1); obtain ⟨k0, k1, k2, k3⟩ := HL.out _ hb8))
      all_goals
        have HF := Lib.hid (show SRnd w w8 _ _ from ⟨ho8, hb8⟩)
        clear ho8 hg8 hor8 hlt8 hb8 k0 k1 k2 k3 m0 m1 m2 m3 HL
        go_wp2
        go_roundw
        case rel => exact ⟨k + 1, g2, cap2, cs ++ [(hy, hu, hz)], by omega, by have := HCK.out; simp; omega, by go_num, by simp, by simpa using HF.out⟩
        case measure => simp [intOf]; omega
    · go_wp2
      go_ret2
      exact SMPost.mk HN.out HM.out.below
theorem specMean_any (v v' : Value) (a b : List C3) (w : World) (h : RowV w v a) (h' : RowV w v' b) (hl : a.length ≤ 1000000) (hl' : b.length ≤ 1000000) :
    Calls Try.prog 15 #[v, v'] w fun e w' => SMPost a b w e w' := by
  cases hm : meanOk a b with
  | false => exact specMean_no v v' a b w h h' hl hl' hm
  | true => exact specMean_yes v v' a b w h h' hl hl' hm
end Go.Proofs.Ytlbepmiomcmcnaa
