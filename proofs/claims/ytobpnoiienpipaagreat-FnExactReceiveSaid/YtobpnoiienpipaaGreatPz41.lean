/-
  What is proved: the walk of the model's Weave over two fields of equal length, none of whose rows is empty.
  Conditions: the fields can be read.
-/
import Derived.Test.YtobpnoiienpipaaGreatPz39
import Derived.Test.YtobpnoiienpipaaGreatPz38
import Derived.Test.YtobpnoiienpipaaGreatPz40
import Derived.Test.YtobpnoiienpipaaGreatPz37
import Derived.Deep.RegionHeld3
import Derived.Test.YtobpnoiienpipaaGreatPz29
namespace Go.Proofs.YtobpnoiienpipaaGreat
set_option linter.unusedVariables false
open Go.RowKit
attribute [local go_sem] run_store_float run_store_complex unary_negf neg256

theorem take_two {α : Type} {l : List α} {k : Nat} (h : 2 * k + 1 < l.length) : l.take (2 * (k + 1)) = l.take (2 * k) ++ [l[2 * k]'(by omega), l[2 * k + 1]] := by
  rw [show 2 * (k + 1) = 2 * k + 1 + 1 by omega, List.take_succ_eq_append_getElem h, List.take_succ_eq_append_getElem (show 2 * k < l.length by omega), List.append_assoc]
  rfl
/-- Two rows, each new, as a list of rows. -/
theorem gridN_two {w1 w2 : World} {base : Nat} {s t : SV} {a b : List C3} (ha : RNew w1 base s.v a) (hs1 : base ≤ w1.heap.size) (hb : RNew w2 w1.heap.size t.v b) (h12 : Below w1.heap.size w1 w2) :
    GridN (w2.alloc (.cells #[s.v, t.v] 40)) base (.slice (some ⟨w2.heap.size, 0, none⟩) 2 2) [a, b] [s, t] := by
  have hsz := h12.size
  have ho : LSc.Own (w2.alloc (.cells #[s.v, t.v] 40)) base (.slice (some ⟨w2.heap.size, 0, none⟩) 2 2) [s, t] :=
    ⟨rfl, .inr ⟨w2.heap.size, 2, #[s.v, t.v], rfl, by omega, heap_alloc_new w2 _, Nat.le_refl _, by unfold maxLen; omega, rfl, rfl⟩⟩
  have ha2 := (ha.below h12).far (World.grownBy_alloc w2 (.cells #[s.v, t.v] 40) Option.none) (by simp)
  have hb2 := hb.far (World.grownBy_alloc w2 (.cells #[s.v, t.v] 40) Option.none) (by simp)
  have la := fun k e => ha.lt k e
  have lb := fun k e => hb.lt k e
  refine ⟨ho, rfl, fun i h1 h2 => ?_, fun i j h1 h2 hij k hk => ?_, fun i h1 k hk => ?_⟩
  · have h1 : i < 2 := h1
    rcases (by omega : i = 0 ∨ i = 1) with rfl | rfl
    · exact ha2
    · exact hb2.mono hs1
  · have h1 : i < 2 := h1
    have h2 : j < 2 := h2
    rcases (by omega : (i = 0 ∧ j = 1) ∨ (i = 1 ∧ j = 0)) with ⟨rfl, rfl⟩ | ⟨rfl, rfl⟩
    · intro e
      have := la k hk
      have := lb k e
      omega
    · intro e
      have := la k e
      have := lb k hk
      omega
  · have h1 : i < 2 := h1
    intro e
    have e2 : w2.heap.size = k := Option.some.inj e
    rcases (by omega : i = 0 ∨ i = 1) with rfl | rfl
    · have := la k hk; omega
    · have := lb k hk; omega
theorem WeaveN.none2 {rs : List (List C3)} {w w' : World} {v : Value} (hp : pok rs = false) (h : GridN w' w.heap.size v [] []) (hb : Below w.heap.size w w') : WeaveN rs w (.returned (.tuple #[v, .bool false])) w' :=
  ⟨v, [], by rw [hp], by rw [if_neg (by rw [hp]; decide)]; exact h, hb⟩
theorem WeaveN.all2 {rs : List (List C3)} {w w' : World} {v : Value} {ss : List SV} (hp : pok rs = true) (h : GridN w' w.heap.size v rs ss) (hb : Below w.heap.size w w') : WeaveN rs w (.returned (.tuple #[v, .bool true])) w' :=
  ⟨v, ss, by rw [hp], by rw [if_pos hp]; exact h, hb⟩
theorem GridN.picL {w : World} {base : Nat} {v : Value} {rs : List (List C3)} {ss : List SV} (h : GridN w base v rs ss) : PicV w v rs := by
  have hl := h.len
  have hrv := h.rows
  rcases h.own.shape with ⟨rfl, e⟩ | ⟨g, cap, rfl, _, _, hc, _⟩
  · subst e
    exact .inl ⟨rfl, List.eq_nil_of_length_eq_zero hl.symm⟩
  · rw [hl] at hrv hc ⊢
    refine .inr ⟨g, 0, cap, rfl, hc, fun i hi => ?_⟩
    obtain ⟨a, c, k1, k2⟩ := hrv.cells hi
    rw [getD_in hi] at k1 k2
    rw [Nat.zero_add]
    exact ⟨_, k1, k2⟩
set_option maxRecDepth 100000 in
set_option maxHeartbeats 4000000 in
theorem specWeave_any (g o cap g' o' cap' n : Nat) (hn : n ≤ 64) (rs : List (List C3)) (hrs : rs.length = 2 * n) (hne : ∀ r ∈ rs, r ≠ [] ∧ r.length ≤ 64) (w : World)
    (hcell : ∀ k, k < n → ∀ (hq : 2 * k < rs.length), ∃ a c, w.cell? ⟨g, o + k, none⟩ = some (.slice a rs[2 * k].length c) ∧ RowV w (.slice a rs[2 * k].length c) rs[2 * k])
    (hcell' : ∀ k, k < n → ∀ (hq : 2 * k + 1 < rs.length), ∃ a c, w.cell? ⟨g', o' + k, none⟩ = some (.slice a rs[2 * k + 1].length c) ∧ RowV w (.slice a rs[2 * k + 1].length c) rs[2 * k + 1]) :
    Calls Tryz.prog 44 #[.slice (some ⟨g, o, none⟩) n cap, .slice (some ⟨g', o', none⟩) n cap'] w fun e w' => WeaveN rs w e w' := by
  have HC := Lib.hid hcell
  have HC' := Lib.hid hcell'
  have HRS := Lib.hid hrs
  have HNE := Lib.hid hne
  have HG0 := Lib.hid (GridC.nil w).new
  have HB0 := Lib.hid ((Below.refl w.heap.size w).alloc (Nat.le_refl _) (.cells #[] 40))
  clear hcell hcell' hrs hne
  go_enter Tryz.func44, Tryz.ntmps44
  go_wp2
  go_loopw [6, 7] (fun m i wr => ∃ (k : Nat) (so : List SV), k ≤ n ∧ i = .int .i64 (k : Int) ∧ GridN wr w.heap.size m (rs.take (2 * k)) so ∧ Below w.heap.size w wr) (fun _ i _ => n - (intOf i).toNat)
  case atStart => exact ⟨0, [], Nat.zero_le _, rfl, HG0.out, HB0.out⟩
  case round =>
    obtain ⟨k, so, hk, rfl, hgr, hb⟩ := hrel
    have HGR := Lib.hid hgr
    have HB := Lib.hid hb
    have hsol : so.length ≤ 2 * k := by have := hgr.len; rw [List.length_take] at this; omega
    clear HG0 HB0 hgr
    by_cases hlt : k < n
    · have hq1 : 2 * k + 1 < rs.length := by have := HRS.out; omega
      obtain ⟨a1, c1, q1, r1⟩ := HC.out k hlt (by omega)
      obtain ⟨a2, c2, q2, r2⟩ := HC'.out k hlt hq1
      have HLG := Lib.hid (show g < w.heap.size ∧ g' < w.heap.size from ⟨World.block_lt_of_cell? _ _ q1, World.block_lt_of_cell? _ _ q2⟩)
      have m1 := (grown_of hb).cell q1 (by simp)
      have m2 := (grown_of hb).cell q2 (by simp)
      have HS1 := fun W (hW : Below w.heap.size w W) => Lib.hid (l02Row_any (.slice a1 (rs[2 * k]'(by omega)).length c1) (rs[2 * k]'(by omega)) W (r1.below hW) (HNE.out _ (List.getElem_mem _)).1 (Nat.le_trans (HNE.out _ (List.getElem_mem _)).2 (by decide)))
      have HS2 := fun W (hW : Below w.heap.size w W) => Lib.hid (l02Row_any (.slice a2 rs[2 * k + 1].length c2) rs[2 * k + 1] W (r2.below hW) (HNE.out _ (List.getElem_mem _)).1 (Nat.le_trans (HNE.out _ (List.getElem_mem _)).2 (by decide)))
      have HTW := Lib.hid (take_two hq1)
      have hne1 := (HNE.out _ (List.getElem_mem (show 2 * k < rs.length by omega))).2
      have hne2 := (HNE.out _ (List.getElem_mem hq1)).2
      clear q1 q2 r1 r2 hb
      generalize (rs[2 * k]'(by omega)) = ra at *
      generalize rs[2 * k + 1] = rb at *
      obtain ⟨x1, hx1⟩ : ∃ x1, Value.slice a1 ra.length c1 = x1 := ⟨_, rfl⟩
      obtain ⟨x2, hx2⟩ : ∃ x2, Value.slice a2 rb.length c2 = x2 := ⟨_, rfl⟩
      rw [hx1] at m1 HS1
      rw [hx2] at m2 HS2
      clear hx1 hx2
      have hw1 : wr.drew.cell? ⟨g, o + k, none⟩ = some x1 := m1
      have hw2 : wr.drew.cell? ⟨g', o' + k, none⟩ = some x2 := m2
      have KK := And.intro hw1 hw2
      have HB1 := Lib.hid (show Below w.heap.size w wr.drew from HB.out.drew)
      have hsz := HB.out.size
      obtain ⟨i0, z0, hi, hz0, hz1, hz2, hz3⟩ := LSc_ok.info
      go_wp2
      go_region_held3 (fun V => V.cell? ⟨g, o + k, none⟩ = some x1 ∧ V.cell? ⟨g', o' + k, none⟩ = some x2) (first | with_reducible exact KK4 | with_reducible exact KK3 | with_reducible exact KK2 | with_reducible exact KK | go_keep) (first
        | ((try go_simp); go_at_call 79; refine (HS1 wr.drew HB1.out).out.mono ?_; rintro e w1 ⟨g1, cp1, rfl, ho1, hb1⟩
           have hb01 : Below wr.heap.size wr w1 := ((Below.refl _ _).drew).trans hb1
           have KK2 := And.intro ((grown_of hb1).cell hw1 (by simp)) ((grown_of hb1).cell hw2 (by simp))
           have HBw1 := Lib.hid (below_trans HB.out hb01 hsz)
           have HO1 := Lib.hid ho1
           have HB11 := Lib.hid hb1)
        | ((try go_simp); go_at_call 79; refine (HS2 w1 HBw1.out).out.mono ?_; rintro e w2 ⟨g2, cp2, rfl, ho2, hb2⟩
           have KK3 := And.intro ((grown_of hb2).cell KK2.1 (by simp)) ((grown_of hb2).cell KK2.2 (by simp))
           have hs12 := hb2.size
           have hs11 := hb1.size
           have hszd : wr.drew.heap.size = wr.heap.size := rfl
           have HG2 := Lib.hid (gridN_two (s := (some ⟨g1, 0, Option.none⟩, ra.length, cp1)) (t := (some ⟨g2, 0, Option.none⟩, rb.length, cp2)) HO1.out.rnew hs11 ho2.rnew hb2)
           have HB02 := Lib.hid ((hb01.trans (hb2.mono (by omega))).alloc (by omega) (.cells #[.slice (some ⟨g1, 0, Option.none⟩) ra.length cp1, .slice (some ⟨g2, 0, Option.none⟩) rb.length cp2] 40))
           have HOW := Lib.hid (HGR.out.own.below HB02.out)
           have HOL := Lib.hid (fun k e => HOW.out.lt k e)
           have HKP := Lib.hid (fun (w6 : World) (hg6 : (w2.alloc (.cells #[.slice (some ⟨g1, 0, Option.none⟩) ra.length cp1, .slice (some ⟨g2, 0, Option.none⟩) rb.length cp2] 40)).grownBy w6 u6.ownBlock) => And.intro
             (((hg6.cell_far ⟨g, o + k, Option.none⟩ (by have := HLG.out.1; have := HB02.out.size; show g < _; simp; omega) (fun e => by have := (HGR.out.own.lt g e.symm).1; have := HLG.out.1; omega)).trans (((Below.refl w2.heap.size w2).alloc (Nat.le_refl _) _).cell (p := ⟨g, o + k, Option.none⟩) (by have := HLG.out.1; show g < _; omega))).trans KK3.1)
             (((hg6.cell_far ⟨g', o' + k, Option.none⟩ (by have := HLG.out.2; have := HB02.out.size; show g' < _; simp; omega) (fun e => by have := (HGR.out.own.lt g' e.symm).1; have := HLG.out.2; omega)).trans (((Below.refl w2.heap.size w2).alloc (Nat.le_refl _) _).cell (p := ⟨g', o' + k, Option.none⟩) (by have := HLG.out.2; show g' < _; omega))).trans KK3.2))
           have HNW := Lib.hid (World.news_of_block (heap_alloc_new w2 (.cells #[.slice (some ⟨g1, 0, Option.none⟩) ra.length cp1, .slice (some ⟨g2, 0, Option.none⟩) rb.length cp2] 40))))
        | (refine step_append_lies _ rfl (.tmp 26) (.tmp 37) 24 rfl w.heap.size 40 i0 z0 1 24 LSc_ok.und hi hz0 hz1 hz2 hz3 (by decide) u6 so.length (LSc.cells so) rfl HOW.out ⟨w2.heap.size, 0, Option.none⟩ 2 2 [.slice (some ⟨g1, 0, Option.none⟩) ra.length cp1, .slice (some ⟨g2, 0, Option.none⟩) rb.length cp2] rfl rfl HNW.out (by simp [Value.oneCell']) (by decide) (by unfold maxLen; omega) (by omega) (by have := HB02.out.size; omega) _ rfl ?_
           intro g6 cap6 w6 ho6 hg6 hor6 hlt6
           have KK4 := And.intro (HKP.out w6 hg6).1 (HKP.out w6 hg6).2))
      have hjoin := gridN_join (g6 := g6) (n6 := so.length + 2) (cap6 := cap6) HGR.out hsz HB02.out HG2.out (by unfold Lay.Own; rw [List.length_append, Lay.cells_append]; exact ho6) hg6 hor6
      rw [← HTW.out] at hjoin
      have HJ := Lib.hid hjoin
      have HB6 := Lib.hid ((below_trans HB.out HB02.out hsz).grown hg6 (Nat.le_trans hsz HB02.out.size) (fun r hr => (HGR.out.own.lt r hr).1))
      clear hjoin ho6 hg6 hor6 hlt6 KK KK2 KK3 KK4 hw1 hw2 m1 m2
      go_wp2
      go_roundw
      case rel => exact ⟨k + 1, _, by omega, by go_num, HJ.out, HB6.out⟩
      case measure => simp [intOf]; omega
    · have hkk : k = n := by omega
      subst hkk
      have hgr := HGR.out
      rw [List.take_of_length_le (by have := HRS.out; omega)] at hgr
      have hpv := GridN.picL hgr
      have HGF := Lib.hid hgr
      obtain ⟨a6, c6, rfl⟩ := hpv.lenv
      have HP := Lib.hid (specPicture_any _ rs wr hpv (fun r hr => Nat.le_trans (HNE.out r hr).2 (by decide)) (by have := HRS.out; omega))
      clear HC HC' HGR hgr hpv
      cases hp : pok rs with
      | false =>
        rw [hp] at HP
        have HPF := Lib.hid hp
        clear hp
        go_wp2_with fail
        refine HP.out.mono ?_
        rintro e w1 ⟨rfl, hb1⟩
        have hbw := below_trans HB.out hb1 HB.out.size
        have HW0 := Lib.hid (hbw.alloc hbw.size (.cells #[] 40))
        have HGN := Lib.hid (((GridC.nil w1).new).mono (base' := w.heap.size) hbw.size)
        go_wp2
        go_ret2
        exact WeaveN.none2 HPF.out HGN.out HW0.out
      | true =>
        rw [hp] at HP
        have HPF := Lib.hid hp
        clear hp
        go_wp2_with fail
        refine HP.out.mono ?_
        rintro e w1 ⟨rfl, hb1⟩
        have HBW := Lib.hid (below_trans HB.out hb1 HB.out.size)
        have HGN := Lib.hid (HGF.out.below hb1)
        go_wp2
        go_ret2
        exact WeaveN.all2 HPF.out HGN.out HBW.out
end Go.Proofs.YtobpnoiienpipaaGreat

/-
  What is proved: what the model answers of two lines that are decoded together.
  Conditions: the lines can be read.
-/
namespace Go.Proofs.YtobpnoiienpipaaGreat
set_option linter.unusedVariables false
open Go.RowKit
attribute [local go_sem] run_store_float run_store_complex unary_negf neg256

theorem SwingR.tri {xs ys : List Nat} {n : Int} (h : SwingR xs ys n) : n = 1 ∨ n = -1 ∨ n = 0 := by
  obtain ⟨p, q, p', q', o1, o2, _, _, rfl⟩ := h
  split
  · unfold swing
    split
    · exact .inl rfl
    · split
      · exact .inr (.inl rfl)
      · exact .inr (.inr rfl)
  · exact .inr (.inr rfl)
theorem own_two (wr : World) (base : Nat) (s t : SV) (hb : base ≤ wr.heap.size) : LSc.Own (wr.alloc (.cells #[s.v, t.v] 40)) base (.slice (some ⟨wr.heap.size, 0, none⟩) 2 2) [s, t] :=
  ⟨rfl, .inr ⟨wr.heap.size, 2, #[s.v, t.v], rfl, hb, heap_alloc_new wr _, Nat.le_refl _, by unfold maxLen; decide, rfl, rfl⟩⟩
set_option maxHeartbeats 4000000 in
set_option maxRecDepth 100000 in
theorem specPair_any (v v' : Value) (xs ys : List Nat) (w : World) (h : FRow w v xs) (h' : FRow w v' ys) (hl : xs.length ≤ 4000000) (hl' : ys.length ≤ 4000000) :
    Calls Tryz.prog 73 #[v, v'] w fun e w' => PairA xs ys w e w' := by
  have H1 := Lib.hid (specAlone_any v xs false w h hl)
  have H2 := fun W hW => Lib.hid (specAlone_any v' ys false W hW hl')
  have HSW := fun W hr hr' => Lib.hid (specSwing_any v v' xs ys W hr hr' hl hl')
  have HR := Lib.hid h
  have HR' := Lib.hid h'
  obtain ⟨n, c, o, rfl⟩ := h.lenv2
  obtain ⟨n', c', o', rfl⟩ := h'.lenv2
  clear h h'
  go_enter Tryz.func73, Tryz.ntmps73
  go_wp2_with fail
  refine H1.out.mono ?_
  rintro e w0 ⟨x, ps, o1, rfl, a1, nx0, hb0⟩
  obtain ⟨xa, xn, xc, rfl⟩ := nx0.lenv2
  go_wp2_with fail
  refine (H2 w0 (HR'.out.below hb0)).out.mono ?_
  rintro e w1 ⟨y, qs, o2, rfl, a2, ny, hb01⟩
  obtain ⟨ya, yn, yc, rfl⟩ := ny.lenv2
  have hb1 := below_trans hb0 hb01 hb0.size
  have nx := nx0.below hb01
  have hap : ∀ j, (Value.slice xa xn xc).ownBlock = some j → (Value.slice ya yn yc).ownBlock ≠ some j := fun j h1 h2 => by
    have := (nx0.lt j h1).2
    have := (ny.lt j h2).1
    omega
  replace ny := ny.mono hb0.size
  have HA1 := Lib.hid a1
  have HA2 := Lib.hid a2
  obtain ⟨okk, hok⟩ : ∃ okk, (o1 && (o2 && decide (ps.length = qs.length))) = okk := ⟨_, rfl⟩
  have hxl := nx.lenx
  have hyl := ny.lenx
  clear H1 H2 nx0 hb0 hb01
  cases okk with
  | false =>
    have HOK := Lib.hid hok
    have hbn : o1 = false ∨ (o1 = true ∧ o2 = false) ∨ ((o1 = true ∧ o2 = true) ∧ ((xn : Int) != (yn : Int)) = true) := by
      cases o1
      · exact .inl rfl
      · cases o2
        · exact .inr (.inl ⟨rfl, rfl⟩)
        · refine .inr (.inr ⟨⟨rfl, rfl⟩, ?_⟩)
          have h1 : ps.length ≠ qs.length := by simpa using hok
          simp; omega
    have HE := Lib.hid (GridC.nil w1).new
    have hsz := hb1.size
    have HBB := Lib.hid (hb1.alloc hb1.size (.cells #[] 40))
    clear a1 a2 nx ny hap hok hxl hyl hb1
    rcases hbn with rfl | ⟨rfl, rfl⟩ | ⟨⟨rfl, rfl⟩, hbn⟩
    all_goals
      go_wp2
      go_ret2
      exact ⟨_, [], [], false, rfl, ⟨ps, qs, _, _, HA1.out, HA2.out, HOK.out.symm, (fun h => by cases h), fun _ => rfl⟩, HE.out.mono hsz, HBB.out⟩
  | true =>
    have hok2 := hok
    rw [Bool.and_eq_true, Bool.and_eq_true, decide_eq_true_iff] at hok2
    obtain ⟨rfl, rfl, hlen⟩ := hok2
    have r1 := aloneRR_rok a1 rfl
    have r2 := aloneRR_rok a2 rfl
    have f1 := aloneRR_fit a1
    have f2 := aloneRR_fit a2
    obtain ⟨gx, cx, ex, hcx, hbx, hgx⟩ := nx.someD (rok_ne r1)
    obtain ⟨gy, cy, ey, hcy, hby, hgy⟩ := ny.someD (rok_ne r2)
    rw [← hlen] at ey hcy
    cases ex
    cases ey
    have hl64 : ps.length ≤ 64 := (rok_iff.1 r1).1.2
    have hne : gx ≠ gy := fun e => hap gx rfl (by rw [e]; rfl)
    have hbn : ((ps.length : Int) != (ps.length : Int)) = false := by simp
    have HFIN := Lib.hid (fun k (hk : k < ps.length) (hkq : k < qs.length) => And.intro ((rok_iff.1 r1).2 _ (List.getElem_mem hk)) (And.intro ((rok_iff.1 r2).2 _ (List.getElem_mem hkq)) (And.intro (f1 _ (List.getElem_mem hk)).2.2 (f2 _ (List.getElem_mem hkq)).2.2)))
    have HLEN := Lib.hid hlen
    have HOK := Lib.hid hok
    have HNX := Lib.hid nx
    have HNY := Lib.hid ny
    clear a1 a2 nx ny hap hok hxl hyl r1 r2 f1 f2 hlen
    go_wp2_with fail
    refine (HSW w1 (HR.out.below hb1) (HR'.out.below hb1)).out.mono ?_
    rintro e w3 ⟨m, rfl, hm, hb3⟩
    have HM := Lib.hid hm
    have hb03 := below_trans hb1 hb3 hb1.size
    have HKS := Lib.hid (show PairK w m gx xc gy yc ps qs 0 w3 from ⟨hb03, by simpa using HNX.out.below hb3, by simpa using HNY.out.below hb3⟩)
    have hm3 := hm.tri
    clear hm HSW HNX HNY hb3 HR HR'
    rcases hm3 with rfl | rfl | rfl
    · go_wp2
      go_loopw [11] (fun i wr => ∃ k : Nat, k ≤ ps.length ∧ i = .int .i64 (k : Int) ∧ PairK w (1) gx xc gy yc ps qs k wr) (fun i _ => ps.length - (intOf i).toNat)
      case atStart => exact ⟨0, Nat.zero_le _, rfl, HKS.out⟩
      case round =>
        clear HKS hb03
        obtain ⟨k, hk, rfl, hp⟩ := hrel
        have HP := Lib.hid hp
        clear hp
        by_cases hlt : k < ps.length
        · have hltq : k < qs.length := by have := HLEN.out; omega
          obtain ⟨⟨x1, x2⟩, y1, y2⟩ := HP.out.rd HLEN.out hlt hltq
          have HN := HP.out.next HLEN.out hlt hltq hne
          obtain ⟨fx, fy, bx, bxy⟩ := HFIN.out k hlt hltq
          clear HFIN
          rw [show sh (1) ps[k].2 qs[k].2 = (Flt.half ps[k].2.1 qs[k].2.1, Flt.half ps[k].2.2 (Op.negFloat .f32 qs[k].2.2)) from if_pos rfl] at HN
          have HNN := Lib.hid HN
          clear HN
          generalize ps[k] = c at *
          generalize qs[k] = d at *
          have HU := fun W => Lib.hid (l02Half_any c.2.1 d.2.1 W fx.2.1 fy.2.1)
          have HV := fun W => Lib.hid (l02Half_any c.2.2 (Op.negFloat .f32 d.2.2) W fx.2.2 (Flt.fin_neg bxy fy.2.2))
          have HC := fun W => Lib.hid (conjD_any d.2.1 d.2.2 W)
          clear fx fy bx bxy
          go_wp2_with (first | (go_at_call 106; refine (HC _).out.mono ?_; rintro e w5 ⟨rfl, rfl⟩) | (go_at_call 107; refine (HU _).out.mono ?_; rintro e w5 ⟨rfl, rfl⟩) | (go_at_call 107; refine (HV _).out.mono ?_; rintro e w5 ⟨rfl, rfl⟩))
          go_roundw
          case rel => exact ⟨k + 1, by omega, by go_num, HNN.out⟩
          case measure => simp [intOf]; omega
        · have hkk : k = ps.length := by omega
          subst hkk
          have HD := Lib.hid (HP.out.done (w6 := wr.alloc (.cells #[.slice (some ⟨gx, 0, none⟩) ps.length xc, .slice (some ⟨gy, 0, none⟩) ps.length yc] 40)) (g6 := wr.heap.size) (cap6 := 2) HLEN.out hne (own_two wr w.heap.size (some ⟨gx, 0, none⟩, ps.length, xc) (some ⟨gy, 0, none⟩, ps.length, yc) HP.out.below.size) (.cells #[.slice (some ⟨gx, 0, none⟩) ps.length xc, .slice (some ⟨gy, 0, none⟩) ps.length yc] 40) (World.grownBy.refl _ _) (.inl rfl))
          clear HFIN
          go_wp2
          go_ret2
          exact ⟨_, _, _, true, rfl, ⟨ps, qs, _, _, HA1.out, HA2.out, HOK.out.symm, (fun _ => ⟨_, HM.out, rfl⟩), (fun h => by cases h)⟩, HD.out.1, HD.out.2⟩
    · go_wp2
      go_loopw [11] (fun i wr => ∃ k : Nat, k ≤ ps.length ∧ i = .int .i64 (k : Int) ∧ PairK w (-1) gx xc gy yc ps qs k wr) (fun i _ => ps.length - (intOf i).toNat)
      case atStart => exact ⟨0, Nat.zero_le _, rfl, HKS.out⟩
      case round =>
        clear HKS hb03
        obtain ⟨k, hk, rfl, hp⟩ := hrel
        have HP := Lib.hid hp
        clear hp
        by_cases hlt : k < ps.length
        · have hltq : k < qs.length := by have := HLEN.out; omega
          obtain ⟨⟨x1, x2⟩, y1, y2⟩ := HP.out.rd HLEN.out hlt hltq
          have HN := HP.out.next HLEN.out hlt hltq hne
          obtain ⟨fx, fy, bx, bxy⟩ := HFIN.out k hlt hltq
          clear HFIN
          rw [show sh (-1) ps[k].2 qs[k].2 = (Flt.half ps[k].2.1 qs[k].2.1, Flt.half (Op.negFloat .f32 ps[k].2.2) qs[k].2.2) from (if_neg (by decide)).trans (if_pos rfl)] at HN
          have HNN := Lib.hid HN
          clear HN
          generalize ps[k] = c at *
          generalize qs[k] = d at *
          have HU := fun W => Lib.hid (l02Half_any c.2.1 d.2.1 W fx.2.1 fy.2.1)
          have HV := fun W => Lib.hid (l02Half_any (Op.negFloat .f32 c.2.2) d.2.2 W (Flt.fin_neg bx fx.2.2) fy.2.2)
          have HC := fun W => Lib.hid (conjD_any c.2.1 c.2.2 W)
          clear fx fy bx bxy
          go_wp2_with (first | (go_at_call 106; refine (HC _).out.mono ?_; rintro e w5 ⟨rfl, rfl⟩) | (go_at_call 107; refine (HU _).out.mono ?_; rintro e w5 ⟨rfl, rfl⟩) | (go_at_call 107; refine (HV _).out.mono ?_; rintro e w5 ⟨rfl, rfl⟩))
          go_roundw
          case rel => exact ⟨k + 1, by omega, by go_num, HNN.out⟩
          case measure => simp [intOf]; omega
        · have hkk : k = ps.length := by omega
          subst hkk
          have HD := Lib.hid (HP.out.done (w6 := wr.alloc (.cells #[.slice (some ⟨gx, 0, none⟩) ps.length xc, .slice (some ⟨gy, 0, none⟩) ps.length yc] 40)) (g6 := wr.heap.size) (cap6 := 2) HLEN.out hne (own_two wr w.heap.size (some ⟨gx, 0, none⟩, ps.length, xc) (some ⟨gy, 0, none⟩, ps.length, yc) HP.out.below.size) (.cells #[.slice (some ⟨gx, 0, none⟩) ps.length xc, .slice (some ⟨gy, 0, none⟩) ps.length yc] 40) (World.grownBy.refl _ _) (.inl rfl))
          clear HFIN
          go_wp2
          go_ret2
          exact ⟨_, _, _, true, rfl, ⟨ps, qs, _, _, HA1.out, HA2.out, HOK.out.symm, (fun _ => ⟨_, HM.out, rfl⟩), (fun h => by cases h)⟩, HD.out.1, HD.out.2⟩
    · go_wp2
      go_loopw [11] (fun i wr => ∃ k : Nat, k ≤ ps.length ∧ i = .int .i64 (k : Int) ∧ PairK w (0) gx xc gy yc ps qs k wr) (fun i _ => ps.length - (intOf i).toNat)
      case atStart => exact ⟨0, Nat.zero_le _, rfl, HKS.out⟩
      case round =>
        clear HKS hb03
        obtain ⟨k, hk, rfl, hp⟩ := hrel
        have HP := Lib.hid hp
        clear hp
        by_cases hlt : k < ps.length
        · have hltq : k < qs.length := by have := HLEN.out; omega
          obtain ⟨⟨x1, x2⟩, y1, y2⟩ := HP.out.rd HLEN.out hlt hltq
          have HN := HP.out.next HLEN.out hlt hltq hne
          obtain ⟨fx, fy, bx, bxy⟩ := HFIN.out k hlt hltq
          clear HFIN
          rw [show sh (0) ps[k].2 qs[k].2 = (0, 0) from (if_neg (by decide)).trans (if_neg (by decide))] at HN
          have HNN := Lib.hid HN
          clear HN
          generalize ps[k] = c at *
          generalize qs[k] = d at *
          have HU := fun W => Lib.hid (l02Half_any c.2.1 d.2.1 W fx.2.1 fy.2.1)
          have HV := fun W => Lib.hid (l02Half_any c.2.2 d.2.2 W fx.2.2 fy.2.2)
          have HC := fun W => Lib.hid (conjD_any c.2.1 c.2.2 W)
          clear fx fy bx bxy
          go_wp2_with (first | (go_at_call 106; refine (HC _).out.mono ?_; rintro e w5 ⟨rfl, rfl⟩) | (go_at_call 107; refine (HU _).out.mono ?_; rintro e w5 ⟨rfl, rfl⟩) | (go_at_call 107; refine (HV _).out.mono ?_; rintro e w5 ⟨rfl, rfl⟩))
          go_roundw
          case rel => exact ⟨k + 1, by omega, by go_num, HNN.out⟩
          case measure => simp [intOf]; omega
        · have hkk : k = ps.length := by omega
          subst hkk
          have HD := Lib.hid (HP.out.done (w6 := wr.alloc (.cells #[.slice (some ⟨gx, 0, none⟩) ps.length xc, .slice (some ⟨gy, 0, none⟩) ps.length yc] 40)) (g6 := wr.heap.size) (cap6 := 2) HLEN.out hne (own_two wr w.heap.size (some ⟨gx, 0, none⟩, ps.length, xc) (some ⟨gy, 0, none⟩, ps.length, yc) HP.out.below.size) (.cells #[.slice (some ⟨gx, 0, none⟩) ps.length xc, .slice (some ⟨gy, 0, none⟩) ps.length yc] 40) (World.grownBy.refl _ _) (.inl rfl))
          clear HFIN
          go_wp2
          go_ret2
          exact ⟨_, _, _, true, rfl, ⟨ps, qs, _, _, HA1.out, HA2.out, HOK.out.symm, (fun _ => ⟨_, HM.out, rfl⟩), (fun h => by cases h)⟩, HD.out.1, HD.out.2⟩
end Go.Proofs.YtobpnoiienpipaaGreat
