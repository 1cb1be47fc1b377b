/-
  What is proved: what the model's Receive answers, of any set and any stream.
  Conditions: the stream can be read.
-/
import Derived.Test.YtobpnoiienpipaaGreatPz40
import Derived.Test.YtobpnoiienpipaaGreatPz41
import Derived.Test.YtobpnoiienpipaaGreatSpecStarts
import Derived.Test.YtobpnoiienpipaaGreatPz16
import Derived.Test.YtobpnoiienpipaaGreatPz19
import Derived.Test.YtobpnoiienpipaaGreatPz42
import Derived.Deep.RegionHeld3
import Derived.Test.YtobpnoiienpipaaGreatRec2
namespace Go.Proofs.YtobpnoiienpipaaGreat
set_option linter.unusedVariables false
open Go.RowKit
attribute [local go_sem] run_store_float run_store_complex unary_negf neg256

/-- The lines that can be read, in a list that can be read. -/
theorem grid_cells {w : World} {base : Nat} {v : Value} {L : List (List Nat)} {ss : List SV} (h : Grid w base v L ss) : ∃ a c, v = .slice a L.length c ∧ ∀ i, i < L.length → ∃ g va, a = some ⟨g, 0, none⟩ ∧ L.length ≤ c ∧ w.cell? ⟨g, i, none⟩ = some va ∧ FRow w va (L.getD i []) := by
  have hl := h.lines.len
  rcases h.own.2 with ⟨rfl, e⟩ | ⟨g, cap, cur, rfl, hbb, hgg, hn, _⟩
  · have e0 : ss.length = 0 := e
    exact ⟨none, 0, by rw [← hl, e0], fun i hi => by omega⟩
  · refine ⟨some ⟨g, 0, none⟩, cap, by rw [← hl], fun i hi => ⟨g, ss[i].v, rfl, by rw [← hl]; exact hn, ?_, ?_⟩⟩
    · obtain ⟨a, c, e, hcell⟩ := Lay.Row.any LSf_ok h.own.row
      obtain ⟨g', o', e1, _, h2⟩ := hcell i (by omega)
      cases e
      cases e1
      have h3 := h2 0 (ss[i]'(by omega)).v rfl
      simpa [LSf] using h3
    · rw [getD_in hi]
      exact (h.lines.row i (by omega) hi).row
set_option maxRecDepth 100000 in
set_option maxHeartbeats 2000000 in
theorem specReceive_any (x : SetC) (vl v : Value) (log : List (List UInt8)) (xs : List Nat) (w : World) (hx : x.ok) (hlog : TRow w vl log) (hll : log.length ≤ 3000000) (h : FRow w v xs) (hl : xs.length ≤ 3000000) (hfull : ∀ n out, TakenK (setLines x xs) x.l x.t n out → ∀ r ∈ out, r ≠ []) :
    Calls Tryz.prog 13 #[x.val vl, v] w fun e w' => RecA x log.length xs w e w' := by
  have HOK := fun W hr => Lib.hid (specSetOk_any x vl log W hx hr hll)
  obtain ⟨av, cv, rfl⟩ := h.lenv
  have HR := Lib.hid h
  have HLG := Lib.hid hlog
  obtain ⟨K, K2, hz0, hb0⟩ := alloc2 w (.cells (x.cells vl) 37) (.cells #[] 40)
  have HN0 := Lib.hid (fun (W : World) (hb : Below (w.heap.size + 2) ((w.alloc (.cells (x.cells vl) 37)).alloc (.cells #[] 40)) W) => show GridN W w.heap.size (.slice (some ⟨w.heap.size + 1, 0, none⟩) 0 0) [] [] from ⟨⟨rfl, .inr ⟨w.heap.size + 1, 0, #[], rfl, by omega, (hb.block _ (by omega)).trans K2, Nat.le_refl _, by unfold maxLen; omega, rfl, rfl⟩⟩, rfl, fun i h => absurd h (by simp), fun i j h => absurd h (by simp), fun i h => absurd h (by simp)⟩)
  clear K2
  cases hset : setB x log.length with
  | false =>
    rw [hset] at HOK
    have HNO := Lib.hid (show RecR x log.length xs [] false from .inl ⟨by rw [hset]; rfl, rfl, rfl⟩)
    obtain ⟨p0, p1, p2, p3, p4, p5⟩ := SetAt.of (x := x) (v := vl) K
    obtain ⟨xc, xr, xsl, xl, xt⟩ := x
    simp only [SetC.val, SetC.cells] at *
    clear h hlog hset hx hfull
    go_enter Tryz.func13, Tryz.ntmps13
    go_wp2_with fail
    generalize World.alloc (World.alloc w _) _ = w1 at *
    refine (HOK w1 (HLG.out.below hb0)).out.mono ?_
    rintro e w2 ⟨rfl, hb2⟩
    rw [hz0] at hb2
    have HNN := Lib.hid (HN0.out w2 hb2)
    go_wp2
    go_ret2
    exact ⟨_, [], [], false, rfl, HNO.out, HNN.out, below_trans hb0 (hb2.mono (show w.heap.size ≤ w.heap.size + 2 by omega)) (by omega)⟩
  | true =>
    have hcc : 1 ≤ x.c ∧ x.c ≤ 64 ∧ rowCnt x.r = true := by
      have h1 := hset
      unfold setB at h1
      simp only [Bool.and_eq_true, decide_eq_true_eq] at h1
      exact ⟨h1.1, h1.2.1, h1.2.2.1⟩
    rw [hset] at HOK
    obtain ⟨b1, b2⟩ := starts_bound xs x.s (24 + 4 * x.c) 3
    have HS := fun W hr => Lib.hid (specStarts_any (.slice av xs.length cv) xs x.s (24 + 4 * x.c) 3 W hr ⟨by omega, by omega⟩ ⟨by decide, by decide⟩ (by omega))
    have HCU := fun vp W hr hp => Lib.hid (specCut_any (.slice av xs.length cv) vp xs (starts xs x.s (24 + 4 * x.c) 3) (24 + 4 * x.c) W hr hp (fun p hp => by have := b1 p hp; exact ⟨by omega, by omega⟩) ⟨by omega, by omega⟩ (by omega) (by omega))
    rw [show cuts xs (starts xs x.s (24 + 4 * x.c) 3) (24 + 4 * x.c) = setLines x xs from rfl] at HCU
    have HLB := Lib.hid (setLines_le x xs)
    obtain ⟨L, hL⟩ : ∃ L, L = setLines x xs := ⟨_, rfl⟩
    rw [← hL] at HCU HLB hfull
    have HFU := Lib.hid hfull
    clear hfull
    have HRL := Lib.hid (show ∀ rows ok, ((decide ((L.length : Int) = x.r) = false ∧ ok = false ∧ rows = []) ∨ (decide ((L.length : Int) = x.r) = true ∧ ∃ out o, RowsR L x.l x.t (L.length / 2) out o ∧
        ((o = false ∧ ok = false ∧ rows = []) ∨ (o = true ∧ ok = pok (wv (L.length / 2) out) ∧ rows = if pok (wv (L.length / 2) out) = true then wv (L.length / 2) out else [])))) → RecR x log.length xs rows ok from fun rows ok h => by
      unfold RecR
      rw [hset, Bool.true_and, ← hL]
      exact h)
    obtain ⟨n0, hn0⟩ : ∃ n0, log.length = n0 := ⟨_, rfl⟩
    rw [hn0] at HRL ⊢
    generalize hst : starts xs x.s (24 + 4 * x.c) 3 = sts at *
    obtain ⟨p0, p1, p2, p3, p4, p5⟩ := SetAt.of (x := x) (v := vl) K
    obtain ⟨xc, xr, xsl, xl, xt⟩ := x
    obtain ⟨nn, hnn⟩ : ∃ nn, nn = 24 + 4 * xc := ⟨_, rfl⟩
    simp only [SetC.val, SetC.cells] at *
    have hw1 : IntKind.i64.wrap (4 * xc) = 4 * xc := IntWalk.i64_in _ (by omega)
    have hw2 : IntKind.i64.wrap (24 + 4 * xc) = nn := by rw [IntWalk.i64_in _ (by omega)]; omega
    rw [← hnn] at HS HCU
    clear h hlog hset hx hL hn0 hst hnn b1 b2
    have hc1 := hcc.1
    have hc2 := hcc.2.1
    have hr3 := hcc.2.2
    clear hcc
    by_cases hn : (L.length : Int) = xr
    · obtain ⟨m, hm⟩ : ∃ m, L.length = 2 * m := by
        unfold rowCnt at hr3
        simp only [Bool.and_eq_true, decide_eq_true_eq] at hr3
        exact ⟨L.length / 2, by omega⟩
      have hm1 : 1 ≤ m ∧ m ≤ 32 := by
        unfold rowCnt at hr3
        simp only [Bool.and_eq_true, decide_eq_true_eq] at hr3
        omega
      have hm2 : L.length / 2 = m := by omega
      have HYES := Lib.hid (fun out (h : RowsR L xl xt m out true) => HRL.out (if pok (wv m out) = true then wv m out else []) (pok (wv m out)) (.inr ⟨decide_eq_true hn, out, true, by rw [hm2]; exact h, .inr ⟨rfl, by rw [hm2], by rw [hm2]⟩⟩))
      have HNOT := Lib.hid (fun (h : ∃ i, i < m ∧ ∃ two, PairS (L.getD (2 * i) []) (L.getD (2 * i + 1) []) xl xt two false) => HRL.out [] false (.inr ⟨decide_eq_true hn, [], false, .inr ⟨rfl, rfl, by rw [hm2]; exact h⟩, .inl ⟨rfl, rfl, rfl⟩⟩))
      have hmN0 := hm1.1
      have hmN1 := hm1.2
      obtain ⟨N, hN⟩ : ∃ N, L.length = N := ⟨_, rfl⟩
      rw [hN] at hn hm
      have HN := Lib.hid hN
      have HNM := Lib.hid hm
      subst hn
      clear hN hm hm1 hm2 HRL hr3
      have HWD := Lib.hid (show ∀ l ∈ L, l.length ≤ 3000000 from fun l hm => Nat.le_trans (HLB.out l hm) hl)
      clear HLB
      go_enter Tryz.func13, Tryz.ntmps13
      go_wp2_with fail
      generalize World.alloc (World.alloc w _) _ = w1 at *
      refine (HOK w1 (HLG.out.below hb0)).out.mono ?_
      rintro e w2 ⟨rfl, hb2⟩
      rw [hz0] at hb2
      have HB2 := Lib.hid hb2
      have hb02 := below_trans hb0 (hb2.mono (show w.heap.size ≤ w.heap.size + 2 by omega)) (by omega)
      replace K := (hb2.block w.heap.size (by omega)).trans K
      clear p0 p1 p2 p3 p4 p5 hb2
      obtain ⟨p0, p1, p2, p3, p4, p5⟩ := SetAt.of (x := ⟨xc, (N : Int), xsl, xl, xt⟩) (v := vl) K
      simp only [SetC.val] at *
      go_wp2
      go_region_held3 (fun V => V.cell? ⟨w.heap.size, 0, none⟩ = some (.int .i64 xc)) (go_keep) (first
        | ((try go_simp); go_at_call 39; refine (l04Head_any _).mono ?_; rintro e w3 ⟨rfl, rfl⟩))
      go_wp2_with fail
      refine (HS w2.drew (HR.out.below hb02.drew)).out.mono ?_
      rintro e w3 ⟨vp, rfl, hp3, hb3⟩
      have hb03 := below_trans hb02.drew hb3 hb02.drew.size
      have HB3 := Lib.hid (HB2.out.drew.trans (hb3.mono (show w.heap.size + 2 ≤ w2.drew.heap.size by have := HB2.out.drew.size; omega)))
      replace K := (hb3.block w.heap.size (by have := HB2.out.drew.size; omega)).trans K
      clear p0 p1 p2 p3 p4 p5 hb3
      obtain ⟨p0, p1, p2, p3, p4, p5⟩ := SetAt.of (x := ⟨xc, (N : Int), xsl, xl, xt⟩) (v := vl) K
      simp only [SetC.val] at *
      go_wp2_with fail
      refine (HCU vp w3 (HR.out.below hb03) hp3.row).out.mono ?_
      rintro e w4 ⟨v4, s4, rfl, hg4, hb4⟩
      have hb04 := below_trans hb03 hb4 hb03.size
      have HB4 := Lib.hid (HB3.out.trans (hb4.mono (show w.heap.size + 2 ≤ w3.heap.size by have := HB3.out.size; omega)))
      replace K := (hb4.block w.heap.size (by have := HB3.out.size; omega)).trans K
      clear p0 p1 p2 p3 p4 p5 hb4
      obtain ⟨p0, p1, p2, p3, p4, p5⟩ := SetAt.of (x := ⟨xc, (N : Int), xsl, xl, xt⟩) (v := vl) K
      simp only [SetC.val] at *
      obtain ⟨al, cl, rfl, hlc⟩ := grid_cells hg4
      rw [HN.out] at hlc
      have HLC := Lib.hid hlc
      clear hlc
      rw [HN.out]
      have HNN := Lib.hid (HN0.out w4 HB4.out)
      have hz4 := HB4.out.size
      clear hg4 HS HCU HOK HN0 HB2 HB3 HLG
      have HTK := fun v v' ys zs W hr hr' h1 h2 => Lib.hid (specTake_any v v' ys zs xl xt W hr hr' h1 h2)
      obtain ⟨gl, va0, rfl, hcap, _, _⟩ := HLC.out 0 (by have := HNM.out; omega)
      have HL2 := Lib.hid (show ∀ i, i < N → ∃ va, w4.cell? ⟨gl, i, none⟩ = some va ∧ FRow w4 va (L.getD i []) from fun i hi => by
        obtain ⟨g, va, e, _, h1, h2⟩ := HLC.out i hi
        cases e
        exact ⟨va, h1, h2⟩)
      have HB0 := Lib.hid ((Below.refl w4.heap.size w4).alloc (Nat.le_refl _) (.cells #[] 40))
      have HG0 := Lib.hid (GridC.nil w4).new
      clear HLC HR
      go_wp2
      clear p0 p1 p2 p3 p4 p5
      go_loopw [9, 10] (fun out i wr => ∃ (k p : Nat) (rows : List (List C3)) (st : List SV), k ≤ m ∧ p = 2 * k ∧ i = .int .i64 (p : Int) ∧ TakenK L xl xt k rows ∧ GridN wr w4.heap.size out rows st ∧ Below w4.heap.size w4 wr) (fun _ i _ => N - (intOf i).toNat)
      case atStart => exact ⟨0, 0, [], [], Nat.zero_le _, rfl, rfl, TakenK.zero _ _ _, HG0.out, HB0.out⟩
      case round =>
        obtain ⟨k, p, rows, st, hk, hp, rfl, htk, hgr, hb⟩ := hrel
        have HP := Lib.hid hp
        have HTKK := Lib.hid htk
        have HGR := Lib.hid hgr
        have HB := Lib.hid hb
        have hsz := hb.size
        have hstl : st.length = 2 * k := by rw [hgr.len, htk.len]
        have HSTL := Lib.hid hstl
        clear hp htk hgr HB0 HG0 hstl
        replace K := (hb.block w.heap.size (by omega)).trans K
        obtain ⟨p0, p1, p2, p3, p4, p5⟩ := SetAt.of (x := ⟨xc, (N : Int), xsl, xl, xt⟩) (v := vl) K
        simp only [SetC.val] at *
        by_cases hlt : k < m
        · have hpN : p + 1 < N := by have := HP.out; have := HNM.out; omega
          have hpN0 : p < N := by omega
          have hN64 : N ≤ 64 := by have := HNM.out; omega
          obtain ⟨va, q1, ra⟩ := HL2.out p hpN0
          obtain ⟨vb, q2, rb⟩ := HL2.out (p + 1) hpN
          have q1 := (grown_of hb).cell q1 (by simp)
          have q2 := (grown_of hb).cell q2 (by simp)
          have HRA := Lib.hid (ra.below hb)
          have HRB := Lib.hid (rb.below hb)
          have hla : (L.getD p []).length ≤ 3000000 := by
            rw [getD_in (show p < L.length by rw [HN.out]; exact hpN0)]
            exact HWD.out _ (List.getElem_mem _)
          have hlb : (L.getD (p + 1) []).length ≤ 3000000 := by
            rw [getD_in (show p + 1 < L.length by rw [HN.out]; exact hpN)]
            exact HWD.out _ (List.getElem_mem _)
          have HA := fun W hr => Lib.hid (specToLevel_any va (L.getD p []) W hr (by omega))
          have HBB := fun W hr => Lib.hid (specToLevel_any vb (L.getD (p + 1) []) W hr (by omega))
          have HPA := Lib.hid (show L.getD p [] = L.getD (2 * k) [] by rw [HP.out])
          have HPB := Lib.hid (show L.getD (p + 1) [] = L.getD (2 * k + 1) [] by rw [HP.out])
          generalize L.getD p [] = a at *
          generalize L.getD (p + 1) [] = b at *
          obtain ⟨q, hq⟩ : ∃ q, q = p + 1 := ⟨_, rfl⟩
          have hw3 : IntKind.i64.wrap ((p : Int) + 1) = (q : Int) := by rw [IntWalk.i64_in _ (by omega)]; omega
          have hw4 : IntKind.i64.wrap ((p : Int) + 2) = ((p + 2 : Nat) : Int) := by rw [IntWalk.i64_in _ (by omega)]; omega
          have hqN : q < N := by omega
          rw [← hq] at q2
          have HQ := Lib.hid hq
          clear hq ra rb hpN
          go_wp2_with fail
          refine (HA wr HRA.out).out.mono ?_
          rintro e w5 ⟨v5, ys, rfl, hy, hn5, hb5⟩
          have hb05 := below_trans hb hb5 hb.size
          have q2 := (grown_of hb5).cell q2 (by simp)
          obtain ⟨a5, c5, e5⟩ := hn5.row.lenv
          subst e5
          have HN5 := Lib.hid hn5
          replace K := (hb5.block w.heap.size (by omega)).trans K
          clear p0 p1 p2 p3 p4 p5 hn5
          obtain ⟨p0, p1, p2, p3, p4, p5⟩ := SetAt.of (x := ⟨xc, (N : Int), xsl, xl, xt⟩) (v := vl) K
          simp only [SetC.val] at *
          have hz5 := hb5.size
          go_wp2_with fail
          refine (HBB w5 (HRB.out.below hb5)).out.mono ?_
          rintro e w6 ⟨v6, zs, rfl, hz, hn6, hb6⟩
          have hb06 := below_trans hb05 hb6 hb05.size
          obtain ⟨a6, c6, e6⟩ := hn6.row.lenv
          subst e6
          have HN6 := Lib.hid hn6
          have HN5' := Lib.hid (HN5.out.below hb6)
          replace K := (hb6.block w.heap.size (by omega)).trans K
          clear p0 p1 p2 p3 p4 p5 hn6 q1 q2 HN5
          obtain ⟨p0, p1, p2, p3, p4, p5⟩ := SetAt.of (x := ⟨xc, (N : Int), xsl, xl, xt⟩) (v := vl) K
          simp only [SetC.val] at *
          have hz6 := hb6.size
          have hly : ys.length ≤ 3000000 := by
            unfold levR at hy
            rw [hy]
            split
            · rw [levs_len]; exact hla
            · exact Nat.zero_le _
          have hlz : zs.length ≤ 3000000 := by
            unfold levR at hz
            rw [hz]
            split
            · rw [levs_len]; exact hlb
            · exact Nat.zero_le _
          have HT6 := Lib.hid (HTK (.slice a5 ys.length c5) (.slice a6 zs.length c6) ys zs w6 HN5'.out.row HN6.out.row (by omega) (by omega)).out
          have HY := Lib.hid hy
          have HZ := Lib.hid hz
          generalize hA : levOk a = lA at *
          generalize hB : levOk b = lB at *
          have HLA := Lib.hid hA
          have HLBB := Lib.hid hB
          clear hy hz hA hB hly hlz HTK HA HBB HRA HRB
          go_wp2_with fail
          refine HT6.out.mono ?_
          rintro e w7 ⟨v7, two, s7, ok7, rfl, ht7, hg7, hb7⟩
          have hb07 := below_trans hb06 hb7 hb06.size
          have HB7 := Lib.hid hb07
          have HB57 := Lib.hid (hb7.mono (show wr.heap.size ≤ w6.heap.size by omega))
          have HG7 := Lib.hid hg7
          have HTT := Lib.hid ht7
          have HNO := Lib.hid (show (lA && (lB && ok7)) = false → ∃ two, PairS (L.getD (2 * k) []) (L.getD (2 * k + 1) []) xl xt two false from fun e => by
            rw [← HPA.out, ← HPB.out]
            cases lA with
            | false => exact ⟨[], .inl ⟨by rw [HLA.out]; rfl, rfl, rfl⟩⟩
            | true =>
              cases lB with
              | false => exact ⟨[], .inl ⟨by rw [HLBB.out, Bool.and_false], rfl, rfl⟩⟩
              | true =>
                have e3 : ok7 = false := e
                subst e3
                have h1 := HY.out
                have h2 := HZ.out
                unfold levR at h1 h2
                rw [HLA.out, if_pos rfl] at h1
                rw [HLBB.out, if_pos rfl] at h2
                rw [h1, h2] at HTT
                exact ⟨two, .inr ⟨by rw [HLA.out, HLBB.out]; rfl, HTT.out⟩⟩)
          have HYE := Lib.hid (show lA = true → lB = true → ok7 = true → PairS (L.getD (2 * k) []) (L.getD (2 * k + 1) []) xl xt two true from fun e1 e2 e3 => by
            subst e1
            subst e2
            subst e3
            rw [← HPA.out, ← HPB.out]
            have h1 := HY.out
            have h2 := HZ.out
            unfold levR at h1 h2
            rw [HLA.out, if_pos rfl] at h1
            rw [HLBB.out, if_pos rfl] at h2
            rw [h1, h2] at HTT
            exact .inr ⟨by rw [HLA.out, HLBB.out]; rfl, HTT.out⟩)
          have HNN7 := Lib.hid (HNN.out.below hb07)
          obtain ⟨a7, n7, c7, e7⟩ : ∃ a n c, v7 = .slice a n c := by
            obtain ⟨a, c, e, _⟩ := hg7.rows.any
            exact ⟨a, _, c, e⟩
          subst e7
          clear hg7 ht7 hb7 HY HZ HLA HLBB HT6 HN6 HN5' HTT p0 p1 p2 p3 p4 p5
          cases lA <;> cases lB <;> cases ok7
          · go_wp2
            go_ret2
            exact ⟨_, [], [], false, rfl, HNOT.out ⟨k, hlt, HNO.out rfl⟩, HNN7.out, below_trans hb04 HB7.out hb04.size⟩
          · go_wp2
            go_ret2
            exact ⟨_, [], [], false, rfl, HNOT.out ⟨k, hlt, HNO.out rfl⟩, HNN7.out, below_trans hb04 HB7.out hb04.size⟩
          · go_wp2
            go_ret2
            exact ⟨_, [], [], false, rfl, HNOT.out ⟨k, hlt, HNO.out rfl⟩, HNN7.out, below_trans hb04 HB7.out hb04.size⟩
          · go_wp2
            go_ret2
            exact ⟨_, [], [], false, rfl, HNOT.out ⟨k, hlt, HNO.out rfl⟩, HNN7.out, below_trans hb04 HB7.out hb04.size⟩
          · go_wp2
            go_ret2
            exact ⟨_, [], [], false, rfl, HNOT.out ⟨k, hlt, HNO.out rfl⟩, HNN7.out, below_trans hb04 HB7.out hb04.size⟩
          · go_wp2
            go_ret2
            exact ⟨_, [], [], false, rfl, HNOT.out ⟨k, hlt, HNO.out rfl⟩, HNN7.out, below_trans hb04 HB7.out hb04.size⟩
          · go_wp2
            go_ret2
            exact ⟨_, [], [], false, rfl, HNOT.out ⟨k, hlt, HNO.out rfl⟩, HNN7.out, below_trans hb04 HB7.out hb04.size⟩
          · have HPS := Lib.hid (HYE.out rfl rfl rfl)
            have h27 : two.length = 2 := HPS.out.len2
            have hs7 : s7.length = 2 := HG7.out.len.trans h27
            have hg7 := HG7.out
            obtain ⟨g7, cx, e7, hcx⟩ : ∃ g7 cx, Value.slice a7 n7 c7 = .slice (some ⟨g7, 0, none⟩) 2 cx ∧ 2 ≤ cx := by
              rcases hg7.own.shape with ⟨_, e⟩ | ⟨g, cap, e, _, _, hc, _⟩
              · rw [e] at hs7; cases hs7
              · rw [hs7] at e hc
                exact ⟨g, cap, e, hc⟩
            rw [e7] at hg7 ⊢
            have HG8 := Lib.hid hg7
            have hcl : ∀ j u, (LSc.cells s7)[j]? = some u → w7.cell? ⟨g7, 0 + j, none⟩ = some u := fun j u hu => by
              have h3 := World.ownsRow.cells hg7.own rfl j u hu
              have hadd : (⟨g7, 0, none⟩ : Addr).add j = ⟨g7, 0 + j, none⟩ := by unfold Addr.add; split <;> simp_all
              rwa [hadd] at h3
            have HCL := Lib.hid hcl
            have HS7 := Lib.hid hs7
            have hb57 := (hb5.trans (hb6.mono (show wr.heap.size ≤ w5.heap.size by omega))).trans (HB57.out)
            have HOW := Lib.hid (HGR.out.own.below hb57)
            have HB57' := Lib.hid hb57
            have hst64 : st.length ≤ 64 := by have := HSTL.out; omega
            have hz7 := HB7.out.size
            clear hg7 hcl hs7 e7 h27 hb57
            go_wp2_with (at_builtin; refine LSc_ok.append rfl (.tmp 88) (.tmp 89) rfl w4.heap.size u9 st s7 st.length rfl HOW.out rfl g7 0 2 cx rfl HS7.out HCL.out (by decide) (by omega) hz7 ?_; intro g8 c8 w8 ho8 hg8 hor8 hlt8)
            have hj := gridN_join HGR.out hsz HB57'.out (HG8.out.mono (show wr.heap.size ≤ w6.heap.size by omega)) ho8 hg8 hor8
            have HJ := Lib.hid hj
            have HT8 := Lib.hid (HTKK.out.next HPS.out)
            have HB8 := Lib.hid (HB7.out.grown hg8 hz7 (fun r hr => (HOW.out.lt r hr).1))
            clear hj ho8 hg8 hor8 hlt8
            go_wp2
            go_roundw
            case rel => exact ⟨k + 1, p + 2, _, _, by omega, by have := HP.out; omega, by first | rfl | go_num, HT8.out, HJ.out, HB8.out⟩
            case measure => simp [intOf]; omega
        · have hkk : k = m := by omega
          have hpN : ¬ p < N := by have := HP.out; have := HNM.out; omega
          have hN64 : N ≤ 64 := by have := HNM.out; omega
          have hNm := HNM.out
          have htk := HTKK.out
          rw [hkk] at htk
          have hol := htk.len
          have hst : st.length = N := by have := HSTL.out; omega
          have HRY := Lib.hid (HYES.out rows (.inl ⟨rfl, htk⟩))
          have HTHIN := Lib.hid (show ∀ r ∈ wv m rows, r ≠ [] ∧ r.length ≤ 64 from fun r hr => ⟨HFU.out m rows htk r (wv_mem hol r hr), (htk.row r (wv_mem hol r hr)).1⟩)
          have hgr := HGR.out
          obtain ⟨g9, c9, e9, hc9⟩ : ∃ g9 c9, u9 = .slice (some ⟨g9, 0, none⟩) N c9 ∧ N ≤ c9 := by
            rcases hgr.own.shape with ⟨_, e⟩ | ⟨g, cap, e, _, _, hc, _⟩
            · rw [e] at hst; simp at hst; omega
            · exact ⟨g, cap, by rw [e, hst], by omega⟩
          subst e9
          have hrv := hgr.rows
          have hdiv : ((N : Int) / 2) = (m : Int) := by omega
          have hdiv2 : (N : Int).tdiv 2 = (m : Int) := by rw [Int.tdiv_eq_ediv_of_nonneg (by omega)]; omega
          have hwm : IntKind.i64.wrap (m : Int) = (m : Int) := IntWalk.i64_in _ (by omega)
          have hNm2 : N - m = m := by omega
          have hmN : (m : Int) ≤ (N : Int) := by omega
          have hmc : (m : Int) ≤ (c9 : Int) := by omega
          have hNc : (N : Int) ≤ (c9 : Int) := by omega
          have hm0 : (0 : Int) ≤ (m : Int) := by omega
          have hcm : ¬ c9 = m := by omega
          have hcm2 : ¬ c9 - m = 0 := by omega
          have HWV := Lib.hid (specWeave_any g9 0 c9 g9 m (c9 - m) m (by omega) (wv m rows) (wv_len m rows) HTHIN.out wr.drew (fun k hk hq => by
              rw [wv_even hq, Nat.zero_add]
              exact (hrv.below (Below.refl _ _).drew).cells (by omega))
            (fun k hk hq => by
              rw [wv_odd hq]
              exact (hrv.below (Below.refl _ _).drew).cells (by omega)))
          have HBW := Lib.hid (below_trans hb04 HB.out hb04.size)
          have p19 : wr.drew.cell? ⟨w.heap.size, 1, none⟩ = some (.int .i64 (N : Int)) := p1
          have hlt9 : w.heap.size < wr.drew.heap.size := by show w.heap.size < wr.heap.size; omega
          clear hrv hgr hol hst htk hNm hkk HTHIN HYES HNOT HNN HL2 HWD HFU HN HNM HTK HGR HP HTKK HSTL
          go_wp2
          go_region_held3 (fun V => V.cell? ⟨w.heap.size, 1, none⟩ = some (.int .i64 (N : Int))) (go_keep) (first
            | ((try go_simp); go_at_call 44; (try simp only [hNm2, Nat.zero_add]); refine HWV.out.mono ?_; rintro e w9 ⟨v9, s9, rfl, hg9, hb9⟩
               have KK := (hb9.cell (p := ⟨w.heap.size, 1, none⟩) hlt9).trans p19))
          go_wp2
          go_ret2
          exact RecA.yes HRY.out hg9 (show w.heap.size ≤ wr.drew.heap.size from HBW.out.drew.size) (below_trans HBW.out.drew hb9 HBW.out.drew.size)
    · have HNO := Lib.hid (HRL.out [] false (.inl ⟨decide_eq_false hn, rfl, rfl⟩))
      have HLL := Lib.hid (show True from trivial)
      have hnn : ¬ xr = (L.length : Int) := fun e => hn e.symm
      obtain ⟨N, hN⟩ : ∃ N, L.length = N := ⟨_, rfl⟩
      rw [hN] at hn hnn
      have HN := Lib.hid hN
      clear hN HRL HLB
      go_enter Tryz.func13, Tryz.ntmps13
      go_wp2_with fail
      generalize World.alloc (World.alloc w _) _ = w1 at *
      refine (HOK w1 (HLG.out.below hb0)).out.mono ?_
      rintro e w2 ⟨rfl, hb2⟩
      rw [hz0] at hb2
      have HB2 := Lib.hid hb2
      have hb02 := below_trans hb0 (hb2.mono (show w.heap.size ≤ w.heap.size + 2 by omega)) (by omega)
      replace K := (hb2.block w.heap.size (by omega)).trans K
      clear p0 p1 p2 p3 p4 p5 hb2
      obtain ⟨p0, p1, p2, p3, p4, p5⟩ := SetAt.of (x := ⟨xc, xr, xsl, xl, xt⟩) (v := vl) K
      simp only [SetC.val] at *
      go_wp2
      go_region_held3 (fun V => V.cell? ⟨w.heap.size, 0, none⟩ = some (.int .i64 xc)) (first | with_reducible exact KK | go_keep) (first
        | ((try go_simp); go_at_call 39; refine (l04Head_any _).mono ?_; rintro e w3 ⟨rfl, rfl⟩))
      go_wp2_with fail
      refine (HS w2.drew (HR.out.below hb02.drew)).out.mono ?_
      rintro e w3 ⟨vp, rfl, hp3, hb3⟩
      have hb03 := below_trans hb02.drew hb3 hb02.drew.size
      have HB3 := Lib.hid (HB2.out.drew.trans (hb3.mono (show w.heap.size + 2 ≤ w2.drew.heap.size by have := HB2.out.drew.size; omega)))
      replace K := (hb3.block w.heap.size (by have := HB2.out.drew.size; omega)).trans K
      clear p0 p1 p2 p3 p4 p5 hb3
      obtain ⟨p0, p1, p2, p3, p4, p5⟩ := SetAt.of (x := ⟨xc, xr, xsl, xl, xt⟩) (v := vl) K
      simp only [SetC.val] at *
      go_wp2_with fail
      refine (HCU vp w3 (HR.out.below hb03) hp3.row).out.mono ?_
      rintro e w4 ⟨v4, s4, rfl, hg4, hb4⟩
      have hb04 := below_trans hb03 hb4 hb03.size
      have HB4 := Lib.hid (HB3.out.trans (hb4.mono (show w.heap.size + 2 ≤ w3.heap.size by have := HB3.out.size; omega)))
      replace K := (hb4.block w.heap.size (by have := HB3.out.size; omega)).trans K
      clear p0 p1 p2 p3 p4 p5 hb4
      obtain ⟨p0, p1, p2, p3, p4, p5⟩ := SetAt.of (x := ⟨xc, xr, xsl, xl, xt⟩) (v := vl) K
      simp only [SetC.val] at *
      obtain ⟨al, cl, rfl, _⟩ := grid_cells hg4
      rw [HN.out]
      have HNN := Lib.hid (HN0.out w4 HB4.out)
      clear hg4 HS HCU HOK
      go_wp2
      go_ret2
      exact ⟨_, [], [], false, rfl, HNO.out, HNN.out, hb04⟩
end Go.Proofs.YtobpnoiienpipaaGreat

/-
  What is proved: no row that is taken of two lines is empty.
  Conditions: none.
-/
namespace Go.Proofs.YtobpnoiienpipaaGreat
set_option linter.unusedVariables false
open Go.RowKit

theorem SatRR.full {rows out : List (List C3)} {k : Nat} (h : SatRR rows k out true) : ∀ r ∈ out, r ≠ [] := by
  rcases h with ⟨_, hl, hs⟩ | ⟨e, _⟩
  · intro r hr
    obtain ⟨i, hi, rfl⟩ := List.mem_iff_getElem.1 hr
    rcases hs i hi (by omega) with ⟨_, ds, _, h1, h2⟩ | ⟨_, _, e⟩
    · rw [if_pos h1.symm] at h2
      rw [h2]
      exact rok_ne h1.symm
    · cases e
  · cases e
theorem PairR.full {xs ys : List Nat} {rows : List (List C3)} (h : PairR xs ys rows true) : ∀ r ∈ rows, r ≠ [] := by
  obtain ⟨ps, qs, o1, o2, a1, a2, ho, hy, _⟩ := h
  obtain ⟨n, _, rfl⟩ := hy rfl
  have ho' := ho.symm
  simp only [Bool.and_eq_true, decide_eq_true_eq] at ho'
  obtain ⟨e1, e2, e3⟩ := ho'
  have r1 := rok_ne (aloneRR_rok a1 e1)
  have h1 : 0 < ps.length := List.length_pos_iff.2 r1
  intro r hr
  have hlen : 0 < r.length := by
    simp only [List.mem_cons, List.mem_nil_iff, or_false] at hr
    rcases hr with rfl | rfl
    · unfold rowA; rw [List.length_zipWith]; omega
    · unfold rowB; rw [List.length_zipWith]; omega
  exact List.length_pos_iff.1 hlen
theorem TakeRR.full {xs ys : List Nat} {l k : Nat} {out : List (List C3)} (h : TakeRR xs ys l k out true) : ∀ r ∈ out, r ≠ [] := by
  obtain ⟨rows, o, h1, h⟩ := h
  rcases h with ⟨_, e, _⟩ | ⟨rfl, b, _, ⟨_, _, rfl⟩ | ⟨_, u, z, f, _, sz, o2, h4, ⟨_, e, _⟩ | ⟨ho2, h5⟩⟩⟩
  · cases e
  · intro r hr
    unfold greyL at hr
    obtain ⟨r0, h0, rfl⟩ := List.mem_map.1 hr
    have := h1.full r0 h0
    simpa using this
  · cases e
  · exact h5.full
theorem TakenK.full {L : List (List Nat)} {l k n : Nat} {out : List (List C3)} (h : TakenK L l k n out) : ∀ r ∈ out, r ≠ [] := by
  obtain ⟨T, h1, rfl⟩ := h
  intro r hr
  obtain ⟨i, hi, hr⟩ := List.mem_flatMap.1 hr
  rcases h1 i (List.mem_range.1 hi) with ⟨_, e, _⟩ | ⟨_, h2⟩
  · cases e
  · exact h2.full r hr
end Go.Proofs.YtobpnoiienpipaaGreat
