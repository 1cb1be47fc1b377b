/-
  What is proved: what the program answers of two lines that are decoded together.
  Conditions: the lines can be read.
-/
import Derived.Test.YtgecclccmmcdoaaPairD
namespace Go.Proofs.Ytgecclccmmcdoaa
set_option linter.unusedVariables false
open Go.RowKit
attribute [local go_sem] run_store_float run_store_complex unary_negf neg256

theorem GridN.none (w : World) (base : Nat) : GridN w base (.slice none 0 0) [] [] :=
  ⟨Lay.ownNil LSc w base, rfl, fun i h => absurd h (by simp), fun i j h => absurd h (by simp), fun i h => absurd h (by simp)⟩
theorem RNew.lenx {w : World} {base : Nat} {a : Option Addr} {n c : Nat} {cs : List C3} (h : RNew w base (.slice a n c) cs) : n = cs.length := by
  rcases h with ⟨e, rfl⟩ | ⟨g, cap, cur, e, _⟩
  · cases e; rfl
  · cases e; rfl
set_option maxHeartbeats 2000000 in
set_option maxRecDepth 100000 in
theorem decodePair_any (v v' : Value) (xs ys : List Nat) (w : World) (h : FRow w v xs) (h' : FRow w v' ys) (hl : xs.length ≤ 4000000) (hl' : ys.length ≤ 4000000) :
    Calls Try.prog 17 #[v, v'] w fun e w' => PairA xs ys w e w' := by
  have HB := Lib.hid (decodedAlone_any v v' xs ys w h h' hl hl')
  have HSW := fun W hr hr' => Lib.hid (swing_any v v' xs ys W hr hr' hl hl')
  have HR := Lib.hid h
  have HR' := Lib.hid h'
  obtain ⟨n, c, o, rfl⟩ := h.lenv2
  obtain ⟨n', c', o', rfl⟩ := h'.lenv2
  clear h h'
  go_enter Try.func17, Try.ntmps17
  go_wp2_with fail
  refine HB.out.mono ?_
  rintro e w1 ⟨x, y, ps, qs, o1, o2, rfl, a1, a2, nx, ny, hap, hb1⟩
  obtain ⟨xa, xn, xc, rfl⟩ := nx.lenv2
  obtain ⟨ya, yn, yc, rfl⟩ := ny.lenv2
  have HA1 := Lib.hid a1
  have HA2 := Lib.hid a2
  have HNX := Lib.hid nx
  have HNY := Lib.hid ny
  have HAP := Lib.hid hap
  obtain ⟨okk, hok⟩ : ∃ okk, (o1 && (o2 && decide (ps.length = qs.length))) = okk := ⟨_, rfl⟩
  have hxl := nx.lenx
  have hyl := ny.lenx
  cases okk with
  | false =>
    have HOK := Lib.hid hok
    have hbn : (!(o1 && o2)) = true ∨ ((o1 = true ∧ o2 = true) ∧ ((xn : Int) != (yn : Int)) = true) := by
      cases o1
      · exact .inl rfl
      · cases o2
        · exact .inl rfl
        · refine .inr ⟨⟨rfl, rfl⟩, ?_⟩
          have h1 : ps.length ≠ qs.length := by simpa using hok
          simp; omega
    have HBB := Lib.hid ((below_trans (Below.refl w.heap.size w) hb1 (Nat.le_refl _)).alloc hb1.size (.cells #[.slice xa xn xc, .slice ya yn yc] 84))
    clear a1 a2 nx ny hap HB hok hxl hyl hb1
    rcases hbn with hbn | ⟨⟨rfl, rfl⟩, hbn⟩
    · generalize (o1 && o2) = t at *
      have ht : t = false := by cases t <;> simp_all
      subst ht
      clear hbn
      go_wp2
      go_ret2
      exact ⟨_, [], [], false, rfl, ⟨ps, qs, o1, o2, HA1.out, HA2.out, HOK.out.symm, (fun h => by cases h), fun _ => rfl⟩, GridN.none _ _, HBB.out⟩
    · go_wp2
      go_ret2
      exact ⟨_, [], [], false, rfl, ⟨ps, qs, _, _, HA1.out, HA2.out, HOK.out.symm, (fun h => by cases h), fun _ => rfl⟩, GridN.none _ _, HBB.out⟩
  | true =>
    have hok2 := hok
    rw [Bool.and_eq_true, Bool.and_eq_true, decide_eq_true_iff] at hok2
    obtain ⟨rfl, rfl, hlen⟩ := hok2
    have r1 := aloneRR_rok a1 rfl
    have r2 := aloneRR_rok a2 rfl
    have f1 := aloneRR_fit a1
    have f2 := aloneRR_fit a2
    obtain ⟨gx, cx, ex, hcx, hbx, hgx⟩ := nx.some (rok_ne r1)
    obtain ⟨gy, cy, ey, hcy, hby, hgy⟩ := ny.some (rok_ne r2)
    rw [← hlen] at ey hcy
    cases ex
    cases ey
    have hl64 : ps.length ≤ 64 := (rok_iff.1 r1).1.2
    have hne : gx ≠ gy := fun e => hap gx rfl (by rw [e]; rfl)
    have hbn : ((ps.length : Int) != (ps.length : Int)) = false := by simp
    have HFIN := Lib.hid (fun k (hk : k < ps.length) (hkq : k < qs.length) => And.intro ((rok_iff.1 r1).2 _ (List.getElem_mem hk)) (And.intro ((rok_iff.1 r2).2 _ (List.getElem_mem hkq)) (And.intro (f1 _ (List.getElem_mem hk)).2.2 (f2 _ (List.getElem_mem hkq)).2.2)))
    have HLEN := Lib.hid hlen
    have HOK := Lib.hid hok
    obtain ⟨B, hB⟩ : ∃ B, w1.heap.size = B := ⟨_, rfl⟩
    obtain ⟨w2, hw2⟩ : ∃ w2, w1.alloc (.cells #[.slice (some ⟨gx, 0, none⟩) ps.length xc, .slice (some ⟨gy, 0, none⟩) ps.length yc] 84) = w2 := ⟨_, rfl⟩
    have hT : Two w2 B 84 (.slice (some ⟨gx, 0, none⟩) ps.length xc) (.slice (some ⟨gy, 0, none⟩) ps.length yc) := by rw [← hB, ← hw2]; exact heap_alloc_new w1 _
    have hb2 : Below w.heap.size w w2 := by rw [← hw2]; exact hb1.alloc hb1.size _
    have hb12 : Below w1.heap.size w1 w2 := by rw [← hw2]; exact (Below.refl _ _).alloc (Nat.le_refl _) _
    have HX2 := Lib.hid (nx.below hb12)
    have HY2 := Lib.hid (ny.below hb12)
    have hwB : w.heap.size ≤ B := by have := hb1.size; omega
    have hgxB : gx < B := by omega
    have hgyB : gy < B := by omega
    have hB2 : B < w2.heap.size := hT.lt
    clear a1 a2 nx ny hap HB hok hxl hyl r1 r2 f1 f2 hlen HNX HNY HAP hcy
    have HTT := Lib.hid hT
    have c0 := HTT.out.c0
    have c1 := HTT.out.c1
    clear hT
    go_wp2_with fail
    refine (HSW w2 (HR.out.below hb2) (HR'.out.below hb2)).out.mono ?_
    rintro e w3 ⟨m, rfl, hm, hb3⟩
    have HM := Lib.hid hm
    have hT3 := Lib.hid (HTT.out.below hb3)
    have hb03 := below_trans hb2 hb3 hb2.size
    have HKS := Lib.hid (show PairK w m gx xc gy yc ps qs 0 w3 from ⟨hb03, by simpa using HX2.out.below hb3, by simpa using HY2.out.below hb3⟩)
    have HSH := Lib.hid (shared_any m w3)
    clear c0 c1 hm HTT HSW HX2 HY2 hb3 hb2 hb12 hw2 hB HR HR'
    go_wp2_with fail
    refine HSH.out.mono ?_
    rintro e w4 ⟨kf, hkf, rfl, hmix, rfl⟩
    have HMX := Lib.hid (fun k (hk : k < ps.length) (hkq : k < qs.length) W => Lib.hid (hmix.at ps[k] qs[k] W (HFIN.out k hk hkq).1.2.1 (HFIN.out k hk hkq).1.2.2 (HFIN.out k hk hkq).2.1.2.1 (HFIN.out k hk hkq).2.1.2.2 (HFIN.out k hk hkq).2.2.1 (HFIN.out k hk hkq).2.2.2))
    clear hmix HFIN HSH
    have c0 := hT3.out.c0
    have c1 := hT3.out.c1
    rcases hkf with rfl | rfl | rfl
    all_goals
      go_wp2
      go_loopw [36] (fun i wr => ∃ k : Nat, k ≤ ps.length ∧ i = .int .i64 (k : Int) ∧ PairK w m gx xc gy yc ps qs k wr ∧ Two wr B 84 (.slice (some ⟨gx, 0, none⟩) ps.length xc) (.slice (some ⟨gy, 0, none⟩) ps.length yc)) (fun i _ => ps.length - (intOf i).toNat)
      case atStart => exact ⟨0, Nat.zero_le _, rfl, HKS.out, hT3.out⟩
      case round =>
        clear c0 c1 HKS hT3 hb03
        obtain ⟨k, hk, rfl, hp, ht⟩ := hrel
        have HP := Lib.hid hp
        have HT := Lib.hid ht
        clear hp ht
        have c0 := HT.out.c0
        have c1 := HT.out.c1
        by_cases hlt : k < ps.length
        · have hltq : k < qs.length := by have := HLEN.out; omega
          obtain ⟨⟨x1, x2⟩, y1, y2⟩ := HP.out.rd HLEN.out hlt hltq
          have HN := fun N => (HP.out.drewN N).next HLEN.out hlt hltq hne
          have HK := HMX.out k hlt hltq
          generalize (sh m ps[k].2 qs[k].2).1 = s1 at *
          generalize (sh m ps[k].2 qs[k].2).2 = s2 at *
          generalize ps[k] = c at *
          generalize qs[k] = d at *
          have HNN := Lib.hid HN
          have HTD := Lib.hid (fun N z z' => (show Two (wr.drewN N) B _ _ _ from HT.out).far (c := gx) (i := k * 2 + 1) (z := z) (by omega) |>.far (c := gy) (i := k * 2 + 1) (z := z') (by omega))
          clear HN HMX
          go_wp2
          go_quiet (first | (go_at_call 102; exact qt_one (HK _).out) | (go_at_call 105; exact qt_one (HK _).out) | (go_at_call 106; exact qt_one (HK _).out))
          clear HK
          go_wp2
          go_roundw
          case rel => exact ⟨k + 1, by omega, by go_num, HNN.out _, HTD.out _ _ _⟩
          case measure => simp [intOf]; omega
        · have hkk : k = ps.length := by omega
          subst hkk
          have HOWN := Lib.hid ((Lay.own0 LSc wr).mono HP.out.below.size)
          have HLC := Lib.hid (show ∀ j u, (LSc.cells [(some ⟨gx, 0, none⟩, ps.length, xc), (some ⟨gy, 0, none⟩, ps.length, yc)])[j]? = some u → (wr.alloc (.cells #[] 36)).cell? ⟨B, 0 + j, none⟩ = some u from by
            intro j u hu
            have hT := HT.out.below ((Below.refl wr.heap.size wr).alloc (Nat.le_refl _) (.cells #[] 36))
            rcases j with _ | _ | j
            · rw [← hu]; exact hT.c0
            · rw [← hu]; exact hT.c1
            · cases hu)
          have hsz := HP.out.below.size
          have HPB := Lib.hid (fun (w6 : World) (g6 cap6 : Nat) ho hg hor => HP.out.done (w6 := w6) (g6 := g6) (cap6 := cap6) HLEN.out hne ho (.cells #[] 36) hg hor)
          clear HMX
          go_wp2_with (at_builtin; refine LSc_ok.append rfl (.tmp 66) (.tmp 67) rfl w.heap.size (.slice (some ⟨wr.heap.size, 0, none⟩) 0 0) [] [(some ⟨gx, 0, none⟩, ps.length, xc), (some ⟨gy, 0, none⟩, ps.length, yc)] 0 rfl HOWN.out rfl B 0 2 2 rfl rfl HLC.out (by decide) (by decide) (by simp; omega) ?_; intro g6 cap6 w6 ho6 hg6 hor6 hlt6)
          have HF := Lib.hid (HPB.out w6 g6 cap6 ho6 hg6 (by
            rcases hor6 with h | h
            · exact .inl (Option.some.inj h).symm
            · simp at h; exact .inr h))
          clear ho6 hg6 hor6 hlt6
          go_ret2
          exact ⟨_, _, _, true, rfl, ⟨ps, qs, _, _, HA1.out, HA2.out, HOK.out.symm, (fun _ => ⟨m, HM.out, rfl⟩), (fun h => by cases h)⟩, HF.out.1, HF.out.2⟩
end Go.Proofs.Ytgecclccmmcdoaa
