/-
  What is proved: what the model answers of two lines that are decoded together.
  Conditions: the lines can be read.
-/
import Derived.Test.YtgecclccmmcdoaaImplPair
namespace Go.Proofs.Ytgecclccmmcdoaa
set_option linter.unusedVariables false
open Go.RowKit
attribute [local go_sem] run_store_float run_store_complex unary_negf neg256

theorem SwingR.tri {xs ys : List Nat} {n : Int} (h : SwingR xs ys n) : n = 1 ∨ n = -1 ∨ n = 0 := by
  obtain ⟨p, q, p', q', o1, o2, _, _, rfl⟩ := h
  split
  · unfold swing
    split
    · exact .inl rfl
    · split
      · exact .inr (.inl rfl)
      · exact .inr (.inr rfl)
  · exact .inr (.inr rfl)
theorem own_two (wr : World) (base : Nat) (s t : SV) (hb : base ≤ wr.heap.size) : LSc.Own (wr.alloc (.cells #[s.v, t.v] 36)) base (.slice (some ⟨wr.heap.size, 0, none⟩) 2 2) [s, t] :=
  ⟨rfl, .inr ⟨wr.heap.size, 2, #[s.v, t.v], rfl, hb, heap_alloc_new wr _, Nat.le_refl _, by unfold maxLen; decide, rfl, rfl⟩⟩
set_option maxHeartbeats 4000000 in
set_option maxRecDepth 100000 in
theorem specPair_any (v v' : Value) (xs ys : List Nat) (w : World) (h : FRow w v xs) (h' : FRow w v' ys) (hl : xs.length ≤ 4000000) (hl' : ys.length ≤ 4000000) :
    Calls Try.prog 44 #[v, v'] w fun e w' => PairA xs ys w e w' := by
  have H1 := Lib.hid (specAlone_any v xs false w h hl)
  have H2 := fun W hW => Lib.hid (specAlone_any v' ys false W hW hl')
  have HSW := fun W hr hr' => Lib.hid (specSwing_any v v' xs ys W hr hr' hl hl')
  have HR := Lib.hid h
  have HR' := Lib.hid h'
  obtain ⟨n, c, o, rfl⟩ := h.lenv2
  obtain ⟨n', c', o', rfl⟩ := h'.lenv2
  clear h h'
  go_enter Try.func44, Try.ntmps44
  go_wp2_with fail
  refine H1.out.mono ?_
  rintro e w0 ⟨x, ps, o1, rfl, a1, nx0, hb0⟩
  obtain ⟨xa, xn, xc, rfl⟩ := nx0.lenv2
  go_wp2_with fail
  refine (H2 w0 (HR'.out.below hb0)).out.mono ?_
  rintro e w1 ⟨y, qs, o2, rfl, a2, ny, hb01⟩
  obtain ⟨ya, yn, yc, rfl⟩ := ny.lenv2
  have hb1 := below_trans hb0 hb01 hb0.size
  have nx := nx0.below hb01
  have hap : ∀ j, (Value.slice xa xn xc).ownBlock = some j → (Value.slice ya yn yc).ownBlock ≠ some j := fun j h1 h2 => by
    have := (nx0.lt j h1).2
    have := (ny.lt j h2).1
    omega
  replace ny := ny.mono hb0.size
  have HA1 := Lib.hid a1
  have HA2 := Lib.hid a2
  obtain ⟨okk, hok⟩ : ∃ okk, (o1 && (o2 && decide (ps.length = qs.length))) = okk := ⟨_, rfl⟩
  have hxl := nx.lenx
  have hyl := ny.lenx
  clear H1 H2 nx0 hb0 hb01
  cases okk with
  | false =>
    have HOK := Lib.hid hok
    have hbn : o1 = false ∨ (o1 = true ∧ o2 = false) ∨ ((o1 = true ∧ o2 = true) ∧ ((xn : Int) != (yn : Int)) = true) := by
      cases o1
      · exact .inl rfl
      · cases o2
        · exact .inr (.inl ⟨rfl, rfl⟩)
        · refine .inr (.inr ⟨⟨rfl, rfl⟩, ?_⟩)
          have h1 : ps.length ≠ qs.length := by simpa using hok
          simp; omega
    have HE := Lib.hid (GridC.nil w1).new
    have hsz := hb1.size
    have HBB := Lib.hid (hb1.alloc hb1.size (.cells #[] 36))
    clear a1 a2 nx ny hap hok hxl hyl hb1
    rcases hbn with rfl | ⟨rfl, rfl⟩ | ⟨⟨rfl, rfl⟩, hbn⟩
    all_goals
      go_wp2
      go_ret2
      exact ⟨_, [], [], false, rfl, ⟨ps, qs, _, _, HA1.out, HA2.out, HOK.out.symm, (fun h => by cases h), fun _ => rfl⟩, HE.out.mono hsz, HBB.out⟩
  | true =>
    have hok2 := hok
    rw [Bool.and_eq_true, Bool.and_eq_true, decide_eq_true_iff] at hok2
    obtain ⟨rfl, rfl, hlen⟩ := hok2
    have r1 := aloneRR_rok a1 rfl
    have r2 := aloneRR_rok a2 rfl
    have f1 := aloneRR_fit a1
    have f2 := aloneRR_fit a2
    obtain ⟨gx, cx, ex, hcx, hbx, hgx⟩ := nx.some (rok_ne r1)
    obtain ⟨gy, cy, ey, hcy, hby, hgy⟩ := ny.some (rok_ne r2)
    rw [← hlen] at ey hcy
    cases ex
    cases ey
    have hl64 : ps.length ≤ 64 := (rok_iff.1 r1).1.2
    have hne : gx ≠ gy := fun e => hap gx rfl (by rw [e]; rfl)
    have hbn : ((ps.length : Int) != (ps.length : Int)) = false := by simp
    have HFIN := Lib.hid (fun k (hk : k < ps.length) (hkq : k < qs.length) => And.intro ((rok_iff.1 r1).2 _ (List.getElem_mem hk)) (And.intro ((rok_iff.1 r2).2 _ (List.getElem_mem hkq)) (And.intro (f1 _ (List.getElem_mem hk)).2.2 (f2 _ (List.getElem_mem hkq)).2.2)))
    have HLEN := Lib.hid hlen
    have HOK := Lib.hid hok
    have HNX := Lib.hid nx
    have HNY := Lib.hid ny
    clear a1 a2 nx ny hap hok hxl hyl r1 r2 f1 f2 hlen
    go_wp2_with fail
    refine (HSW w1 (HR.out.below hb1) (HR'.out.below hb1)).out.mono ?_
    rintro e w3 ⟨m, rfl, hm, hb3⟩
    have HM := Lib.hid hm
    have hb03 := below_trans hb1 hb3 hb1.size
    have HKS := Lib.hid (show PairK w m gx xc gy yc ps qs 0 w3 from ⟨hb03, by simpa using HNX.out.below hb3, by simpa using HNY.out.below hb3⟩)
    have hm3 := hm.tri
    clear hm HSW HNX HNY hb3 HR HR'
    rcases hm3 with rfl | rfl | rfl
    · go_wp2
      go_loopw [11] (fun i wr => ∃ k : Nat, k ≤ ps.length ∧ i = .int .i64 (k : Int) ∧ PairK w (1) gx xc gy yc ps qs k wr) (fun i _ => ps.length - (intOf i).toNat)
      case atStart => exact ⟨0, Nat.zero_le _, rfl, HKS.out⟩
      case round =>
        clear HKS hb03
        obtain ⟨k, hk, rfl, hp⟩ := hrel
        have HP := Lib.hid hp
        clear hp
        by_cases hlt : k < ps.length
        · have hltq : k < qs.length := by have := HLEN.out; omega
          obtain ⟨⟨x1, x2⟩, y1, y2⟩ := HP.out.rd HLEN.out hlt hltq
          have HN := HP.out.next HLEN.out hlt hltq hne
          obtain ⟨fx, fy, bx, bxy⟩ := HFIN.out k hlt hltq
          clear HFIN
          rw [show sh (1) ps[k].2 qs[k].2 = (Flt.half ps[k].2.1 qs[k].2.1, Flt.half ps[k].2.2 (Op.negFloat .f32 qs[k].2.2)) from if_pos rfl] at HN
          have HNN := Lib.hid HN
          clear HN
          generalize ps[k] = c at *
          generalize qs[k] = d at *
          have HU := fun W => Lib.hid (l02Half_any c.2.1 d.2.1 W fx.2.1 fy.2.1)
          have HV := fun W => Lib.hid (l02Half_any c.2.2 (Op.negFloat .f32 d.2.2) W fx.2.2 (Flt.fin_neg bxy fy.2.2))
          have HC := fun W => Lib.hid (conjD_any d.2.1 d.2.2 W)
          clear fx fy bx bxy
          go_wp2_with (first | (go_at_call 88; refine (HC _).out.mono ?_; rintro e w5 ⟨rfl, rfl⟩) | (go_at_call 89; refine (HU _).out.mono ?_; rintro e w5 ⟨rfl, rfl⟩) | (go_at_call 89; refine (HV _).out.mono ?_; rintro e w5 ⟨rfl, rfl⟩))
          go_roundw
          case rel => exact ⟨k + 1, by omega, by go_num, HNN.out⟩
          case measure => simp [intOf]; omega
        · have hkk : k = ps.length := by omega
          subst hkk
          have HD := Lib.hid (HP.out.done (w6 := wr.alloc (.cells #[.slice (some ⟨gx, 0, none⟩) ps.length xc, .slice (some ⟨gy, 0, none⟩) ps.length yc] 36)) (g6 := wr.heap.size) (cap6 := 2) HLEN.out hne (own_two wr w.heap.size (some ⟨gx, 0, none⟩, ps.length, xc) (some ⟨gy, 0, none⟩, ps.length, yc) HP.out.below.size) (.cells #[.slice (some ⟨gx, 0, none⟩) ps.length xc, .slice (some ⟨gy, 0, none⟩) ps.length yc] 36) (World.grownBy.refl _ _) (.inl rfl))
          clear HFIN
          go_wp2
          go_ret2
          exact ⟨_, _, _, true, rfl, ⟨ps, qs, _, _, HA1.out, HA2.out, HOK.out.symm, (fun _ => ⟨_, HM.out, rfl⟩), (fun h => by cases h)⟩, HD.out.1, HD.out.2⟩
    · go_wp2
      go_loopw [11] (fun i wr => ∃ k : Nat, k ≤ ps.length ∧ i = .int .i64 (k : Int) ∧ PairK w (-1) gx xc gy yc ps qs k wr) (fun i _ => ps.length - (intOf i).toNat)
      case atStart => exact ⟨0, Nat.zero_le _, rfl, HKS.out⟩
      case round =>
        clear HKS hb03
        obtain ⟨k, hk, rfl, hp⟩ := hrel
        have HP := Lib.hid hp
        clear hp
        by_cases hlt : k < ps.length
        · have hltq : k < qs.length := by have := HLEN.out; omega
          obtain ⟨⟨x1, x2⟩, y1, y2⟩ := HP.out.rd HLEN.out hlt hltq
          have HN := HP.out.next HLEN.out hlt hltq hne
          obtain ⟨fx, fy, bx, bxy⟩ := HFIN.out k hlt hltq
          clear HFIN
          rw [show sh (-1) ps[k].2 qs[k].2 = (Flt.half ps[k].2.1 qs[k].2.1, Flt.half (Op.negFloat .f32 ps[k].2.2) qs[k].2.2) from (if_neg (by decide)).trans (if_pos rfl)] at HN
          have HNN := Lib.hid HN
          clear HN
          generalize ps[k] = c at *
          generalize qs[k] = d at *
          have HU := fun W => Lib.hid (l02Half_any c.2.1 d.2.1 W fx.2.1 fy.2.1)
          have HV := fun W => Lib.hid (l02Half_any (Op.negFloat .f32 c.2.2) d.2.2 W (Flt.fin_neg bx fx.2.2) fy.2.2)
          have HC := fun W => Lib.hid (conjD_any c.2.1 c.2.2 W)
          clear fx fy bx bxy
          go_wp2_with (first | (go_at_call 88; refine (HC _).out.mono ?_; rintro e w5 ⟨rfl, rfl⟩) | (go_at_call 89; refine (HU _).out.mono ?_; rintro e w5 ⟨rfl, rfl⟩) | (go_at_call 89; refine (HV _).out.mono ?_; rintro e w5 ⟨rfl, rfl⟩))
          go_roundw
          case rel => exact ⟨k + 1, by omega, by go_num, HNN.out⟩
          case measure => simp [intOf]; omega
        · have hkk : k = ps.length := by omega
          subst hkk
          have HD := Lib.hid (HP.out.done (w6 := wr.alloc (.cells #[.slice (some ⟨gx, 0, none⟩) ps.length xc, .slice (some ⟨gy, 0, none⟩) ps.length yc] 36)) (g6 := wr.heap.size) (cap6 := 2) HLEN.out hne (own_two wr w.heap.size (some ⟨gx, 0, none⟩, ps.length, xc) (some ⟨gy, 0, none⟩, ps.length, yc) HP.out.below.size) (.cells #[.slice (some ⟨gx, 0, none⟩) ps.length xc, .slice (some ⟨gy, 0, none⟩) ps.length yc] 36) (World.grownBy.refl _ _) (.inl rfl))
          clear HFIN
          go_wp2
          go_ret2
          exact ⟨_, _, _, true, rfl, ⟨ps, qs, _, _, HA1.out, HA2.out, HOK.out.symm, (fun _ => ⟨_, HM.out, rfl⟩), (fun h => by cases h)⟩, HD.out.1, HD.out.2⟩
    · go_wp2
      go_loopw [11] (fun i wr => ∃ k : Nat, k ≤ ps.length ∧ i = .int .i64 (k : Int) ∧ PairK w (0) gx xc gy yc ps qs k wr) (fun i _ => ps.length - (intOf i).toNat)
      case atStart => exact ⟨0, Nat.zero_le _, rfl, HKS.out⟩
      case round =>
        clear HKS hb03
        obtain ⟨k, hk, rfl, hp⟩ := hrel
        have HP := Lib.hid hp
        clear hp
        by_cases hlt : k < ps.length
        · have hltq : k < qs.length := by have := HLEN.out; omega
          obtain ⟨⟨x1, x2⟩, y1, y2⟩ := HP.out.rd HLEN.out hlt hltq
          have HN := HP.out.next HLEN.out hlt hltq hne
          obtain ⟨fx, fy, bx, bxy⟩ := HFIN.out k hlt hltq
          clear HFIN
          rw [show sh (0) ps[k].2 qs[k].2 = (0, 0) from (if_neg (by decide)).trans (if_neg (by decide))] at HN
          have HNN := Lib.hid HN
          clear HN
          generalize ps[k] = c at *
          generalize qs[k] = d at *
          have HU := fun W => Lib.hid (l02Half_any c.2.1 d.2.1 W fx.2.1 fy.2.1)
          have HV := fun W => Lib.hid (l02Half_any c.2.2 d.2.2 W fx.2.2 fy.2.2)
          have HC := fun W => Lib.hid (conjD_any c.2.1 c.2.2 W)
          clear fx fy bx bxy
          go_wp2_with (first | (go_at_call 88; refine (HC _).out.mono ?_; rintro e w5 ⟨rfl, rfl⟩) | (go_at_call 89; refine (HU _).out.mono ?_; rintro e w5 ⟨rfl, rfl⟩) | (go_at_call 89; refine (HV _).out.mono ?_; rintro e w5 ⟨rfl, rfl⟩))
          go_roundw
          case rel => exact ⟨k + 1, by omega, by go_num, HNN.out⟩
          case measure => simp [intOf]; omega
        · have hkk : k = ps.length := by omega
          subst hkk
          have HD := Lib.hid (HP.out.done (w6 := wr.alloc (.cells #[.slice (some ⟨gx, 0, none⟩) ps.length xc, .slice (some ⟨gy, 0, none⟩) ps.length yc] 36)) (g6 := wr.heap.size) (cap6 := 2) HLEN.out hne (own_two wr w.heap.size (some ⟨gx, 0, none⟩, ps.length, xc) (some ⟨gy, 0, none⟩, ps.length, yc) HP.out.below.size) (.cells #[.slice (some ⟨gx, 0, none⟩) ps.length xc, .slice (some ⟨gy, 0, none⟩) ps.length yc] 36) (World.grownBy.refl _ _) (.inl rfl))
          clear HFIN
          go_wp2
          go_ret2
          exact ⟨_, _, _, true, rfl, ⟨ps, qs, _, _, HA1.out, HA2.out, HOK.out.symm, (fun _ => ⟨_, HM.out, rfl⟩), (fun h => by cases h)⟩, HD.out.1, HD.out.2⟩
end Go.Proofs.Ytgecclccmmcdoaa
