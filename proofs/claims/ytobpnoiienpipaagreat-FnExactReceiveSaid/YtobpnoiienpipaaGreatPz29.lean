/-
  What is proved: what the program answers of two lines that are decoded together.
  Conditions: the lines can be read.
-/
import Derived.Test.YtobpnoiienpipaaGreatPz26
import Derived.Test.YtobpnoiienpipaaGreatPz28
import Derived.Test.YtobpnoiienpipaaGreatPz06
import Derived.Test.YtobpnoiienpipaaGreatRows
import Derived.WalkKit
import Derived.WalkSpells
import Derived.WalkLawsBesides
import Derived.Lib.ItoaNum
import Derived.Lib.ItoaLen
namespace Go.Proofs.YtobpnoiienpipaaGreat
set_option linter.unusedVariables false
open Go.RowKit
attribute [local go_sem] run_store_float run_store_complex unary_negf neg256

theorem GridN.none0 (w : World) (base : Nat) : GridN w base (.slice none 0 0) [] [] :=
  ⟨Lay.ownNil LSc w base, rfl, fun i h => absurd h (by simp), fun i j h => absurd h (by simp), fun i h => absurd h (by simp)⟩
theorem RNew.lenx {w : World} {base : Nat} {a : Option Addr} {n c : Nat} {cs : List C3} (h : RNew w base (.slice a n c) cs) : n = cs.length := by
  rcases h with ⟨e, rfl⟩ | ⟨g, cap, cur, e, _⟩
  · cases e; rfl
  · cases e; rfl
set_option maxHeartbeats 2000000 in
set_option maxRecDepth 100000 in
theorem decodePair_any (v v' : Value) (xs ys : List Nat) (w : World) (h : FRow w v xs) (h' : FRow w v' ys) (hl : xs.length ≤ 4000000) (hl' : ys.length ≤ 4000000) :
    Calls Tryz.prog 128 #[v, v'] w fun e w' => PairA xs ys w e w' := by
  have HB := Lib.hid (decodedAlone_any v v' xs ys w h h' hl hl')
  have HSW := fun W hr hr' => Lib.hid (swing_any v v' xs ys W hr hr' hl hl')
  have HR := Lib.hid h
  have HR' := Lib.hid h'
  obtain ⟨n, c, o, rfl⟩ := h.lenv2
  obtain ⟨n', c', o', rfl⟩ := h'.lenv2
  clear h h'
  go_enter Tryz.func128, Tryz.ntmps128
  go_wp2_with fail
  refine HB.out.mono ?_
  rintro e w1 ⟨x, y, ps, qs, o1, o2, rfl, a1, a2, nx, ny, hap, hb1⟩
  obtain ⟨xa, xn, xc, rfl⟩ := nx.lenv2
  obtain ⟨ya, yn, yc, rfl⟩ := ny.lenv2
  have HA1 := Lib.hid a1
  have HA2 := Lib.hid a2
  have HNX := Lib.hid nx
  have HNY := Lib.hid ny
  have HAP := Lib.hid hap
  obtain ⟨okk, hok⟩ : ∃ okk, (o1 && (o2 && decide (ps.length = qs.length))) = okk := ⟨_, rfl⟩
  have hxl := nx.lenx
  have hyl := ny.lenx
  cases okk with
  | false =>
    have HOK := Lib.hid hok
    have hbn : (!(o1 && o2)) = true ∨ ((o1 = true ∧ o2 = true) ∧ ((xn : Int) != (yn : Int)) = true) := by
      cases o1
      · exact .inl rfl
      · cases o2
        · exact .inl rfl
        · refine .inr ⟨⟨rfl, rfl⟩, ?_⟩
          have h1 : ps.length ≠ qs.length := by simpa using hok
          simp; omega
    have HBB := Lib.hid ((below_trans (Below.refl w.heap.size w) hb1 (Nat.le_refl _)).alloc hb1.size (.cells #[.slice xa xn xc, .slice ya yn yc] 166))
    clear a1 a2 nx ny hap HB hok hxl hyl hb1
    rcases hbn with hbn | ⟨⟨rfl, rfl⟩, hbn⟩
    · generalize (o1 && o2) = t at *
      have ht : t = false := by cases t <;> simp_all
      subst ht
      clear hbn
      go_wp2
      go_ret2
      exact ⟨_, [], [], false, rfl, ⟨ps, qs, o1, o2, HA1.out, HA2.out, HOK.out.symm, (fun h => by cases h), fun _ => rfl⟩, GridN.none0 _ _, HBB.out⟩
    · go_wp2
      go_ret2
      exact ⟨_, [], [], false, rfl, ⟨ps, qs, _, _, HA1.out, HA2.out, HOK.out.symm, (fun h => by cases h), fun _ => rfl⟩, GridN.none0 _ _, HBB.out⟩
  | true =>
    have hok2 := hok
    rw [Bool.and_eq_true, Bool.and_eq_true, decide_eq_true_iff] at hok2
    obtain ⟨rfl, rfl, hlen⟩ := hok2
    have r1 := aloneRR_rok a1 rfl
    have r2 := aloneRR_rok a2 rfl
    have f1 := aloneRR_fit a1
    have f2 := aloneRR_fit a2
    obtain ⟨gx, cx, ex, hcx, hbx, hgx⟩ := nx.someD (rok_ne r1)
    obtain ⟨gy, cy, ey, hcy, hby, hgy⟩ := ny.someD (rok_ne r2)
    rw [← hlen] at ey hcy
    cases ex
    cases ey
    have hl64 : ps.length ≤ 64 := (rok_iff.1 r1).1.2
    have hne : gx ≠ gy := fun e => hap gx rfl (by rw [e]; rfl)
    have hbn : ((ps.length : Int) != (ps.length : Int)) = false := by simp
    have HFIN := Lib.hid (fun k (hk : k < ps.length) (hkq : k < qs.length) => And.intro ((rok_iff.1 r1).2 _ (List.getElem_mem hk)) (And.intro ((rok_iff.1 r2).2 _ (List.getElem_mem hkq)) (And.intro (f1 _ (List.getElem_mem hk)).2.2 (f2 _ (List.getElem_mem hkq)).2.2)))
    have HLEN := Lib.hid hlen
    have HOK := Lib.hid hok
    obtain ⟨B, hB⟩ : ∃ B, w1.heap.size = B := ⟨_, rfl⟩
    obtain ⟨w2, hw2⟩ : ∃ w2, w1.alloc (.cells #[.slice (some ⟨gx, 0, none⟩) ps.length xc, .slice (some ⟨gy, 0, none⟩) ps.length yc] 166) = w2 := ⟨_, rfl⟩
    have hT : Two w2 B 166 (.slice (some ⟨gx, 0, none⟩) ps.length xc) (.slice (some ⟨gy, 0, none⟩) ps.length yc) := by rw [← hB, ← hw2]; exact heap_alloc_new w1 _
    have hb2 : Below w.heap.size w w2 := by rw [← hw2]; exact hb1.alloc hb1.size _
    have hb12 : Below w1.heap.size w1 w2 := by rw [← hw2]; exact (Below.refl _ _).alloc (Nat.le_refl _) _
    have HX2 := Lib.hid (nx.below hb12)
    have HY2 := Lib.hid (ny.below hb12)
    have hwB : w.heap.size ≤ B := by have := hb1.size; omega
    have hgxB : gx < B := by omega
    have hgyB : gy < B := by omega
    have hB2 : B < w2.heap.size := hT.lt
    clear a1 a2 nx ny hap HB hok hxl hyl r1 r2 f1 f2 hlen HNX HNY HAP hcy
    have HTT := Lib.hid hT
    have c0 := HTT.out.c0
    have c1 := HTT.out.c1
    clear hT
    go_wp2_with fail
    refine (HSW w2 (HR.out.below hb2) (HR'.out.below hb2)).out.mono ?_
    rintro e w3 ⟨m, rfl, hm, hb3⟩
    have HM := Lib.hid hm
    have hT3 := Lib.hid (HTT.out.below hb3)
    have hb03 := below_trans hb2 hb3 hb2.size
    have HKS := Lib.hid (show PairK w m gx xc gy yc ps qs 0 w3 from ⟨hb03, by simpa using HX2.out.below hb3, by simpa using HY2.out.below hb3⟩)
    have HSH := Lib.hid (shared_any m w3)
    clear c0 c1 hm HTT HSW HX2 HY2 hb3 hb2 hb12 hw2 hB HR HR'
    go_wp2_with fail
    refine HSH.out.mono ?_
    rintro e w4 ⟨kf, hkf, rfl, hmix, rfl⟩
    have HMX := Lib.hid (fun k (hk : k < ps.length) (hkq : k < qs.length) W => Lib.hid (hmix.at ps[k] qs[k] W (HFIN.out k hk hkq).1.2.1 (HFIN.out k hk hkq).1.2.2 (HFIN.out k hk hkq).2.1.2.1 (HFIN.out k hk hkq).2.1.2.2 (HFIN.out k hk hkq).2.2.1 (HFIN.out k hk hkq).2.2.2))
    clear hmix HFIN HSH
    have c0 := hT3.out.c0
    have c1 := hT3.out.c1
    rcases hkf with rfl | rfl | rfl
    all_goals
      go_wp2
      go_loopw [36] (fun i wr => ∃ k : Nat, k ≤ ps.length ∧ i = .int .i64 (k : Int) ∧ PairK w m gx xc gy yc ps qs k wr ∧ Two wr B 166 (.slice (some ⟨gx, 0, none⟩) ps.length xc) (.slice (some ⟨gy, 0, none⟩) ps.length yc)) (fun i _ => ps.length - (intOf i).toNat)
      case atStart => exact ⟨0, Nat.zero_le _, rfl, HKS.out, hT3.out⟩
      case round =>
        clear c0 c1 HKS hT3 hb03
        obtain ⟨k, hk, rfl, hp, ht⟩ := hrel
        have HP := Lib.hid hp
        have HT := Lib.hid ht
        clear hp ht
        have c0 := HT.out.c0
        have c1 := HT.out.c1
        by_cases hlt : k < ps.length
        · have hltq : k < qs.length := by have := HLEN.out; omega
          obtain ⟨⟨x1, x2⟩, y1, y2⟩ := HP.out.rd HLEN.out hlt hltq
          have HN := fun N => (HP.out.drewN N).next HLEN.out hlt hltq hne
          have HK := HMX.out k hlt hltq
          generalize (sh m ps[k].2 qs[k].2).1 = s1 at *
          generalize (sh m ps[k].2 qs[k].2).2 = s2 at *
          generalize ps[k] = c at *
          generalize qs[k] = d at *
          have HNN := Lib.hid HN
          have HTD := Lib.hid (fun N z z' => (show Two (wr.drewN N) B _ _ _ from HT.out).far (c := gx) (i := k * 2 + 1) (z := z) (by omega) |>.far (c := gy) (i := k * 2 + 1) (z := z') (by omega))
          clear HN HMX
          go_wp2
          go_quiet (first | (go_at_call 164; exact qt_one (HK _).out) | (go_at_call 167; exact qt_one (HK _).out) | (go_at_call 168; exact qt_one (HK _).out))
          clear HK
          go_wp2
          go_roundw
          case rel => exact ⟨k + 1, by omega, by go_num, HNN.out _, HTD.out _ _ _⟩
          case measure => simp [intOf]; omega
        · have hkk : k = ps.length := by omega
          subst hkk
          have HOWN := Lib.hid ((Lay.own0 LSc wr).mono HP.out.below.size)
          have HLC := Lib.hid (show ∀ j u, (LSc.cells [(some ⟨gx, 0, none⟩, ps.length, xc), (some ⟨gy, 0, none⟩, ps.length, yc)])[j]? = some u → (wr.alloc (.cells #[] 40)).cell? ⟨B, 0 + j, none⟩ = some u from by
            intro j u hu
            have hT := HT.out.below ((Below.refl wr.heap.size wr).alloc (Nat.le_refl _) (.cells #[] 40))
            rcases j with _ | _ | j
            · rw [← hu]; exact hT.c0
            · rw [← hu]; exact hT.c1
            · cases hu)
          have hsz := HP.out.below.size
          have HPB := Lib.hid (fun (w6 : World) (g6 cap6 : Nat) ho hg hor => HP.out.done (w6 := w6) (g6 := g6) (cap6 := cap6) HLEN.out hne ho (.cells #[] 40) hg hor)
          clear HMX
          go_wp2_with (at_builtin; refine LSc_ok.append rfl (.tmp 66) (.tmp 67) rfl w.heap.size (.slice (some ⟨wr.heap.size, 0, none⟩) 0 0) [] [(some ⟨gx, 0, none⟩, ps.length, xc), (some ⟨gy, 0, none⟩, ps.length, yc)] 0 rfl HOWN.out rfl B 0 2 2 rfl rfl HLC.out (by decide) (by decide) (by simp; omega) ?_; intro g6 cap6 w6 ho6 hg6 hor6 hlt6)
          have HF := Lib.hid (HPB.out w6 g6 cap6 ho6 hg6 (by
            rcases hor6 with h | h
            · exact .inl (Option.some.inj h).symm
            · simp at h; exact .inr h))
          clear ho6 hg6 hor6 hlt6
          go_ret2
          exact ⟨_, _, _, true, rfl, ⟨ps, qs, _, _, HA1.out, HA2.out, HOK.out.symm, (fun _ => ⟨m, HM.out, rfl⟩), (fun h => by cases h)⟩, HF.out.1, HF.out.2⟩
end Go.Proofs.YtobpnoiienpipaaGreat

/-
  What is proved: whether the program takes two lines' colours for killed.
  Conditions: the lines can be read.
-/
namespace Go.Proofs.YtobpnoiienpipaaGreat
set_option linter.unusedVariables false
open Go.RowKit
attribute [local go_sem] run_store_float run_store_complex unary_negf neg256

theorem hueOf_lt (x y : Nat) : hueOf x y < 2 ^ 32 := by
  unfold hueOf Flt.quov
  cases h : floatBits .quo .f32 (Flt.sumv x y) 3254779904 with
  | none => decide
  | some r => simpa [Lit.wf] using floatBits_wf h
theorem HueR.lt {xs ys : List Nat} {u z : Nat} {ok : Bool} (h : HueR xs ys u z ok) : u < 2 ^ 32 ∧ z < 2 ^ 32 := by
  obtain ⟨p, q, p', q', o1, o2, _, _, _, h1, h2⟩ := h
  cases ok with
  | true => obtain ⟨rfl, rfl⟩ := h1 rfl; exact ⟨hueOf_lt _ _, hueOf_lt _ _⟩
  | false => obtain ⟨rfl, rfl⟩ := h2 rfl; decide
theorem zero_order {x y k : Nat} {s t : Bool} {e : Int} (hx : Ieee.single.read x = .number s 0 e) (hy : Ieee.single.read y = .number t 0 e) : Ieee.single.order x k = Ieee.single.order y k := by
  unfold Ieee.Format.order
  rw [hx, hy]
  cases Ieee.single.read k with
  | nan _ _ => rfl
  | infinity _ => rfl
  | number u n j => simp [Ieee.Datum.order, Flt.signed_sg, Flt.sg]
theorem read_opp {x : Nat} (hx : x < 2 ^ 32) {s : Bool} {m : Nat} {e : Int} (h : Ieee.single.read x = .number s m e) : Ieee.single.read (Op.negFloat .f32 x) = .number (!s) m e := by
  have e : Ieee.single.read (Op.negFloat .f32 x) = (Ieee.single.read x).opposite := by
    obtain ⟨s0, r, rfl, hr⟩ := Flt.word_parts32 x hx
    rw [Flt.neg_word32 s0 r hr, Flt.read_word Ieee.single _ r (by rw [Flt.sw32]; exact hr), Flt.read_word Ieee.single s0 r (by rw [Flt.sw32]; exact hr)]
    split
    · rfl
    · split
      · rfl
      · split
        · rfl
        · rfl
  rw [e, h]; rfl
/-- max of a number and its opposite has the number's amount. -/
theorem max_opp {x : Nat} (hx : x < 2 ^ 32) (hm : ∃ k, Flt.Mag k x) : ∃ r, (∀ W ts t, (Builtin.max_ ts t #[.float .f32 x, .float .f32 (Op.negFloat .f32 x)]).run Tryz.prog W = .ok (.float .f32 r) W) ∧ ∀ k, ltb r k = ltb (amt x) k := by
  obtain ⟨_, s, m, e, hr, _⟩ := hm
  have hn := read_opp hx hr
  have ho : Ieee.single.order x (Op.negFloat .f32 x) = some (compare (Flt.sg s m) (Flt.sg (!s) m)) := by
    unfold Ieee.Format.order
    rw [hr, hn]
    simp [Ieee.Datum.order, Flt.signed_sg]
  have hz : Ieee.single.order x 0 = some (compare (Flt.sg s (m * 2 ^ (e - min e (-149)).toNat)) 0) := by
    unfold Ieee.Format.order
    rw [hr, Flt.read_zero]
    simp [Ieee.Datum.order, Flt.signed_sg, Flt.sg]
  by_cases h0 : m = 0
  · subst h0
    have ho' : FloatKind.f32.format.order x (Op.negFloat .f32 x) = some .eq := by
      show Ieee.single.order x _ = _
      rw [ho]; simp [Flt.sg]
    have hl : ltb x 0 = false := by unfold ltb; rw [hz]; simp [Flt.sg]
    refine ⟨if (FloatKind.f32.decode x).neg then Op.negFloat .f32 x else x, fun W ts t => by simp [Builtin.max_, Builtin.max2, ho'], fun k => ?_⟩
    rw [amt_no hl]
    unfold ltb
    split
    · rw [zero_order hn hr]
    · rfl
  · have hp : 0 < m * 2 ^ (e - min e (-149)).toNat := Nat.mul_pos (Nat.pos_of_ne_zero h0) (Flt.two_pos _)
    cases s with
    | true =>
      have ho' : FloatKind.f32.format.order x (Op.negFloat .f32 x) = some .lt := by
        show Ieee.single.order x _ = _
        rw [ho, Flt.cmp_lt (by simp [Flt.sg]; omega)]
      have hl : ltb x 0 = true := by unfold ltb; rw [hz, Flt.cmp_lt (by simp only [Flt.sg, if_true]; omega)]; rfl
      exact ⟨Op.negFloat .f32 x, fun W ts t => by simp [Builtin.max_, Builtin.max2, ho'], fun k => by rw [amt_yes hl]⟩
    | false =>
      have ho' : FloatKind.f32.format.order x (Op.negFloat .f32 x) = some .gt := by
        show Ieee.single.order x _ = _
        rw [ho, Flt.cmp_gt (by simp [Flt.sg]; omega)]
      have hl : ltb x 0 = false := by unfold ltb; rw [hz, Flt.cmp_gt (by simp only [Flt.sg, Bool.false_eq_true, if_false]; omega)]; rfl
      exact ⟨x, fun W ts t => by simp [Builtin.max_, Builtin.max2, ho'], fun k => by rw [amt_no hl]⟩
theorem amount_any (x : Nat) (w : World) (hx : x < 2 ^ 32) (hm : ∃ k, Flt.Mag k x) :
    Calls Tryz.prog 150 #[.float .f32 x] w fun e w' => ∃ r, e = .returned (.float .f32 r) ∧ (∀ k, ltb r k = ltb (amt x) k) ∧ w = w' := by
  obtain ⟨r, h1, h2⟩ := max_opp hx hm
  have HL := Lib.hid h2
  clear h2
  go_enter Tryz.func150, Tryz.ntmps150
  go_wp2
  go_ret
  exact ⟨r, rfl, HL.out, rfl⟩
set_option maxHeartbeats 2000000 in
theorem killed_any (v v' : Value) (xs ys : List Nat) (k : Nat) (w : World) (h : FRow w v xs) (h' : FRow w v' ys) (hl : xs.length ≤ 4000000) (hl' : ys.length ≤ 4000000) :
    Calls Tryz.prog 129 #[v, v', .float .f32 k] w fun e w' => KillA xs ys k w e w' := by
  have HH := Lib.hid (hueGain_any v v' xs ys w h h' hl hl')
  have HS := fun W hr hr' => Lib.hid (swing_any v v' xs ys W hr hr' hl hl')
  have HR := Lib.hid h
  have HR' := Lib.hid h'
  clear h h'
  go_enter Tryz.func129, Tryz.ntmps129
  go_wp2_with fail
  refine HH.out.mono ?_
  rintro e w1 ⟨u, z, ok, rfl, hu, hb1⟩
  have HU := Lib.hid hu
  have HS1 := HS w1 (HR.out.below hb1) (HR'.out.below hb1)
  have HAM := fun W => Lib.hid (amount_any u W hu.lt.1 ⟨_, hu.mag.1⟩)
  clear hu HS HH HR HR'
  go_wp2_with fail
  refine HS1.out.mono ?_
  rintro e w2 ⟨n, rfl, hn, hb2⟩
  have HN := Lib.hid hn
  have hb := below_trans hb1 hb2 hb1.size
  clear hn HS1
  by_cases h0 : n = 0
  · subst h0
    go_wp2
    go_ret
    exact ⟨true, rfl, ⟨_, _, _, _, HU.out, HN.out, by simp⟩, hb⟩
  · have hd : decide (n = 0) = false := decide_eq_false h0
    go_wp2_with fail
    refine (HAM _).out.mono ?_
    rintro e w3 ⟨r, rfl, hr, rfl⟩
    have HRR := Lib.hid (hr k)
    clear hr HAM
    cases hk : ltb r k
    all_goals
      have hk' : (FloatKind.f32.format.order r k == some .lt) = _ := hk
      go_wp2
      go_ret
      exact ⟨_, rfl, ⟨_, _, _, _, HU.out, HN.out, by rw [← HRR.out, hk]; simp [h0]⟩, hb⟩
end Go.Proofs.YtobpnoiienpipaaGreat

/-
  What is proved: what the program takes of two lines of a pair.
  Conditions: the lines can be read.
-/
namespace Go.Proofs.YtobpnoiienpipaaGreat
set_option linter.unusedVariables false
open Go.RowKit
attribute [local go_sem] run_store_float run_store_complex unary_negf neg256

set_option maxRecDepth 100000 in
set_option maxHeartbeats 4000000 in
theorem take_any (v v' : Value) (xs ys : List Nat) (l k : Nat) (w : World) (h : FRow w v xs) (h' : FRow w v' ys) (hl : xs.length ≤ 4000000) (hl' : ys.length ≤ 4000000) :
    Calls Tryz.prog 98 #[v, v', .float .f32 l, .float .f32 k] w fun e w' => TakeA xs ys l k w e w' := by
  have HP := Lib.hid (decodePair_any v v' xs ys w h h' hl hl')
  have HK := fun W hr hr' => Lib.hid (killed_any v v' xs ys l W hr hr' hl hl')
  have HH := fun W hr hr' => Lib.hid (hueGain_any v v' xs ys W hr hr' hl hl')
  have HR := Lib.hid h
  have HR' := Lib.hid h'
  obtain ⟨n, c, o, rfl⟩ := h.lenv2
  obtain ⟨n', c', o', rfl⟩ := h'.lenv2
  clear h h'
  go_enter Tryz.func98, Tryz.ntmps98
  go_wp2_with fail
  refine HP.out.mono ?_
  rintro e w1 ⟨vp, rows, sp, ok, rfl, hp, hg, hb1⟩
  obtain ⟨ap, cp, rfl, _⟩ := hg.rows.any
  have hok := hp.ok
  have hrl : rows.length ≤ 1000000 := Nat.le_trans hok.1 (by decide)
  have hrr : ∀ r ∈ rows, r.length ≤ 1000000 := fun r hr => Nat.le_trans (hok.2.1 r hr).1 (by decide)
  have HPR := Lib.hid hp
  have HGR := Lib.hid hg
  have HRR := Lib.hid hrr
  clear hok hrr
  cases ok with
  | false =>
    clear hp hg HP HK HH
    go_wp2
    go_ret2
    exact ⟨_, [], [], false, rfl, ⟨rows, false, HPR.out, .inl ⟨rfl, rfl, rfl⟩⟩, GridN.nil0 _ _, hb1⟩
  | true =>
    have HNE := Lib.hid hp.ne
    clear hp hg HP
    go_wp2_with fail
    refine (HK w1 (HR.out.below hb1) (HR'.out.below hb1)).out.mono ?_
    rintro e w2 ⟨b, rfl, hk, hb2⟩
    have HKL := Lib.hid hk
    have hb02 := below_trans hb1 hb2 hb1.size
    have HG2 := Lib.hid (HGR.out.below hb2)
    clear hk HK hb2
    cases b with
    | true =>
      have HGY := Lib.hid (greyed_rows (.slice ap sp.length cp) rows sp w2 HG2.out.rows hrl HRR.out HNE.out)
      clear HH
      go_wp2_with fail
      refine HGY.out.mono ?_
      rintro e w3 ⟨v3, so, rfl, hg3, hb3⟩
      have HG3 := Lib.hid (hg3.mono hb02.size)
      have hb03 := below_trans hb02 hb3 hb02.size
      clear hg3 HGY hb3
      go_wp2
      go_ret2
      exact ⟨_, _, so, true, rfl, ⟨rows, true, HPR.out, .inr ⟨rfl, true, HKL.out, .inl ⟨rfl, rfl, rfl⟩⟩⟩, HG3.out, hb03⟩
    | false =>
      go_wp2_with fail
      refine (HH w2 (HR.out.below hb02) (HR'.out.below hb02)).out.mono ?_
      rintro e w3 ⟨u, z, f, rfl, hu, hb3⟩
      have HU := Lib.hid hu
      have hb03 := below_trans hb02 hb3 hb02.size
      have HSZ := Lib.hid (toSize_any (.slice ap sp.length cp) rows sp u z w3 (HG2.out.below hb3).rows hrl HRR.out)
      clear hu HH hb3
      go_wp2_with fail
      refine HSZ.out.mono ?_
      rintro e w4 ⟨v4, sz, ssz, o2, rfl, hsz, hg4, hb4⟩
      obtain ⟨a4, c4, rfl, _⟩ := hg4.rows.any
      have htw := hsz.two (Nat.le_trans HPR.out.ok.1 (Nat.le_refl _))
      have HSR := Lib.hid hsz
      have hb04 := below_trans hb03 hb4 hb03.size
      cases o2 with
      | false =>
        clear hsz hg4 hb4 HSZ htw
        go_wp2
        go_ret2
        exact ⟨_, [], [], false, rfl, ⟨rows, true, HPR.out, .inr ⟨rfl, false, HKL.out, .inr ⟨rfl, u, z, f, HU.out, sz, false, HSR.out, .inl ⟨rfl, rfl, rfl⟩⟩⟩⟩, GridN.nil0 _ _, hb04⟩
      | true =>
        have HST := Lib.hid (saturate_any (.slice a4 ssz.length c4) sz ssz k w4 hg4.rows (Nat.le_trans htw.1 (by decide)) (fun r hr => Nat.le_trans (htw.2.1 r hr).1 (by decide)))
        clear hsz hg4 hb4 HSZ htw
        go_wp2_with fail
        refine HST.out.mono ?_
        rintro e w5 ⟨v5, out, so, ok, rfl, h5, hg5, hb5⟩
        have H5 := Lib.hid h5
        have HG5 := Lib.hid (hg5.mono hb04.size)
        have hb05 := below_trans hb04 hb5 hb04.size
        clear h5 hg5 hb5 HST
        go_wp2
        go_ret2
        exact ⟨_, out, so, ok, rfl, ⟨rows, true, HPR.out, .inr ⟨rfl, false, HKL.out, .inr ⟨rfl, u, z, f, HU.out, sz, true, HSR.out, .inr ⟨rfl, H5.out⟩⟩⟩⟩, HG5.out, hb05⟩
end Go.Proofs.YtobpnoiienpipaaGreat

/-
  What is proved: the walks of the functions of chapter 1 that write and read whole numbers.
  Conditions: the arguments are numbers of 64 bits, or strings of at most 1048576 bytes.
-/
namespace Go.Proofs.YtobpnoiienpipaaGreat
set_option linter.unusedVariables false
open Go.RowKit

theorem ret_int {k : IntKind} {a b : Int} (h : a = b) : Ending.returned (.int k a) = .returned (.int k b) := by rw [h]
/-- A slice of one byte, just made, as a string. -/
@[go_sem] theorem conv_one (wx : World) (z : Int) : (convert 22 9 (.slice (some ⟨wx.heap.size, 0, none⟩) 1 1)).run Tryz.prog (wx.alloc (.cells #[.int .u8 z] 5)) = .ok (.string ⟨[UInt8.ofNat z.toNat].toArray⟩) (wx.alloc (.cells #[.int .u8 z] 5)) :=
  run_convert_bytes_arg _ _ _ Tryz.underlying22 Tryz.underlying5 _ 0 1 1 [z] rfl (fun i hi => by
    obtain rfl : i = 0 := by omega
    exact World.cell?_alloc_mark _ _ _ _ _) _ Tryz.underlying9
/-- The digits that are still to come of m. -/
def pre (m : Int) : List UInt8 := if m = 0 then [] else Lib.decDigits m.natAbs
def FR (n m : Int) (l : List UInt8) : Prop := Lib.decDigits n.natAbs = pre m ++ l
theorem decDigits_step (u : Nat) (h : u ≠ 0) : Lib.decDigits u = (if u / 10 = 0 then [] else Lib.decDigits (u / 10)) ++ [UInt8.ofNat (48 + u % 10)] := by
  rw [Lib.decDigits]
  by_cases h10 : u < 10
  · rw [dif_pos h10, if_pos (by omega), Nat.mod_eq_of_lt h10]; rfl
  · rw [dif_neg h10, if_neg (by omega)]
theorem bcat (a b : List UInt8) : (⟨a.toArray⟩ : ByteArray) ++ ⟨b.toArray⟩ = ⟨(a ++ b).toArray⟩ := by
  apply ByteArray.ext; simp [ByteArray.data_append]
theorem FR.start (n : Int) (h : ¬ n = 0) : FR n n [] := by unfold FR pre; rw [if_neg h]; simp
theorem FR.step {n m : Int} {l : List UInt8} (h : FR n m l) (hm : ¬ m = 0) : FR n (m.tdiv 10) (UInt8.ofNat (48 + m.natAbs % 10) :: l) := by
  unfold FR at h ⊢
  rw [h]
  have e : (m.tdiv 10).natAbs = m.natAbs / 10 := by rw [Int.natAbs_tdiv]; rfl
  have hz : (m.tdiv 10 = 0) ↔ (m.natAbs / 10 = 0) := by omega
  unfold pre
  rw [if_neg hm, decDigits_step _ (by omega), e]
  by_cases hq : m.natAbs / 10 = 0
  · rw [if_pos hq, if_pos (hz.2 hq)]; simp
  · rw [if_neg hq, if_neg (fun h => hq (hz.1 h))]; simp
theorem FR.len {n m : Int} {l : List UInt8} (h : FR n m l) (h0 : -9223372036854775808 ≤ n) (h1 : n ≤ 9223372036854775807) : l.length ≤ 20 := by
  have h2 : (Lib.decDigits n.natAbs).length ≤ 20 := by rw [Lib.decDigits_length]; exact Lib.nDigits_le20 _ (by omega)
  unfold FR at h
  rw [h, List.length_append] at h2
  omega
theorem FR.done {n : Int} {l : List UInt8} (h : FR n 0 l) : l = Lib.decDigits n.natAbs := by
  unfold FR pre at h; rw [if_pos rfl] at h; simpa using h.symm
end Go.Proofs.YtobpnoiienpipaaGreat
