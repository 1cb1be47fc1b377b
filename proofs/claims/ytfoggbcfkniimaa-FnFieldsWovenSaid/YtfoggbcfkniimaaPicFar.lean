/-
  What is proved: what the function that draws pictures answers: a picture that lies elsewhere than the cursor.
  Conditions: the cursor's block holds a cursor; the bytes that they draw from can be read.
-/
import Derived.Test.YtfoggbcfkniimaaPicDraw
namespace Go.Proofs.Ytfoggbcfkniimaa.Far
set_option linter.unusedVariables false
open Go.RowKit
attribute [local go_sem] run_store_float run_store_complex unary_negf neg256

def PicDraw (b : Nat) (w : World) (e : Ending) (w' : World) : Prop := ∃ v rs, (Thin rs ∧ rs.length ≤ 1000) ∧ e = .returned v ∧ (PicV w' v rs ∧ ∀ g o n c, v = .slice (some ⟨g, o, none⟩) n c → g ≠ b) ∧ Cur w' b ∧ w.grownBy w' (some b)
theorem PicDraw.mk {b g o n c : Nat} {w w' : World} {rs : List (List C3)} (hn : g ≠ b) (ht : Thin rs) (hl : rs.length ≤ 1000) (hp : PicV w' (.slice (some ⟨g, o, none⟩) n c) rs) (hc : Cur w' b) (hg : w.grownBy w' (some b)) : PicDraw b w (.returned (.slice (some ⟨g, o, none⟩) n c)) w' :=
  ⟨_, rs, ⟨ht, hl⟩, rfl, ⟨hp, fun g' o' n' c' e => by simp only [Value.slice.injEq, Option.some.injEq, Addr.mk.injEq] at e; omega⟩, hc, hg⟩
theorem Rows.thin {base : Nat} {w : World} {W : Nat} {vals : List Value} {rs : List (List C3)} (h : Rows base w W vals rs) (hW : W ≤ 4) : Thin rs := by
  intro r hr
  obtain ⟨i, hi, rfl⟩ := List.mem_iff_getElem.1 hr
  obtain ⟨_, _, _, e, _⟩ := h i hi
  omega
theorem Rows.one {base : Nat} {w : World} {W : Nat} {vals : List Value} {rs : List (List C3)} (h : Rows base w W vals rs) (hl : vals.length = rs.length) : ∀ u ∈ vals, u.oneCell' = true := by
  intro u hu
  obtain ⟨i, hi, rfl⟩ := List.mem_iff_getElem.1 hu
  obtain ⟨rv, e1, e2, _⟩ := h i (by omega)
  rw [List.getElem?_eq_getElem hi] at e1
  cases e1
  obtain ⟨a, c, e⟩ := e2.1.lenv
  rw [e]; rfl
/-- A picture whose headers lie from place o on. -/
theorem pic_at {w : World} {g o n cap : Nat} {rs : List (List C3)} (hn : rs.length = n) (hc : n ≤ cap) (h : ∀ i (hi : i < rs.length), ∃ rv, w.cell? ⟨g, o + i, none⟩ = some rv ∧ RowV w rv rs[i]) : PicV w (.slice (some ⟨g, o, none⟩) n cap) rs := by
  subst hn
  exact .inr ⟨g, o, cap, rfl, hc, h⟩
theorem own_cap {w : World} {base g n cap : Nat} {e : TypeId} {vals : List Value} (h : w.ownsRow base e 1 (.slice (some ⟨g, 0, none⟩) n cap) n vals) : n ≤ cap := by
  rcases h.2 with ⟨h0, _⟩ | ⟨g', cp, cur, h0, _, _, hn, _⟩
  · cases h0
  · simp only [Value.slice.injEq] at h0
    omega
theorem own_type {w : World} {base g n cap : Nat} {vals : List Value} (h : w.ownsRow base 46 1 (.slice (some ⟨g, 0, none⟩) n cap) n vals) : ∀ r, some g = some r → ∃ cur t fz, w.heap[r]? = some (.cells cur t fz) ∧ t ≠ 50 := by
  intro r e
  have e' : g = r := Option.some.inj e
  subst e'
  rcases h.2 with ⟨h0, _⟩ | ⟨g', cp, cur, h0, _, hgg, _⟩
  · cases h0
  · simp only [Value.slice.injEq, Option.some.injEq, Addr.mk.injEq] at h0
    obtain ⟨⟨rfl, _⟩, _⟩ := h0
    exact ⟨cur, _, _, hgg, by decide⟩
/-- One row's header replaced. -/
theorem pic_drop {w w3 : World} {b W g cap k : Nat} {rs : List (List C3)} {vals : List Value} {hdr : Value} {ds : List C3} (hO : w3.ownsRow w.heap.size 46 1 (.slice (some ⟨g, 0, none⟩) rs.length cap) rs.length vals) (hR : Rows w.heap.size w3 W vals rs)
    (hk : k < rs.length) (hd : RowV w3 hdr ds) (hT : Thin rs) (hds : ds.length ≤ 1000) (hl : rs.length ≤ 8) (hc : Cur w3 b) (hlt : b < w.heap.size) (hg : w.grownBy w3 (some b)) :
    PicDraw b w (.returned (.slice (some ⟨g, 0, none⟩) rs.length cap)) (w3.setCell ⟨g, k, none⟩ hdr) := by
  obtain ⟨s1, s2⟩ := World.ownsRow.stored hO k hdr
  have hgb := (hO.lt g rfl).1
  have hvl : vals.length = rs.length := by have := hO.1; omega
  have hr2 := hR.far s2 (own_type hO)
  have hd2 : RowV (w3.setCell ⟨g, k, none⟩ hdr) hdr ds := by
    rcases hd with hd | ⟨g', o, c, e, k1, k2⟩
    · exact .inl hd
    · refine .inr ⟨g', o, c, e, k1, fun i hi => ?_⟩
      obtain ⟨c0, c1⟩ := k2 i hi
      have hne : ∀ q x, w3.cell? ⟨g', q, none⟩ = some x → (∀ a n m, x ≠ .slice a n m) → (w3.setCell ⟨g, k, none⟩ hdr).cell? ⟨g', q, none⟩ = some x := by
        intro q x hx hxs
        obtain ⟨rv, e1, e2, _⟩ := hR k hk
        have hck := cell_own hO e1
        have := cell_put (u := hdr) rfl rfl hck hx
        have hnq : (⟨g', q, none⟩ : Addr) ≠ ⟨g, k, none⟩ := by
          intro e3
          rw [e3, hck] at hx
          obtain ⟨a, n, e4⟩ := e2.1.lenv
          cases hx
          exact hxs _ _ _ e4
        rwa [if_neg hnq] at this
      exact ⟨hne _ _ c0 (fun _ _ _ e => by cases e), hne _ _ c1 (fun _ _ _ e => by cases e)⟩
  refine PicDraw.mk (by have := (World.ownsRow.lt hO g rfl).1; omega) (rs := rs.set k ds) (fun r hr => ?_) (by rw [List.length_set]; omega) (pic_at (by rw [List.length_set]) (own_cap hO) fun i hi => ?_) (hc.set (p := ⟨g, k, none⟩) (by show b < g; omega) hdr) (grown_set hg (p := ⟨g, k, none⟩) hgb hdr)
  · rcases List.mem_or_eq_of_mem_set hr with h | rfl
    · exact hT r h
    · omega
  · have hi' : i < rs.length := by rw [List.length_set] at hi; exact hi
    by_cases e : k = i
    · subst e
      refine ⟨hdr, by rw [Nat.zero_add]; exact cell_own s1 (by rw [List.getElem?_set_self (by omega)]), ?_⟩
      rw [List.getElem_set_self]; exact hd2
    · obtain ⟨rv, e1, e2, _⟩ := hr2 i hi'
      refine ⟨rv, by rw [Nat.zero_add]; exact cell_own s1 (by rw [List.getElem?_set_ne e]; exact e1), ?_⟩
      rw [List.getElem_set_ne e]; exact e2.1
/-- A cell of one row replaced. -/
theorem pic_put {w w4 : World} {b W g cap rg ro y u z : Nat} {rs : List (List C3)} {vals : List Value} {y0 u0 z0 : Nat} (hO : w4.ownsRow w.heap.size 46 1 (.slice (some ⟨g, 0, none⟩) rs.length cap) rs.length vals) (hR : Rows w.heap.size w4 W vals rs)
    (h0 : w4.cell? ⟨rg, ro, none⟩ = some (.float .f32 y0)) (h1 : w4.cell? ⟨rg, ro + 1, none⟩ = some (.complex .f32 u0 z0)) (hrg : w.heap.size ≤ rg) (hW : W ≤ 4) (hl : rs.length ≤ 8) (hc : Cur w4 b) (hlt : b < w.heap.size) (hg : w.grownBy w4 (some b)) :
    PicDraw b w (.returned (.slice (some ⟨g, 0, none⟩) rs.length cap)) ((w4.setCell ⟨rg, ro, none⟩ (.float .f32 y)).setCell ⟨rg, ro + 1, none⟩ (.complex .f32 u z)) := by
  have hne : (⟨rg, ro + 1, none⟩ : Addr) ≠ ⟨rg, ro, none⟩ := by intro e; simp at e
  have h1' : (w4.setCell ⟨rg, ro, none⟩ (.float .f32 y)).cell? ⟨rg, ro + 1, none⟩ = some (.complex .f32 u0 z0) := by
    have := cell_put (u := .float .f32 y) rfl rfl h0 h1
    rwa [if_neg hne] at this
  have hcells : ∀ i (hi : i < rs.length), ∃ rv ds, ((w4.setCell ⟨rg, ro, none⟩ (.float .f32 y)).setCell ⟨rg, ro + 1, none⟩ (.complex .f32 u z)).cell? ⟨g, i, none⟩ = some rv ∧ RowV ((w4.setCell ⟨rg, ro, none⟩ (.float .f32 y)).setCell ⟨rg, ro + 1, none⟩ (.complex .f32 u z)) rv ds ∧ ds.length ≤ 4 := by
    intro i hi
    obtain ⟨rv, e1, e2, e3, _⟩ := hR i hi
    have hck := cell_own hO e1
    obtain ⟨ds, f1, f2⟩ := e2.putF (y := y) h0
    obtain ⟨ds', f3, f4⟩ := f2.putC (u := u) (z := z) h1'
    obtain ⟨a, n, e4⟩ := e2.1.lenv
    have q1 : (w4.setCell ⟨rg, ro, none⟩ (.float .f32 y)).cell? ⟨g, i, none⟩ = some rv := by
      have := cell_put (u := .float .f32 y) rfl rfl h0 hck
      have hnq : (⟨g, i, none⟩ : Addr) ≠ ⟨rg, ro, none⟩ := by intro e; rw [e, h0, e4] at hck; cases hck
      rwa [if_neg hnq] at this
    have q2 := cell_put (u := .complex .f32 u z) rfl rfl h1' q1
    have hnq : (⟨g, i, none⟩ : Addr) ≠ ⟨rg, ro + 1, none⟩ := by intro e; rw [e, h1', e4] at q1; cases q1
    rw [if_neg hnq] at q2
    exact ⟨rv, ds', q2, f4.1, by omega⟩
  obtain ⟨rs', g1, g2⟩ := exists_list rs.length (fun i (ds : List C3) => ∃ rv, ((w4.setCell ⟨rg, ro, none⟩ (.float .f32 y)).setCell ⟨rg, ro + 1, none⟩ (.complex .f32 u z)).cell? ⟨g, i, none⟩ = some rv ∧ RowV ((w4.setCell ⟨rg, ro, none⟩ (.float .f32 y)).setCell ⟨rg, ro + 1, none⟩ (.complex .f32 u z)) rv ds ∧ ds.length ≤ 4) (fun i hi => by
    obtain ⟨rv, ds, k1, k2, k3⟩ := hcells i hi
    exact ⟨ds, rv, k1, k2, k3⟩)
  refine PicDraw.mk (by have := (World.ownsRow.lt hO g rfl).1; omega) (rs := rs') (fun r hr => ?_) (by omega) (pic_at g1 (own_cap hO) fun i hi => ?_) ((hc.set (p := ⟨rg, ro, none⟩) (by show b < rg; omega) _).set (p := ⟨rg, ro + 1, none⟩) (by show b < rg; omega) _) (grown_set (grown_set hg (p := ⟨rg, ro, none⟩) hrg _) (p := ⟨rg, ro + 1, none⟩) hrg _)
  · obtain ⟨i, hi, rfl⟩ := List.mem_iff_getElem.1 hr
    obtain ⟨_, _, _, h⟩ := g2 i hi
    omega
  · obtain ⟨rv, k1, k2, _⟩ := g2 i hi
    exact ⟨rv, by rw [Nat.zero_add]; exact k1, k2⟩
set_option maxRecDepth 100000 in
set_option maxHeartbeats 8000000 in
theorem l02Picture_any (b : Nat) (w : World) (hc : Cur w b) :
    Calls Try.prog 36 #[.pointer (some ⟨b, 0, none⟩)] w fun e w' => PicDraw b w e w' := by
  have hlt := hc.lt
  go_enter Try.func36, Try.ntmps36
  go_wp2_with fail
  refine (l02Paired_any b _ hc).mono ?_
  rintro e w1 ⟨W, g, cap, rs, hW, hrs, rfl, hp1⟩
  have HP := Lib.hid hp1
  clear hp1 hc
  go_wp2_with fail
  refine (l01Below_any b _ _ HP.out.cur (by omega) (by omega)).mono ?_
  rintro e w2 ⟨k, hk, _, rfl, hc2, hg2⟩
  have hk : k < rs.length := by have := hk (by omega); omega
  have HP2 := Lib.hid (HP.out.next hlt hc2 hg2)
  clear HP hc2 hg2
  go_wp2_with fail
  refine (l01Below_any b _ _ HP2.out.cur (by decide) (by decide)).mono ?_
  rintro e w3 ⟨z, hz, _, rfl, hc3, hg3⟩
  clear hz
  have hp3 := HP2.out.next hlt hc3 hg3
  clear HP2 hc3 hg3
  obtain ⟨vals, hO, hR⟩ := hp3.own
  have hcap := own_cap hO
  have HO := Lib.hid hO
  have HR := Lib.hid hR
  have HT := Lib.hid (hR.thin hW.2)
  have HC := Lib.hid hp3.cur
  have HG := Lib.hid hp3.grown
  clear hp3 hO hR
  have HVL := Lib.hid (show vals.length = rs.length by have := HO.out.1; omega)
  by_cases h0 : z = 0
  · subst h0
    go_wp2
    go_ret
    exact PicDraw.mk (by have := (World.ownsRow.lt HO.out g rfl).1; omega) (rs := rs.drop 1) (fun r hr => HT.out r (List.mem_of_mem_drop hr)) (by rw [List.length_drop]; omega) (pic_at (by rw [List.length_drop]) (by omega) fun i hi => by
      have hi' : 1 + i < rs.length := by rw [List.length_drop] at hi; omega
      obtain ⟨rv, e1, e2, _⟩ := HR.out (1 + i) hi'
      exact ⟨rv, cell_own HO.out e1, by rw [List.getElem_drop]; exact e2.1⟩) HC.out HG.out
  · by_cases h1 : z = 1
    · subst h1
      obtain ⟨rv, e1, e2, e3, e4⟩ := HR.out k hk
      obtain ⟨rg, ro, rc, cu, cz, rfl, k1⟩ := e2.1.at 0 (by omega)
      rw [e3] at e1
      have m0 := cell_own HO.out e1
      have m1 := World.ownsRow.frozenAt HO.out k
      have hwc : W ≤ rc := by
        rcases e2.1 with ⟨h, _⟩ | ⟨_, _, _, h, h', _⟩
        · cases h
        · simp only [Value.slice.injEq] at h; omega
      have HE := Lib.hid e2
      have HE3 := Lib.hid e3
      clear e1 e2 k1 e4 e3
      by_cases hrc : rc = 1
      · subst hrc
        obtain rfl : W = 1 := by omega
        have HD := Lib.hid (show RowV w3 (.slice (some ⟨rg, ro, none⟩) 0 0) (rs[k].drop 1) from by
          rw [List.drop_of_length_le (by have := HE3.out; omega)]
          exact .inr ⟨rg, ro, 0, rfl, Nat.le_refl _, fun i hi => by simp at hi⟩)
        have HDL := Lib.hid (show (rs[k].drop 1).length ≤ 1000 by rw [List.length_drop]; have := HE3.out; omega)
        go_wp2
        go_ret
        exact pic_drop HO.out HR.out hk HD.out HT.out HDL.out hrs.2 HC.out hlt HG.out
      · have hrc2 : 2 ≤ rc := by omega
        have HD := Lib.hid (show RowV w3 (.slice (some ⟨rg, ro + 2, none⟩) (W - 1) (rc - 1)) (rs[k].drop 1) from by
          have hl := HE3.out
          rcases HE.out.1 with ⟨h, _⟩ | ⟨g', o', c', h, h', hcell⟩
          · cases h
          · simp only [Value.slice.injEq, Option.some.injEq, Addr.mk.injEq, and_true] at h
            obtain ⟨⟨rfl, rfl⟩, _, rfl⟩ := h
            refine .inr ⟨rg, ro + 2, rc - 1, by rw [List.length_drop, hl], by rw [List.length_drop, hl]; omega, fun i hi => ?_⟩
            have hi' : 1 + i < rs[k].length := by rw [List.length_drop] at hi; omega
            obtain ⟨c0, c1⟩ := hcell (1 + i) hi'
            rw [List.getElem_drop]
            rw [show ro + 2 + i * 2 = ro + (1 + i) * 2 by omega]
            exact ⟨c0, c1⟩)
        have HDL := Lib.hid (show (rs[k].drop 1).length ≤ 1000 by rw [List.length_drop]; have := HE3.out; omega)
        clear hrc
        go_wp2
        go_ret
        exact pic_drop HO.out HR.out hk HD.out HT.out HDL.out hrs.2 HC.out hlt HG.out
    · by_cases h2 : z = 2
      · subst h2
        obtain ⟨rv, e1, e2, e3, e4⟩ := HR.out k hk
        obtain ⟨rg, ro, rc, cu, cz, rfl, k1⟩ := e2.1.at 0 (by omega)
        have hrg := e4 _ _ _ _ rfl
        have hk0 : ∃ y0, w3.cell? ⟨rg, ro, none⟩ = some (.float .f32 y0) := by
          rcases e2.1 with ⟨h, _⟩ | ⟨g', o', c', h, h', hcell⟩
          · cases h
          · simp only [Value.slice.injEq, Option.some.injEq, Addr.mk.injEq, and_true] at h
            obtain ⟨⟨rfl, rfl⟩, _⟩ := h
            have := (hcell 0 (by omega)).1
            rw [Nat.zero_mul, Nat.add_zero] at this
            exact ⟨_, this⟩
        obtain ⟨y0, k0⟩ := hk0
        rw [Nat.zero_mul, Nat.add_zero] at k1
        obtain ⟨bc, kb⟩ := e2.2 _ _ _ _ rfl
        rw [e3] at e1
        have m0 := cell_own HO.out e1
        have hgb := (HO.out.lt g rfl).1
        have hgne : g ≠ b := by omega
        have hrne : rg ≠ b := by omega
        have hcd : Cur w3.drew b := HC.out.drewN 1
        have hgd : w3.grownBy w3.drew (some b) := grownN (World.grownBy.refl w3 (some b)) 1
        have n0 : w3.drew.cell? ⟨g, k, none⟩ = some (.slice (some ⟨rg, ro, none⟩) W rc) := m0
        have HCD := Lib.hid hcd
        have HKB := Lib.hid kb
        have HWP := Lib.hid hW
        clear hcd e1 e2 e3 e4 kb
        go_wp2
        go_region_with (go_at_call 50; refine (l02Cell_any b _ HCD.out).mono ?_; rintro e w4 ⟨py, pu, pz, hf, rfl, hc4, hg4'⟩; have hg4 : w3.grownBy w4 (some b) := hgd.trans hg4'; have q0 := hg4.cell m0 (by intro e; first | exact hgne e | exact hgne e.symm | exact hgne (Option.some.inj e) | exact hgne (Option.some.inj e).symm); have q1 := hg4.cell k0 (by intro e; first | exact hrne e | exact hrne e.symm | exact hrne (Option.some.inj e) | exact hrne (Option.some.inj e).symm); have q2 := hg4.cell k1 (by intro e; first | exact hrne e | exact hrne e.symm | exact hrne (Option.some.inj e) | exact hrne (Option.some.inj e).symm); have qb := (hg4.block rg (Array.getElem?_eq_some_iff.1 HKB.out).1 (fun e => hrne (Option.some.inj e))).trans HKB.out; have q3 : w4.frozen? ⟨rg, ro, none⟩ = false := (by simp [World.frozen?, qb]); have q4 : w4.frozen? ⟨rg, ro + 1, none⟩ = false := (by simp [World.frozen?, qb]))
        all_goals
          have hO4 := HO.out.kept hg4 (.inr (fun e => hgne (Option.some.inj e)))
          have hR4 := HR.out.far hg4 (fun r e => by
            have e' : b = r := Option.some.inj e
            subst e'
            exact HC.out.cells)
          have HF := Lib.hid (pic_put (y := py) (u := pu) (z := pz) hO4 hR4 q1 q2 hrg HWP.out.2 hrs.2 hc4 hlt (HG.out.trans hg4))
          clear hO4 hR4 q0 q1 q2 q3 q4 qb hg4 hg4' hc4 hf
          go_wp2
          go_ret
          exact HF.out
      · by_cases h3 : z = 3
        · subst h3
          go_wp2_with (at_builtin; refine rows_append rfl (.tmp 38) (.tmp 39) rfl w.heap.size _ rs.length vals vals rfl HO.out ⟨g, 0, none⟩ rs.length cap rfl HVL.out (fun j u hu => World.ownsRow.cells HO.out (g := g) rfl j u hu) (HR.out.one HVL.out) (by omega) (by omega) (by have := HG.out.size; omega) ?_; intro g6 cap6 w6 ho6 hg6 hlt6)
          have hg7 : w3.grownBy w6 (some g) := hg6
          have hgt := (HO.out.lt g rfl).1
          have hc6 : Cur w6 b := HC.out.grown hg7 (fun r hr => by cases hr; omega)
          have hgw := grown_own HG.out hg7 (fun r hr => by cases hr; exact hgt)
          have hr6 := HR.out.far hg7 (fun r e => by
            have e' : g = r := Option.some.inj e
            subst e'
            rcases HO.out.2 with ⟨h0, _⟩ | ⟨g', cp, cur, h0, _, hgg, _⟩
            · cases h0
            · simp only [Value.slice.injEq, Option.some.injEq, Addr.mk.injEq] at h0
              obtain ⟨⟨rfl, _⟩, _⟩ := h0
              exact ⟨cur, _, _, hgg, by decide⟩)
          have hcap6 := own_cap ho6
          have HF := Lib.hid (And.intro hr6 ho6)
          clear hg6 hg7 hr6 ho6
          go_ret
          refine PicDraw.mk (by have := (World.ownsRow.lt HF.out.2 g6 rfl).1; omega) (rs := rs ++ rs) (fun r hr => HT.out r (by simpa using hr)) (by rw [List.length_append]; omega) (pic_at (by rw [List.length_append]) hcap6 fun i hi => ?_) hc6 hgw
          by_cases hlo : i < rs.length
          · obtain ⟨rv, e1, e2, _⟩ := HF.out.1 i hlo
            refine ⟨rv, by rw [Nat.zero_add]; exact cell_own HF.out.2 (by rw [List.getElem?_append_left (by have := HVL.out; omega)]; exact e1), ?_⟩
            rw [List.getElem_append_left hlo]; exact e2.1
          · obtain ⟨rv, e1, e2, _⟩ := HF.out.1 (i - rs.length) (by rw [List.length_append] at hi; omega)
            refine ⟨rv, by rw [Nat.zero_add]; exact cell_own HF.out.2 (by rw [List.getElem?_append_right (by have := HVL.out; omega), HVL.out]; exact e1), ?_⟩
            rw [List.getElem_append_right (by omega)]; exact e2.1
        · by_cases h4 : z = 4
          · subst h4
            go_wp2
            go_ret
            exact PicDraw.mk (by have := HC.out.lt; omega) (rs := []) (fun r hr => by cases hr) (by simp) (.inr ⟨_, 0, 0, rfl, Nat.le_refl _, fun i hi => by simp at hi⟩) (HC.out.alloc _) (grown_alloc HG.out _)
          · have b0 : ((z : Int) == 0) = false := by simp; omega
            have b1 : ((z : Int) == 1) = false := by simp; omega
            have b2 : ((z : Int) == 2) = false := by simp; omega
            have b3 : ((z : Int) == 3) = false := by simp; omega
            have b4 : ((z : Int) == 4) = false := by simp; omega
            clear h0 h1 h2 h3 h4
            go_wp2
            go_ret
            exact PicDraw.mk (by have := (World.ownsRow.lt HO.out g rfl).1; omega) HT.out (by omega) (pic_at rfl hcap fun i hi => by
              obtain ⟨rv, e1, e2, _⟩ := HR.out i hi
              exact ⟨rv, by rw [Nat.zero_add]; exact cell_own HO.out e1, e2.1⟩) HC.out HG.out

end Go.Proofs.Ytfoggbcfkniimaa.Far
