/-
  What is proved: the walks of the model's Brightness and Colouring.
  Conditions: the list can be read; at most 4000000 numbers.
-/
import Derived.Test.YtnkmcjiohmnfhaaBright
import Derived.Test.YtnkmcjiohmnfhaaSpecDec
import Derived.Test.YtnkmcjiohmnfhaaSpecAdd
namespace Go.Proofs.Ytnkmcjiohmnfhaa
set_option linter.unusedVariables false
open Go.RowKit
attribute [local go_sem] run_store_float run_store_complex unary_negf neg256

theorem RNew.lenv {w : World} {base : Nat} {v : Value} {cs : List C3} (h : RNew w base v cs) : ∃ a c, v = .slice a cs.length c := by
  rcases h with ⟨rfl, rfl⟩ | ⟨g, cap, cur, rfl, _⟩
  · exact ⟨none, 0, rfl⟩
  · exact ⟨_, _, rfl⟩
theorem RNew.lenr {w : World} {base : Nat} {v : Value} {cs : List C3} (h : RNew w base v cs) (hne : cs ≠ []) : ∃ g o cap, v = .slice (some ⟨g, o, none⟩) cs.length cap ∧ cs.length ≤ cap ∧ ∀ i (h : i < cs.length), w.cell? ⟨g, o + i * 2, none⟩ = some (.float .f32 cs[i].1) ∧ w.cell? ⟨g, o + i * 2 + 1, none⟩ = some (.complex .f32 cs[i].2.1 cs[i].2.2) := by
  rcases h.row with ⟨_, h1⟩ | h1
  · exact absurd h1 hne
  · exact h1
theorem spread_snoc (cs : List C3) (k : Nat) (h : k < cs.length) : spread (cs.take (k + 1)) = spread (cs.take k) ++ [cs[k].1, cs[k].1, cs[k].1, cs[k].1] := by
  have e : cs.take (k + 1) = cs.take k ++ [cs[k]] := by rw [List.take_add_one, List.getElem?_eq_getElem h]; rfl
  rw [e]
  unfold spread
  rw [List.flatMap_append]
  rfl
theorem spread_take (cs : List C3) (k : Nat) (h : k ≤ cs.length) : (spread (cs.take k)).length = 4 * k := by
  rw [spread_len, List.length_take, Nat.min_eq_left h]
/-- What stands at the head of a round. -/
structure SB (w w1 wr : World) (g o : Nat) (cs : List C3) (gg n cc : Nat) (rs : List Nat) : Prop where
  own : OwnF wr w.heap.size (.slice (some ⟨gg, 0, none⟩) n cc) rs
  num : rs.length = n
  below : Below w.heap.size w wr
  glt : g < wr.heap.size
  ne : gg ≠ g
  cell : ∀ i (h : i < cs.length), wr.cell? ⟨g, o + i * 2, none⟩ = some (.float .f32 cs[i].1)
theorem SB.snoc {w w1 wr w6 : World} {g o gg n cc g6 cap6 z : Nat} {cs : List C3} {rs : List Nat} (x : Obj) (h : SB w w1 wr g o cs gg n cc rs)
    (ho : OwnF w6 w.heap.size (.slice (some ⟨g6, 0, none⟩) (n + 1) cap6) (rs ++ [z])) (hg : (wr.alloc x).grownBy w6 (Value.slice (some ⟨gg, 0, none⟩) n cc).ownBlock) (hor : (Value.slice (some ⟨gg, 0, none⟩) n cc).ownBlock = some g6 ∨ g6 = (wr.alloc x).heap.size) :
    SB w w1 w6 g o cs g6 (n + 1) cap6 (rs ++ [z]) := by
  have hg' : (wr.alloc x).grownBy w6 (some gg) := hg
  refine ⟨ho, by simp [h.num], snoc_below h.below h.own x hg, Nat.lt_of_lt_of_le h.glt (Nat.le_trans (by simp) hg.size), ?_, fun i hi => ?_⟩
  · rcases hor with e | e
    · have e2 : gg = g6 := Option.some.inj e
      rw [← e2]; exact h.ne
    · have := h.glt
      simp at e
      omega
  · have c1 := (World.grownBy_alloc wr x none).cell (h.cell i hi) (by simp)
    exact hg'.cell c1 (by intro e; first | exact h.ne (Option.some.inj e) | exact h.ne (Option.some.inj e).symm)
theorem SB.new {w w1 wr : World} {g o gg n cc : Nat} {cs : List C3} {rs : List Nat} (h : SB w w1 wr g o cs gg n cc rs) (hk : rs = spread cs) : FNew wr w.heap.size (.slice (some ⟨gg, 0, none⟩) n cc) (spread cs) := hk ▸ h.own.new
set_option maxHeartbeats 4000000 in
theorem specBright_any (v : Value) (xs : List Nat) (w : World) (h : FRow w v xs) (hl : xs.length ≤ 4000000) :
    Calls Try.prog 41 #[v] w fun e w' => AnsB (BrightR xs) w e w' := by
  have hbA := (Below.refl w.heap.size w).alloc (Nat.le_refl _) (.cells #[] 39)
  have HOW := Lib.hid (OwnF.made0 w)
  have hsz : w.heap.size < (w.alloc (.cells #[] 39)).heap.size := by simp
  have HD := Lib.hid (specDecode_any v xs false _ (h.below hbA) hl)
  obtain ⟨a, c, rfl⟩ := h.lenv
  clear h
  go_enter Try.func41, Try.ntmps41
  go_wp2_with fail
  generalize w.alloc (.cells #[] 39) = wA at *
  refine HD.out.mono ?_
  rintro e w1 ⟨v1, cs, hd1, hd2, hdf, rfl, hn1, hb1⟩
  have hbz := below_trans hbA hb1 hbA.size
  have HO1 := Lib.hid (HOW.out.kept (grown_of hb1) (.inr (by intro e; cases e)))
  have hs1 : w.heap.size < w1.heap.size := Nat.lt_of_lt_of_le hsz hb1.size
  cases hrk : rok cs with
  | false =>
    have HB := Lib.hid (show BrightR xs [] false from ⟨cs, hd1, hd2, hrk.symm, by rw [hrk]; rfl⟩)
    rw [hrk] at hn1
    simp only [Bool.false_eq_true, if_false] at hn1
    obtain ⟨a1, c1, rfl⟩ := hn1.lenv
    have HNN := Lib.hid HO1.out.new
    clear hd1 hd2 hdf hn1 hrk HD HOW hb1
    go_wp2
    go_loopw [4, 7] (fun out i wr => out = .slice (some ⟨w.heap.size, 0, none⟩) 0 0 ∧ i = .int .i64 0 ∧ wr = w1) (fun _ _ _ => 0)
    case atStart => exact ⟨rfl, rfl, rfl⟩
    case round =>
      obtain ⟨rfl, rfl, rfl⟩ := hrel
      go_wp2
      go_ret2
      exact AnsB.mk HB.out HNN.out hbz
  | true =>
    have hm4 : xs.length % 4 = 0 := by
      by_cases h4 : xs.length % 4 = 0
      · exact h4
      · rw [hd2 h4] at hrk; cases hrk
    rw [hrk] at hn1
    simp only [if_true, Bool.false_eq_true, if_false] at hn1
    have HB := Lib.hid (show BrightR xs (spread cs) true from ⟨cs, hd1, hd2, hrk.symm, by rw [hrk]; rfl⟩)
    have hl64 := (rok_iff.1 hrk).1.2
    obtain ⟨g, o, cap, rfl, hcap, hcell⟩ := hn1.lenr (rok_ne hrk)
    have hgw : w.heap.size < g ∧ g < w1.heap.size := by
      have h1 := hn1.lt g rfl
      omega
    have HSB := Lib.hid (show SB w w1 w1 g o cs w.heap.size 0 0 [] from ⟨HO1.out, rfl, hbz, hgw.2, Nat.ne_of_lt hgw.1, fun i hi => (hcell i hi).1⟩)
    clear hd1 hd2 hdf hn1 hrk HD HOW hb1 hcell hm4 hgw HO1
    go_wp2
    go_loopw [4, 7] (fun out i wr => ∃ (k gg cc n : Nat), k ≤ cs.length ∧ i = .int .i64 (k : Int) ∧ out = .slice (some ⟨gg, 0, none⟩) n cc ∧ SB w w1 wr g o cs gg n cc (spread (cs.take k))) (fun _ i _ => cs.length - (intOf i).toNat)
    case atStart => exact ⟨0, _, 0, 0, Nat.zero_le _, rfl, rfl, HSB.out⟩
    case round =>
      obtain ⟨k, gg, cc, n, hk, rfl, rfl, hsb⟩ := hrel
      have HS := Lib.hid hsb
      clear hsb HSB
      by_cases hlt : k < cs.length
      · obtain ⟨y, hy⟩ : ∃ y, cs[k].1 = y := ⟨_, rfl⟩
        have HY := Lib.hid hy
        clear hy
        go_wp2
        go_loopw [4, 8] (fun out i wr => ∃ (j gg cc n : Nat), j ≤ 4 ∧ i = .int .i64 (j : Int) ∧ out = .slice (some ⟨gg, 0, none⟩) n cc ∧ SB w w1 wr g o cs gg n cc (spread (cs.take k) ++ List.replicate j y)) (fun _ i _ => 4 - (intOf i).toNat)
        case atStart => exact ⟨0, _, cc, n, Nat.zero_le _, rfl, rfl, by simpa using HS.out⟩
        case round =>
          obtain ⟨j, gg, cc, n, hj, rfl, rfl, hsb⟩ := hrel
          have hc0 := hsb.cell k hlt
          have hbase := hsb.below.size
          have hn := hsb.num
          rw [HY.out] at hc0
          rw [List.length_append, spread_take cs k hk, List.length_replicate] at hn
          have HN := Lib.hid hn
          have HSS := Lib.hid hsb
          clear hsb HS hn
          by_cases hlj : j < 4
          · go_wp2_with (at_builtin; refine ownF_snoc rfl (.tmp 28) (.tmp 34) rfl w.heap.size _ _ _ rfl (HSS.out.own.alloc _) HSS.out.num _ rfl y (lit_cell y _) (by have := HN.out; omega) (by simp; omega) ?_; intro g6 cap6 w6 ho6 hg6 hor6 hlt6)
            have hs6 := HSS.out.snoc _ ho6 hg6 hor6
            rw [List.append_assoc, show [y] = List.replicate 1 y from rfl, List.replicate_append_replicate] at hs6
            have HS6 := Lib.hid hs6
            clear ho6 hg6 hor6 hlt6 hs6
            go_wp2
            go_roundw
            case rel => exact ⟨j + 1, g6, cap6, n + 1, by omega, by go_num, rfl, HS6.out⟩
            case measure => simp [intOf]; omega
          · have hj4 : j = 4 := by omega
            subst hj4
            have hss := HSS.out
            rw [← HY.out, show List.replicate 4 cs[k].1 = [cs[k].1, cs[k].1, cs[k].1, cs[k].1] from rfl, ← spread_snoc cs k hlt] at hss
            have HS7 := Lib.hid hss
            clear hss
            go_wp2
            go_roundw
            case rel => exact ⟨k + 1, gg, cc, n, by omega, by go_num, rfl, HS7.out⟩
            case measure => simp [intOf]; omega
      · have HNN := Lib.hid (HS.out.new (by rw [List.take_of_length_le (by omega)]))
        have HBB := Lib.hid HS.out.below
        go_wp2
        go_ret2
        exact AnsB.mk HB.out HNN.out HBB.out
/-- The same, of Colouring. -/
structure SC (w wr : World) (g : Nat) (xs bs : List Nat) (gg n cc : Nat) (rs : List Nat) : Prop where
  own : OwnF wr w.heap.size (.slice (some ⟨gg, 0, none⟩) n cc) rs
  num : rs.length = n
  below : Below w.heap.size w wr
  glt : g < wr.heap.size
  ne : gg ≠ g
  cell : ∀ i (h : i < bs.length), wr.cell? ⟨g, i, none⟩ = some (.float .f32 bs[i])
  res : ResL .sub xs bs rs
theorem SC.snoc {w wr w6 : World} {g gg n cc g6 cap6 z : Nat} {xs bs rs : List Nat} (x : Obj) (h : SC w wr g xs bs gg n cc rs)
    (ho : OwnF w6 w.heap.size (.slice (some ⟨g6, 0, none⟩) (n + 1) cap6) (rs ++ [z])) (hg : (wr.alloc x).grownBy w6 (Value.slice (some ⟨gg, 0, none⟩) n cc).ownBlock) (hor : (Value.slice (some ⟨gg, 0, none⟩) n cc).ownBlock = some g6 ∨ g6 = (wr.alloc x).heap.size)
    (hlt : n < bs.length) (hlt' : n < xs.length) (hr : Res .sub xs[n] bs[n] z) : SC w w6 g xs bs g6 (n + 1) cap6 (rs ++ [z]) := by
  have hg' : (wr.alloc x).grownBy w6 (some gg) := hg
  refine ⟨ho, by simp [h.num], snoc_below h.below h.own x hg, Nat.lt_of_lt_of_le h.glt (Nat.le_trans (by simp) hg.size), ?_, fun i hi => ?_, h.res.snoc h.num hlt' hlt hr⟩
  · rcases hor with e | e
    · have e2 : gg = g6 := Option.some.inj e
      rw [← e2]; exact h.ne
    · have := h.glt
      simp at e
      omega
  · have c1 := (World.grownBy_alloc wr x none).cell (h.cell i hi) (by simp)
    exact hg'.cell c1 (by intro e; first | exact h.ne (Option.some.inj e) | exact h.ne (Option.some.inj e).symm)
set_option maxHeartbeats 4000000 in
theorem specColour_any (v : Value) (xs : List Nat) (w : World) (h : FRow w v xs) (hl : xs.length ≤ 4000000) :
    Calls Try.prog 43 #[v] w fun e w' => AnsB (ColourR xs) w e w' := by
  have hbA := (Below.refl w.heap.size w).alloc (Nat.le_refl _) (.cells #[] 39)
  have HOW := Lib.hid (OwnF.made0 w)
  have hsz : w.heap.size < (w.alloc (.cells #[] 39)).heap.size := by simp
  have HD := Lib.hid (specBright_any v xs _ (h.below hbA) hl)
  obtain ⟨a, c, rfl, hcell⟩ := h.any
  have HC := Lib.hid hcell
  clear h hcell
  go_enter Try.func43, Try.ntmps43
  go_wp2_with fail
  generalize w.alloc (.cells #[] 39) = wA at *
  refine HD.out.mono ?_
  rintro e w1 ⟨v1, bs, ok, rfl, hbr, hn1, hb1⟩
  have hbz := below_trans hbA hb1 hbA.size
  have HO1 := Lib.hid (HOW.out.kept (grown_of hb1) (.inr (by intro e; cases e)))
  have hs1 : w.heap.size < w1.heap.size := Nat.lt_of_lt_of_le hsz hb1.size
  cases ok with
  | false =>
    have HCR := Lib.hid (show ColourR xs [] false from ⟨bs, hbr, by simp⟩)
    have hbs : bs = [] := by
      obtain ⟨cs, h1, h2, h3, h4⟩ := hbr
      rw [← h3] at h4
      simpa using h4
    subst hbs
    obtain ⟨a1, c1, rfl⟩ := hn1.row.lenv
    have HNN := Lib.hid HO1.out.new
    clear hbr hn1 HD HOW hb1
    go_wp2
    go_loopw [4, 7] (fun out i wr => out = .slice (some ⟨w.heap.size, 0, none⟩) 0 0 ∧ i = .int .i64 0 ∧ wr = w1) (fun _ _ _ => 0)
    case atStart => exact ⟨rfl, rfl, rfl⟩
    case round =>
      obtain ⟨rfl, rfl, rfl⟩ := hrel
      go_wp2
      go_ret2
      exact AnsB.mk HCR.out HNN.out hbz
  | true =>
    have hbl := hbr.len
    have HBR := Lib.hid hbr
    have hbx : bs ≠ [] := by
      obtain ⟨cs, h1, h2, h3, h4⟩ := hbr
      rw [← h3] at h4
      intro e
      have h5 := rok_ne h3.symm
      rw [e] at h4
      have h6 := congrArg List.length h4
      simp [spread_len] at h6
      exact h5 (List.eq_nil_of_length_eq_zero (by omega))
    obtain ⟨g2, c1, rfl, hg2, hc2, hcell1⟩ : ∃ g cap, v1 = .slice (some ⟨g, 0, none⟩) bs.length cap ∧ wA.heap.size ≤ g ∧ g < w1.heap.size ∧ ∀ i (h : i < bs.length), w1.cell? ⟨g, i, none⟩ = some (.float .f32 bs[i]) := by
      have hn2 := hn1
      rcases hn1 with ⟨_, h⟩ | ⟨g, cap, rfl, h1, h2, h3⟩
      · exact absurd h hbx
      · exact ⟨g, cap, rfl, h1, (hn2.lt g rfl).2, fun i hi => h3.get i hi hi⟩
    have HSC0 := Lib.hid (show SC w w1 g2 xs bs w.heap.size 0 0 [] from ⟨HO1.out, rfl, hbz, hc2, by omega, hcell1, ResL.nil _ _ _⟩)
    have HBL := Lib.hid hbl
    have hl64 : bs.length ≤ 1000000000 := by omega
    clear hbr hn1 HD HOW hb1 hbx hcell1 hg2 hbl HO1 hl
    go_wp2
    go_loopw [4, 7] (fun out i wr => ∃ (k gg cc : Nat) (rs : List Nat), k ≤ bs.length ∧ i = .int .i64 (k : Int) ∧ out = .slice (some ⟨gg, 0, none⟩) k cc ∧ SC w wr g2 xs bs gg k cc rs) (fun _ i _ => bs.length - (intOf i).toNat)
    case atStart => exact ⟨0, _, 0, [], Nat.zero_le _, rfl, rfl, HSC0.out⟩
    case round =>
      obtain ⟨k, gg, cc, rs, hk, rfl, rfl, hsc⟩ := hrel
      have HS := Lib.hid hsc
      clear hsc HSC0
      by_cases hlt : k < bs.length
      · have hlt' : k < xs.length := by have := HBL.out; omega
        obtain ⟨g1, o1, rfl, hcap1, hcc⟩ := HC.out k hlt'
        have hc0 := (grown_of HS.out.below).cell hcc (by simp)
        have hc0' := HS.out.cell k hlt
        obtain ⟨x, hx⟩ : ∃ x, xs[k] = x := ⟨_, rfl⟩
        obtain ⟨y, hy⟩ : ∃ y, bs[k] = y := ⟨_, rfl⟩
        have HXY := Lib.hid (And.intro hx hy)
        have HLT := Lib.hid hlt'
        have HL6 := Lib.hid (fun w6 r6 g6 n6 c6 (hs6 : SC w w6 g2 xs bs g6 n6 c6 r6) => And.intro ((grown_of hs6.below).cell hcc (by simp)) (hs6.cell k hlt))
        rw [hx, hy] at HL6
        rw [hx] at hc0
        rw [hy] at hc0'
        have HSZ := Lib.hid HS.out.below.size
        clear hcc hx hy
        rcases res_any .sub (.inr (.inl rfl)) x y with ⟨r, hr, hrun⟩ | hrun
        · have HRR := Lib.hid hr
          have HOA := Lib.hid (fun (o : Obj) => (show OwnF (wr.alloc o).drew w.heap.size (.slice (some ⟨gg, 0, none⟩) k cc) rs from HS.out.own.alloc o))
          have HLC := Lib.hid (fun (z : Nat) => (show (wr.alloc (.cells #[.float .f32 z] 39)).drew.cell? ⟨wr.heap.size, 0, none⟩ = some (.float .f32 z) from lit_cell z wr))
          have HNX := Lib.hid (fun (o : Obj) (w6 : World) g6 cap6 (ho : OwnF w6 w.heap.size (.slice (some ⟨g6, 0, none⟩) (k + 1) cap6) (rs ++ [r])) (hg6 : (wr.alloc o).drew.grownBy w6 (Value.slice (some ⟨gg, 0, none⟩) k cc).ownBlock) hor => HS.out.snoc o ho (show (wr.alloc o).grownBy w6 _ from ⟨hg6.os, hg6.tape, hg6.output, hg6.size, hg6.block⟩) hor hlt HLT.out (by rw [HXY.out.1, HXY.out.2]; exact HRR.out))
          clear hr
          go_wp2
          go_region_held3 (fun W => W.cell? ⟨g1, o1 + k, none⟩ = some (.float .f32 x) ∧ W.cell? ⟨g2, k, none⟩ = some (.float .f32 y)) (go_keep)
            (first | (refine stepF_snoc (by rfl) (.tmp 23) (.tmp 33) (by rfl) w.heap.size _ rs k (by rfl) (HOA.out _) HS.out.num wr.heap.size (by rfl) r (HLC.out _) (by omega) (by have := HSZ.out; simp; omega) ?_; intro g6 cap6 w6 ho6 hg6 hor6 hlt6; have hs6 := HNX.out _ w6 g6 cap6 ho6 hg6 hor6; obtain ⟨k0, k1⟩ := HL6.out w6 _ _ _ _ hs6))
          have HS6 := Lib.hid hs6
          clear ho6 hg6 hor6 k0 k1 hs6
          go_wp2
          go_roundw
          case rel => exact ⟨k + 1, g6, cap6, rs ++ [r], by omega, by go_num, rfl, HS6.out⟩
          case measure => simp [intOf]; omega
        · obtain ⟨r, hr, hrd⟩ := hrun wr.drew
          have HRR := Lib.hid hr
          have HOA := Lib.hid (fun (o : Obj) => (show OwnF (wr.alloc o).drew.drew w.heap.size (.slice (some ⟨gg, 0, none⟩) k cc) rs from HS.out.own.alloc o))
          have HLC := Lib.hid (fun (z : Nat) => (show (wr.alloc (.cells #[.float .f32 z] 39)).drew.drew.cell? ⟨wr.heap.size, 0, none⟩ = some (.float .f32 z) from lit_cell z wr))
          have HNX := Lib.hid (fun (o : Obj) (w6 : World) g6 cap6 (ho : OwnF w6 w.heap.size (.slice (some ⟨g6, 0, none⟩) (k + 1) cap6) (rs ++ [r])) (hg6 : (wr.alloc o).drew.drew.grownBy w6 (Value.slice (some ⟨gg, 0, none⟩) k cc).ownBlock) hor => HS.out.snoc o ho (show (wr.alloc o).grownBy w6 _ from ⟨hg6.os, hg6.tape, hg6.output, hg6.size, hg6.block⟩) hor hlt HLT.out (by rw [HXY.out.1, HXY.out.2]; exact HRR.out))
          clear hr hrun
          go_wp2
          go_region_law
            (first | (refine stepF_snoc (by rfl) (.tmp 23) (.tmp 33) (by rfl) w.heap.size _ rs k (by rfl) (HOA.out _) HS.out.num wr.heap.size (by rfl) r (HLC.out _) (by omega) (by have := HSZ.out; simp; omega) ?_; intro g6 cap6 w6 ho6 hg6 hor6 hlt6; have hs6 := HNX.out _ w6 g6 cap6 ho6 hg6 hor6; obtain ⟨k0, k1⟩ := HL6.out w6 _ _ _ _ hs6))
          all_goals
            have HS6 := Lib.hid hs6
            clear ho6 hg6 hor6 k0 k1 hs6
            go_wp2
            go_roundw
            case rel => exact ⟨k + 1, g6, cap6, rs ++ [r], by omega, by go_num, rfl, HS6.out⟩
            case measure => simp [intOf]; omega
      · have hkk : k = bs.length := by omega
        subst hkk
        have HNN := Lib.hid HS.out.own.new
        have HBB := Lib.hid HS.out.below
        have HCR := Lib.hid (show ColourR xs rs true from ⟨bs, HBR.out, by simpa using ⟨HS.out.num.trans HBL.out, HS.out.res⟩⟩)
        go_wp2
        go_ret2
        exact AnsB.mk HCR.out HNN.out HBB.out
end Go.Proofs.Ytnkmcjiohmnfhaa
