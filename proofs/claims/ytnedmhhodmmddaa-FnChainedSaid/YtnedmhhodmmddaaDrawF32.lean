/-
  What is proved: what the functions that draw samples of chapter 3 answer.
  Conditions: the cursor's block holds a cursor.
-/
import Derived.Test.YtnedmhhodmmddaaEnc
import Derived.Deep.RegionWith
import Derived.Deep.RegionHeld3
namespace Go.Proofs.Ytnedmhhodmmddaa
set_option linter.unusedVariables false
open Go.RowKit
attribute [local go_sem] run_store_float run_store_complex unary_negf neg256

theorem putGrown {w w1 w6 : World} {g g1 : Nat} {o : Obj} (hg : w.grownBy w1 (some g)) (hsz : w.heap.size ≤ w1.heap.size) (hg6 : (w1.alloc o).grownBy w6 (some g1)) (h : g1 = g ∨ w.heap.size ≤ g1) : w.grownBy w6 (some g) := by
  have hA := grown_alloc hg o
  rcases h with rfl | h
  · exact hA.trans hg6
  · exact grown_own hA hg6 (fun r hr => by cases hr; exact h)
def PutPost (base : Nat) (g n cap : Nat) (w : World) (e : Ending) (w' : World) : Prop :=
  ∃ g' cap' ys, e = .returned (.slice (some ⟨g', 0, none⟩) (n + 4) cap') ∧ ys.length = n + 4 ∧ OwnF w' base (.slice (some ⟨g', 0, none⟩) (n + 4) cap') ys ∧ w.grownBy w' (some g)
set_option maxHeartbeats 2000000 in
theorem specPut_any (base g n cap : Nat) (xs : List Nat) (y u v : Nat) (w : World) (ho : OwnF w base (.slice (some ⟨g, 0, none⟩) n cap) xs) (hx : xs.length = n) (hl : n ≤ 1000000) (hbase : base ≤ w.heap.size) :
    Calls Try.prog 73 #[.slice (some ⟨g, 0, none⟩) n cap, .float .f32 y, .complex .f32 u v] w fun e w' => PutPost base g n cap w e w' := by
  have HO := Lib.hid ho
  have HX := Lib.hid hx
  have hgb := (ho.lt g rfl).1
  have hgl := (ho.lt g rfl).2
  have HCR := fun m W => Lib.hid (specCarried_any u v m W)
  clear ho hx
  go_enter Try.func73, Try.ntmps73
  go_wp2
  go_loopw [0, 7] (fun out i wr => ∃ (k g1 cap1 : Nat) (rs : List Nat), k ≤ 4 ∧ i = .int .i64 (k : Int) ∧ out = .slice (some ⟨g1, 0, none⟩) (n + k) cap1 ∧ w.grownBy wr (some g) ∧ (g1 = g ∨ w.heap.size ≤ g1) ∧ rs.length = n + k ∧ OwnF wr base (.slice (some ⟨g1, 0, none⟩) (n + k) cap1) rs) (fun _ i _ => 4 - (intOf i).toNat)
  case atStart => exact ⟨0, g, cap, xs, Nat.zero_le _, rfl, rfl, World.grownBy.refl _ _, .inl rfl, HX.out, HO.out⟩
  case round =>
    obtain ⟨k, g1, cap1, rs, hk, rfl, rfl, hg, hg1, hrl, hown⟩ := hrel
    have HOK := Lib.hid hown
    have HR := Lib.hid hrl
    have HG := Lib.hid hg
    have hsz := hg.size
    clear hown hrl HO hg
    by_cases hlt : k < 4
    · go_wp2_with fail
      refine (HCR _ _).out.mono ?_
      rintro e w1 ⟨rfl, rfl⟩
      have HG1 := Lib.hid hg1
      clear hg1
      rcases res_any .add (.inl rfl) y (carriedOf u v (k : Int)) with ⟨r, _, hrun⟩ | hrun
      · skip
        have HOA := Lib.hid (fun (o : Obj) => (show OwnF (wr.alloc o) base (.slice (some ⟨g1, 0, none⟩) (n + k) cap1) rs from HOK.out.alloc o))
        have HLC := Lib.hid (fun (z : Nat) => (show (wr.alloc (.cells #[.float .f32 z] 30)).cell? ⟨wr.heap.size, 0, none⟩ = some (.float .f32 z) from lit_cell z wr))
        go_wp2_with (at_builtin; refine ownF_snoc rfl (.tmp 12) (.tmp 18) rfl base _ rs (n + k) rfl (HOA.out _) HR.out _ rfl r (HLC.out _) (by omega) (by simp; omega) ?_; intro g6 cap6 w6 ho6 hg6 hor6 hlt6)
        have hg7 : w.grownBy w6 (some g) := putGrown HG.out hsz (show (wr.alloc _).grownBy w6 _ from ⟨hg6.os, hg6.tape, hg6.output, hg6.size, hg6.block⟩) HG1.out
        have hor7 : g6 = g ∨ w.heap.size ≤ g6 := by
          rcases hor6 with h | h
          · have h' : g1 = g6 := Option.some.inj h
            rw [← h']; exact HG1.out
          · right; have := hsz; simp at h; omega
        have HO6 := Lib.hid ho6
        clear ho6 hg6 hor6
        go_roundw
        case rel => exact ⟨k + 1, g6, cap6, rs ++ [r], by omega, by go_num, rfl, hg7, hor7, by simp [HR.out]; omega, HO6.out⟩
        case measure => simp [intOf]; omega
      · obtain ⟨r, _, hrd⟩ := hrun wr
        clear hrun
        have HOA := Lib.hid (fun (o : Obj) => (show OwnF (wr.alloc o).drew base (.slice (some ⟨g1, 0, none⟩) (n + k) cap1) rs from HOK.out.alloc o))
        have HLC := Lib.hid (fun (z : Nat) => (show (wr.alloc (.cells #[.float .f32 z] 30)).drew.cell? ⟨wr.heap.size, 0, none⟩ = some (.float .f32 z) from lit_cell z wr))
        go_wp2_with (at_builtin; refine ownF_snoc rfl (.tmp 12) (.tmp 18) rfl base _ rs (n + k) rfl (HOA.out _) HR.out _ rfl r (HLC.out _) (by omega) (by simp; omega) ?_; intro g6 cap6 w6 ho6 hg6 hor6 hlt6)
        have hg7 : w.grownBy w6 (some g) := putGrown HG.out hsz (show (wr.alloc _).grownBy w6 _ from ⟨hg6.os, hg6.tape, hg6.output, hg6.size, hg6.block⟩) HG1.out
        have hor7 : g6 = g ∨ w.heap.size ≤ g6 := by
          rcases hor6 with h | h
          · have h' : g1 = g6 := Option.some.inj h
            rw [← h']; exact HG1.out
          · right; have := hsz; simp at h; omega
        have HO6 := Lib.hid ho6
        clear ho6 hg6 hor6
        go_roundw
        case rel => exact ⟨k + 1, g6, cap6, rs ++ [r], by omega, by go_num, rfl, hg7, hor7, by simp [HR.out]; omega, HO6.out⟩
        case measure => simp [intOf]; omega
    · have hk4 : k = 4 := by omega
      subst hk4
      go_wp2
      go_ret
      exact ⟨g1, cap1, rs, rfl, HR.out, HOK.out, HG.out⟩

theorem specConj_any (u v : Nat) (w : World) :
    Calls Try.prog 72 #[.complex .f32 u v] w fun e w' => e = .returned (.complex .f32 u (Op.negFloat .f32 v)) ∧ w = w' := by
  go_enter Try.func72, Try.ntmps72
  go_wp2
  go_ret
  exact ⟨rfl, rfl⟩
def SampW (N : Nat) (w : World) (e : Ending) (w' : World) : Prop :=
  ∃ g cap ys, e = .returned (.slice (some ⟨g, 0, none⟩) ys.length cap) ∧ ys.length ≤ N ∧ OwnF w' w.heap.size (.slice (some ⟨g, 0, none⟩) ys.length cap) ys ∧ Below w.heap.size w w'
theorem SampW.mk {N n : Nat} {w w' : World} {g cap : Nat} {ys : List Nat} (hn : ys.length = n) (hl : n ≤ N) (ho : OwnF w' w.heap.size (.slice (some ⟨g, 0, none⟩) n cap) ys) (hb : Below w.heap.size w w') : SampW N w (.returned (.slice (some ⟨g, 0, none⟩) n cap)) w' := by
  subst hn; exact ⟨g, cap, ys, rfl, hl, ho, hb⟩
set_option maxHeartbeats 2000000 in
theorem specEncode_any (v : Value) (cs : List C3) (odd : Bool) (w : World) (h : RowV w v cs) (hl : cs.length ≤ 1000) :
    Calls Try.prog 69 #[v, .bool odd] w fun e w' => SampW 4000 w e w' := by
  have hbel := (Below.refl w.heap.size w).alloc (Nat.le_refl _) (.cells #[] 30)
  have HOW := Lib.hid (OwnF.made0 w)
  have hsz : w.heap.size < (w.alloc (.cells #[] 30)).heap.size := by simp
  have HV := Lib.hid h
  have HRO := fun W hW => Lib.hid (specRowOk_any v cs W hW (by omega))
  clear h
  go_enter Try.func69, Try.ntmps69
  go_wp2_with fail
  refine (HRO _ (HV.out.below hbel)).out.mono ?_
  rintro e w1 ⟨rfl, hb1⟩
  have hbel1 := below_trans hbel hb1 hbel.size
  have HO1 := Lib.hid (HOW.out.kept (grown_of hb1) (.inr (by intro e; cases e)))
  have hs1 : w.heap.size < w1.heap.size := Nat.lt_of_lt_of_le hsz hb1.size
  clear HOW hb1 hbel hsz
  cases hrk : rok cs with
  | false =>
    go_wp2
    go_ret
    exact SampW.mk rfl (by simp) HO1.out hbel1
  | true =>
    have hne := rok_ne hrk
    obtain ⟨g, o, cap, rfl, hcap, hcell⟩ : ∃ g o cap, v = .slice (some ⟨g, o, none⟩) cs.length cap ∧ cs.length ≤ cap ∧ ∀ i (h : i < cs.length), w.cell? ⟨g, o + i * 2, none⟩ = some (.float .f32 cs[i].1) ∧ w.cell? ⟨g, o + i * 2 + 1, none⟩ = some (.complex .f32 cs[i].2.1 cs[i].2.2) := by
      rcases HV.out with ⟨_, h1⟩ | h1
      · exact absurd h1 hne
      · exact h1
    have HC := Lib.hid hcell
    clear hcell hne hrk HRO HV
    go_wp2
    go_loopw [5, 6] (fun out i wr => ∃ (k g1 cap1 : Nat) (rs : List Nat), k ≤ cs.length ∧ i = .int .i64 (k : Int) ∧ out = .slice (some ⟨g1, 0, none⟩) (4 * k) cap1 ∧ Below w.heap.size w wr ∧ w.heap.size < wr.heap.size ∧ rs.length = 4 * k ∧ OwnF wr w.heap.size (.slice (some ⟨g1, 0, none⟩) (4 * k) cap1) rs) (fun _ i _ => cs.length - (intOf i).toNat)
    case atStart => exact ⟨0, _, 0, [], Nat.zero_le _, rfl, rfl, hbel1, hs1, rfl, HO1.out⟩
    case round =>
      obtain ⟨k, g1, cap1, rs, hk, rfl, rfl, hb, hs, hrl, hown⟩ := hrel
      have HOK := Lib.hid hown
      have HR := Lib.hid hrl
      clear hown hrl HO1
      by_cases hlt : k < cs.length
      · obtain ⟨hc0, hc1⟩ := HC.out k hlt
        have m0 := (grown_of hb).cell hc0 (by simp)
        have m1 := (grown_of hb).cell hc1 (by simp)
        generalize cs[k] = c at *
        obtain ⟨y, u, vv⟩ := c
        have HPT := fun z t W hW hbs => Lib.hid (specPut_any w.heap.size g1 (4 * k) cap1 rs y z t W hW HR.out (by omega) hbs)
        clear hc0 hc1
        cases odd
        · go_wp2_with fail
          refine (HPT _ _ _ HOK.out hb.size).out.mono ?_
          rintro e w3 ⟨g3, cap3, ys3, rfl, hl3, ho3, hg3⟩
          have hb3 : Below w.heap.size w w3 := hb.grown hg3 hb.size (fun r hr => by cases hr; exact (HOK.out.lt g1 rfl).1)
          have hs3 : w.heap.size < w3.heap.size := Nat.lt_of_lt_of_le hs hg3.size
          have HO3 := Lib.hid ho3
          clear ho3 hg3
          go_wp2
          go_roundw
          case rel => exact ⟨k + 1, g3, cap3, ys3, by omega, by go_num, rfl, hb3, hs3, hl3, HO3.out⟩
          case measure => simp [intOf]; omega
        · go_wp2_with fail
          refine (specConj_any u vv _).mono ?_
          rintro e w2 ⟨rfl, rfl⟩
          go_wp2_with fail
          refine (HPT _ _ _ HOK.out hb.size).out.mono ?_
          rintro e w3 ⟨g3, cap3, ys3, rfl, hl3, ho3, hg3⟩
          have hb3 : Below w.heap.size w w3 := hb.grown hg3 hb.size (fun r hr => by cases hr; exact (HOK.out.lt g1 rfl).1)
          have hs3 : w.heap.size < w3.heap.size := Nat.lt_of_lt_of_le hs hg3.size
          have HO3 := Lib.hid ho3
          clear ho3 hg3
          go_wp2
          go_roundw
          case rel => exact ⟨k + 1, g3, cap3, ys3, by omega, by go_num, rfl, hb3, hs3, hl3, HO3.out⟩
          case measure => simp [intOf]; omega
      · have hkk : k = cs.length := by omega
        subst hkk
        go_wp2
        go_ret
        exact SampW.mk HR.out (by omega) HOK.out hb

theorem RowV.curF {w w' : World} {v : Value} {cs : List C3} {b : Nat} (h : RowV w v cs) (hg : w.grownBy w' (some b)) (hc : Cur w b) : RowV w' v cs := by
  rcases h with h | ⟨g, o, cap, h1, h2, h3⟩
  · exact .inl h
  · refine .inr ⟨g, o, cap, h1, h2, fun i hi => ?_⟩
    obtain ⟨k0, k1⟩ := h3 i hi
    obtain ⟨_, _, _, _, _, _, _, _, _, hbk⟩ := hc
    have hne : g ≠ b := by
      rintro rfl
      simp only [World.cell?, hbk] at k0
      rcases (by omega : o + i * 2 = 0 ∨ o + i * 2 = 1 ∨ o + i * 2 = 2 ∨ 3 ≤ o + i * 2) with e | e | e | e
      · rw [e] at k0; simp at k0
      · rw [e] at k0; simp at k0
      · rw [e] at k0; simp at k0
      · rw [Array.getElem?_eq_none (by simpa using e)] at k0; cases k0
    exact ⟨hg.cell k0 (by simpa using hne), hg.cell k1 (by simpa using hne)⟩
theorem OwnF.mono {w : World} {base base' : Nat} {v : Value} {xs : List Nat} (h : OwnF w base v xs) (hb : base' ≤ base) : OwnF w base' v xs :=
  ⟨h.1, h.2.elim .inl (fun ⟨g, cap, cur, h1, h2, h3⟩ => .inr ⟨g, cap, cur, h1, by omega, h3⟩)⟩
def lenOf : Value → Nat
  | .slice _ n _ => n
  | _ => 0
def lit4 : List Nat := [1065353216, 1073741824, 1077936128, 1082130432]
theorem lit4_cell (W : World) : ∀ i (h : i < lit4.length), (W.alloc (.cells #[.float .f32 1065353216, .float .f32 1073741824, .float .f32 1077936128, .float .f32 1082130432] 30)).cell? ⟨W.heap.size, 0 + i, none⟩ = some (.float .f32 lit4[i]) := by
  intro i hi
  have hi4 : i = 0 ∨ i = 1 ∨ i = 2 ∨ i = 3 := by have : i < 4 := hi; omega
  have hn := heap_alloc_new W (.cells #[.float .f32 1065353216, .float .f32 1073741824, .float .f32 1077936128, .float .f32 1082130432] 30)
  rcases hi4 with rfl | rfl | rfl | rfl <;> exact (cell_of_row _ _ _ _ _ _ hn).trans rfl
theorem OwnF.at {w : World} {base g n cap : Nat} {xs : List Nat} (h : OwnF w base (.slice (some ⟨g, 0, none⟩) n cap) xs) (hn : xs.length = n) (i : Nat) (hi : i < n) : (∃ x, w.cell? ⟨g, i, none⟩ = some x) ∧ w.frozen? ⟨g, i, none⟩ = false := by
  rcases h.2 with ⟨h1, _⟩ | ⟨g', cap', cur, h1, _, hg, hle, _, hsz, _⟩
  · cases h1
  · simp only [Value.slice.injEq, Option.some.injEq, Addr.mk.injEq] at h1
    obtain ⟨⟨rfl, _⟩, _, rfl⟩ := h1
    refine ⟨⟨cur[i]'(by omega), ?_⟩, ?_⟩
    · simp [World.cell?, hg, Array.getElem?_eq_getElem (show i < cur.size by omega)]
    · simp [World.frozen?, hg]
theorem OwnF.set {w : World} {base g n cap : Nat} {xs : List Nat} (h : OwnF w base (.slice (some ⟨g, 0, none⟩) n cap) xs) (hn : xs.length = n) (i : Nat) (hi : i < n) (z : Nat) : OwnF (w.setCell ⟨g, i, none⟩ (.float .f32 z)) base (.slice (some ⟨g, 0, none⟩) n cap) (xs.set i z) := by
  subst hn
  refine ⟨by simp, ?_⟩
  rcases h.2 with ⟨h1, _⟩ | ⟨g', cap', cur, h1, hb, hg, hle, hm, hsz, htk⟩
  · cases h1
  · simp only [Value.slice.injEq, Option.some.injEq, Addr.mk.injEq] at h1
    obtain ⟨⟨rfl, _⟩, _, rfl⟩ := h1
    refine .inr ⟨g, cap, cur.setIfInBounds i (.float .f32 z), by simp, hb, heapF hg, by simpa using hle, hm, by simpa using hsz, ?_⟩
    rw [List.length_set, Array.toList_setIfInBounds, List.map_set, ← htk, List.take_set]
def SampPost (b : Nat) (w : World) (e : Ending) (w' : World) : Prop :=
  ∃ g cap ys, e = .returned (.slice (some ⟨g, 0, none⟩) ys.length cap) ∧ ys.length ≤ 5000 ∧ OwnF w' w.heap.size (.slice (some ⟨g, 0, none⟩) ys.length cap) ys ∧ Cur w' b ∧ w.grownBy w' (some b)
theorem SampPost.mk {b n : Nat} {w w' : World} {g cap : Nat} {ys : List Nat} (hn : ys.length = n) (hl : n ≤ 5000) (ho : OwnF w' w.heap.size (.slice (some ⟨g, 0, none⟩) n cap) ys) (hc : Cur w' b) (hg : w.grownBy w' (some b)) : SampPost b w (.returned (.slice (some ⟨g, 0, none⟩) n cap)) w' := by
  subst hn; exact ⟨g, cap, ys, rfl, hl, ho, hc, hg⟩
theorem grownOf {a w w' : World} {g : Nat} (h : a.grownBy w (some g)) (hb : Below w.heap.size w w') : a.grownBy w' (some g) := grown_own h (grown_of hb) (fun r hr => by cases hr)
set_option maxHeartbeats 4000000 in
set_option maxRecDepth 20000 in
theorem l03Samples_any (b : Nat) (w : World) (hc : Cur w b) :
    Calls Try.prog 65 #[.pointer (some ⟨b, 0, none⟩)] w fun e w' => SampPost b w e w' := by
  have hlt := hc.lt
  go_enter Try.func65, Try.ntmps65
  go_wp2_with fail
  refine (l01Once_any _ _ _ hc (by decide) (by decide)).mono ?_
  rintro e w1 ⟨t, rfl, hc1, hg1⟩
  cases t
  · go_wp2_with fail
    refine (l02Any_any _ _ hc1).mono ?_
    rintro e w2 ⟨v, cs, hl, hf, rfl, hr, hc2, hg2⟩
    have HR := Lib.hid hr
    clear hr hf
    go_wp2_with fail
    refine (l01Once_any _ _ _ hc2 (by decide) (by decide)).mono ?_
    rintro e w3 ⟨odd, rfl, hc3, hg3⟩
    have HR3 := Lib.hid (HR.out.curF hg3 hc2)
    have hg03 := (hg1.trans hg2).trans hg3
    have hs3 := hg03.size
    clear HR hg1 hg2 hg3 hc1 hc2
    go_wp2_with fail
    refine (specEncode_any v cs odd w3 HR3.out hl).mono ?_
    rintro e w4 ⟨g, cap, ys, rfl, hyl, ho4, hb4⟩
    have hg04 := grownOf hg03 hb4
    have hc4 : Cur w4 b := hc3.grown (grown_of hb4) (fun r h => by cases h)
    have HO4 := Lib.hid (OwnF.mono ho4 hs3)
    clear ho4 hb4 hg03 hc3 HR3
    cases ys with
    | nil =>
      have HO5 := Lib.hid (show OwnF w4 w.heap.size (.slice (some ⟨g, 0, none⟩) 0 cap) [] from HO4.out)
      clear HO4
      go_wp2_with fail
      refine (l01Once_any _ _ _ hc4 (by decide) (by decide)).mono ?_
      rintro e wt ⟨t3, rfl, hct, hgt⟩
      have HOT := Lib.hid (HO5.out.kept hgt (.inr (by intro e; have h1 : g = b := Option.some.inj e; have := (HO5.out.lt g rfl).1; omega)))
      have hg0t := hg04.trans hgt
      have HLT := Lib.hid (show (([] : List Nat)).length = 0 from by simp)
      clear HO5 hg04 hgt hc4
      cases t3
      · go_wp2
        go_ret
        exact SampPost.mk HLT.out (by omega) HOT.out hct hg0t
      · go_wp2
        go_loopw [5] (fun out wr => ∃ (n g1 cap1 : Nat) (r1 : List Nat), out = .slice (some ⟨g1, 0, none⟩) n cap1 ∧ r1.length = n ∧ n ≤ 4500 ∧ w.grownBy wr (some b) ∧ Cur wr b ∧ OwnF wr w.heap.size (.slice (some ⟨g1, 0, none⟩) n cap1) r1) (fun out _ => 260 - lenOf out)
        case atStart => exact ⟨0, g, cap, ([] : List Nat), rfl, HLT.out, by omega, hg0t, hct, HOT.out⟩
        case round =>
          obtain ⟨n, g1, cap1, r1, rfl, hrl, hn45, hgr, hcr, hown⟩ := hrel
          have HOK := Lib.hid hown
          have HRL := Lib.hid hrl
          have hszr := hgr.size
          clear hown HOT hrl HLT
          by_cases hnn : n < 260
          · go_wp2_with (at_builtin; refine ownF_append rfl (.tmp 46) (.tmp 47) rfl w.heap.size _ r1 lit4 rfl (HOK.out.alloc _) _ 0 4 rfl (lit4_cell _) (by decide) (by have := HRL.out; simp [lit4]; omega) (by simp; omega) ?_; intro g6 cap6 w6 ho6 hg6 hor6 hlt6)
            have hg7 : w.grownBy w6 (some b) := grown_own (grown_alloc hgr _) hg6 (fun r hr => (HOK.out.lt r hr).1)
            have hc7 : Cur w6 b := (hcr.alloc _).grown hg6 (fun r hr => by have := (HOK.out.lt r hr).1; omega)
            have HO6 := Lib.hid ho6
            clear ho6 hg6 hor6
            rw [HRL.out] at HO6
            go_wp2
            go_roundw
            case rel => exact ⟨n + 4, g6, cap6, r1 ++ lit4, by rw [HRL.out]; rfl, by simp [HRL.out, lit4], by omega, hg7, hc7, HO6.out⟩
            case measure => simp [lenOf, lit4, HRL.out]; omega
          · go_wp2
            go_ret
            exact SampPost.mk HRL.out (by omega) HOK.out hcr hgr
    | cons z zs =>
      obtain ⟨N, hN⟩ : ∃ N, (z :: zs).length = N := ⟨_, rfl⟩
      have hN0 : 0 < N := by rw [← hN]; simp
      rw [hN] at HO4 hyl ⊢
      generalize z :: zs = ys at *
      have HN := Lib.hid hN
      clear hN
      go_wp2_with fail
      refine (l01Once_any _ _ _ hc4 (by decide) (by decide)).mono ?_
      rintro e w5 ⟨t2, rfl, hc5, hg5⟩
      have HO5 := Lib.hid (HO4.out.kept hg5 (.inr (by intro e; have h1 : g = b := Option.some.inj e; have := (HO4.out.lt g rfl).1; omega)))
      have hg05 := hg04.trans hg5
      clear HO4 hg04 hg5 hc4
      cases t2
      · skip
        go_wp2_with fail
        refine (l01Once_any _ _ _ hc5 (by decide) (by decide)).mono ?_
        rintro e wt ⟨t3, rfl, hct, hgt⟩
        have HOT := Lib.hid (HO5.out.kept hgt (.inr (by intro e; have h1 : g = b := Option.some.inj e; have := (HO5.out.lt g rfl).1; omega)))
        have hg0t := hg05.trans hgt
        have HLT := Lib.hid (show (ys).length = N from HN.out)
        clear HO5 hg05 hgt hc5
        cases t3
        · go_wp2
          go_ret
          exact SampPost.mk HLT.out (by omega) HOT.out hct hg0t
        · go_wp2
          go_loopw [5] (fun out wr => ∃ (n g1 cap1 : Nat) (r1 : List Nat), out = .slice (some ⟨g1, 0, none⟩) n cap1 ∧ r1.length = n ∧ n ≤ 4500 ∧ w.grownBy wr (some b) ∧ Cur wr b ∧ OwnF wr w.heap.size (.slice (some ⟨g1, 0, none⟩) n cap1) r1) (fun out _ => 260 - lenOf out)
          case atStart => exact ⟨N, g, cap, ys, rfl, HLT.out, by omega, hg0t, hct, HOT.out⟩
          case round =>
            obtain ⟨n, g1, cap1, r1, rfl, hrl, hn45, hgr, hcr, hown⟩ := hrel
            have HOK := Lib.hid hown
            have HRL := Lib.hid hrl
            have hszr := hgr.size
            clear hown HOT hrl HLT
            by_cases hnn : n < 260
            · go_wp2_with (at_builtin; refine ownF_append rfl (.tmp 46) (.tmp 47) rfl w.heap.size _ r1 lit4 rfl (HOK.out.alloc _) _ 0 4 rfl (lit4_cell _) (by decide) (by have := HRL.out; simp [lit4]; omega) (by simp; omega) ?_; intro g6 cap6 w6 ho6 hg6 hor6 hlt6)
              have hg7 : w.grownBy w6 (some b) := grown_own (grown_alloc hgr _) hg6 (fun r hr => (HOK.out.lt r hr).1)
              have hc7 : Cur w6 b := (hcr.alloc _).grown hg6 (fun r hr => by have := (HOK.out.lt r hr).1; omega)
              have HO6 := Lib.hid ho6
              clear ho6 hg6 hor6
              rw [HRL.out] at HO6
              go_wp2
              go_roundw
              case rel => exact ⟨n + 4, g6, cap6, r1 ++ lit4, by rw [HRL.out]; rfl, by simp [HRL.out, lit4], by omega, hg7, hc7, HO6.out⟩
              case measure => simp [lenOf, lit4, HRL.out]; omega
            · go_wp2
              go_ret
              exact SampPost.mk HRL.out (by omega) HOK.out hcr hgr
      · go_wp2_with fail
        refine (l01Below_any _ _ _ hc5 (by omega) (by omega)).mono ?_
        rintro e w6 ⟨x, hx, _, rfl, hc6, hg6⟩
        have hxN : x < N := by have := hx (by omega); omega
        have HO6 := Lib.hid (HO5.out.kept hg6 (.inr (by intro e; have h1 : g = b := Option.some.inj e; have := (HO5.out.lt g rfl).1; omega)))
        have hg06 := hg05.trans hg6
        clear HO5 hg05 hg6 hc5 hx
        go_wp2_with fail
        refine (l02Level_any _ _ hc6).mono ?_
        rintro e w7 ⟨r, hr, rfl, hc7, hg7⟩
        have HO7 := Lib.hid (HO6.out.kept hg7 (.inr (by intro e; have h1 : g = b := Option.some.inj e; have := (HO6.out.lt g rfl).1; omega)))
        have hg07 := hg06.trans hg7
        clear HO6 hg06 hg7 hc6 hr
        have hat := HO7.out.at HN.out x hxN
        obtain ⟨⟨x0, hx0⟩, hf0⟩ := hat
        have HO8 := Lib.hid (HO7.out.set HN.out x hxN r)
        have hgb := (HO7.out.lt g rfl).1
        have hg08 := grown_set hg07 (p := ⟨g, x, none⟩) hgb (.float .f32 r)
        have hc8 := hc7.set (p := ⟨g, x, none⟩) (Nat.lt_of_lt_of_le hlt hgb) (.float .f32 r)
        clear HO7 hg07 hc7
        go_wp2_with fail
        refine (l01Once_any _ _ _ hc8 (by decide) (by decide)).mono ?_
        rintro e wt ⟨t3, rfl, hct, hgt⟩
        have HOT := Lib.hid (HO8.out.kept hgt (.inr (by intro e; have h1 : g = b := Option.some.inj e; have := (HO8.out.lt g rfl).1; omega)))
        have hg0t := hg08.trans hgt
        have HLT := Lib.hid (show (ys.set x r).length = N from (by rw [List.length_set]; exact HN.out))
        clear HO8 hg08 hgt hc8
        cases t3
        · go_wp2
          go_ret
          exact SampPost.mk HLT.out (by omega) HOT.out hct hg0t
        · go_wp2
          go_loopw [5] (fun out wr => ∃ (n g1 cap1 : Nat) (r1 : List Nat), out = .slice (some ⟨g1, 0, none⟩) n cap1 ∧ r1.length = n ∧ n ≤ 4500 ∧ w.grownBy wr (some b) ∧ Cur wr b ∧ OwnF wr w.heap.size (.slice (some ⟨g1, 0, none⟩) n cap1) r1) (fun out _ => 260 - lenOf out)
          case atStart => exact ⟨N, g, cap, ys.set x r, rfl, HLT.out, by omega, hg0t, hct, HOT.out⟩
          case round =>
            obtain ⟨n, g1, cap1, r1, rfl, hrl, hn45, hgr, hcr, hown⟩ := hrel
            have HOK := Lib.hid hown
            have HRL := Lib.hid hrl
            have hszr := hgr.size
            clear hown HOT hrl HLT
            by_cases hnn : n < 260
            · go_wp2_with (at_builtin; refine ownF_append rfl (.tmp 46) (.tmp 47) rfl w.heap.size _ r1 lit4 rfl (HOK.out.alloc _) _ 0 4 rfl (lit4_cell _) (by decide) (by have := HRL.out; simp [lit4]; omega) (by simp; omega) ?_; intro g6 cap6 w6 ho6 hg6 hor6 hlt6)
              have hg7 : w.grownBy w6 (some b) := grown_own (grown_alloc hgr _) hg6 (fun r hr => (HOK.out.lt r hr).1)
              have hc7 : Cur w6 b := (hcr.alloc _).grown hg6 (fun r hr => by have := (HOK.out.lt r hr).1; omega)
              have HO6 := Lib.hid ho6
              clear ho6 hg6 hor6
              rw [HRL.out] at HO6
              go_wp2
              go_roundw
              case rel => exact ⟨n + 4, g6, cap6, r1 ++ lit4, by rw [HRL.out]; rfl, by simp [HRL.out, lit4], by omega, hg7, hc7, HO6.out⟩
              case measure => simp [lenOf, lit4, HRL.out]; omega
            · go_wp2
              go_ret
              exact SampPost.mk HRL.out (by omega) HOK.out hcr hgr
  · have hcA := hc1.alloc (.cells #[] 30)
    have hgA := grown_alloc hg1 (.cells #[] 30)
    have HOW := Lib.hid (OwnF.made0 w1)
    have hsz1 := hg1.size
    have hszA : (w1.alloc (.cells #[] 30)).heap.size = w1.heap.size + 1 := by simp
    go_wp2_with fail
    generalize w1.alloc (.cells #[] 30) = wA at *
    refine (l01Below_any _ _ _ hcA (by decide) (by decide)).mono ?_
    rintro e w2 ⟨n, hn, _, rfl, hc2, hg2⟩
    have hn := hn (by decide)
    have HO2 := Lib.hid (HOW.out.kept hg2 (.inr (by intro e; have h1 : w1.heap.size = b := Option.some.inj e; omega)))
    have hg02 := hgA.trans hg2
    clear HOW hcA hgA hg2
    go_wp2
    go_loopw [3, 4] (fun out nn wr => ∃ (m g cap : Nat) (rs : List Nat), nn = .int .i64 (m : Int) ∧ out = .slice (some ⟨g, 0, none⟩) rs.length cap ∧ rs.length + m ≤ 14 ∧ w.grownBy wr (some b) ∧ Cur wr b ∧ OwnF wr w.heap.size (.slice (some ⟨g, 0, none⟩) rs.length cap) rs) (fun _ nn _ => (intOf nn).toNat)
    case atStart => exact ⟨n, _, 0, [], rfl, rfl, by simp; omega, hg02, hc2, by
      have := HO2.out
      exact ⟨this.1, this.2.elim .inl (fun ⟨g, cap, cur, h1, h2, h3⟩ => .inr ⟨g, cap, cur, h1, by omega, h3⟩)⟩⟩
    case round =>
      obtain ⟨m, g, cap, rs, rfl, rfl, hm, hg, hcr, hown⟩ := hrel
      have HOK := Lib.hid hown
      clear hown HO2
      by_cases hm0 : 0 < m
      · go_wp2_with fail
        refine (l02Level_any _ _ hcr).mono ?_
        rintro e w3 ⟨x, hx, rfl, hc3, hg3⟩
        have HOK3 := Lib.hid (HOK.out.kept hg3 (.inr (by intro e; have h1 : g = b := Option.some.inj e; have := (HOK.out.lt g rfl).1; omega)))
        have hgw3 := hg.trans hg3
        have HGW := Lib.hid hgw3
        have hsz3 := hgw3.size
        clear HOK hg3 hg
        go_wp2_with (at_builtin; refine ownF_snoc rfl (.tmp 15) (.tmp 18) rfl w.heap.size _ rs rs.length rfl (HOK3.out.alloc _) rfl _ rfl x (lit_cell x _) (by omega) (by simp; omega) ?_; intro g6 cap6 w6 ho6 hg6 hor6 hlt6)
        have hg7 : w.grownBy w6 (some b) := grown_own (grown_alloc HGW.out _) hg6 (fun r hr => (HOK3.out.lt r hr).1)
        have hc7 : Cur w6 b := (hc3.alloc _).grown hg6 (fun r hr => by have := (HOK3.out.lt r hr).1; omega)
        have HO6 := Lib.hid ho6
        clear ho6 hg6 hor6
        go_wp2
        go_roundw
        case rel => exact ⟨m - 1, g6, cap6, rs ++ [x], by go_num, by simp, by simp; omega, hg7, hc7, by simpa using HO6.out⟩
        case measure => simp [intOf]; omega
      · have hm1 : m = 0 := by omega
        subst hm1
        go_wp2
        go_ret
        exact SampPost.mk rfl (by omega) HOK.out hcr hg
end Go.Proofs.Ytnedmhhodmmddaa
