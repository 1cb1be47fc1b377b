/-
  What is proved: what the functions that draw samples of chapter 3 answer.
  Conditions: the cursor's block holds a cursor.
-/
import Derived.Test.YtgecclccmmcdoaaEnc
import Derived.Deep.RegionWith
import Derived.Deep.RegionHeld3
namespace Go.Proofs.Ytgecclccmmcdoaa
set_option linter.unusedVariables false
open Go.RowKit
attribute [local go_sem] run_store_float run_store_complex unary_negf neg256

theorem putGrown {w w1 w6 : World} {g g1 : Nat} {o : Obj} (hg : w.grownBy w1 (some g)) (hsz : w.heap.size ≤ w1.heap.size) (hg6 : (w1.alloc o).grownBy w6 (some g1)) (h : g1 = g ∨ w.heap.size ≤ g1) : w.grownBy w6 (some g) := by
  have hA := grown_alloc hg o
  rcases h with rfl | h
  · exact hA.trans hg6
  · exact grown_own hA hg6 (fun r hr => by cases hr; exact h)
def PutPost (base : Nat) (g n cap : Nat) (w : World) (e : Ending) (w' : World) : Prop :=
  ∃ g' cap' ys, e = .returned (.slice (some ⟨g', 0, none⟩) (n + 4) cap') ∧ ys.length = n + 4 ∧ OwnF w' base (.slice (some ⟨g', 0, none⟩) (n + 4) cap') ys ∧ w.grownBy w' (some g)
set_option maxHeartbeats 2000000 in
theorem specPut_any (base g n cap : Nat) (xs : List Nat) (y u v : Nat) (w : World) (ho : OwnF w base (.slice (some ⟨g, 0, none⟩) n cap) xs) (hx : xs.length = n) (hl : n ≤ 1000000) (hbase : base ≤ w.heap.size) :
    Calls Try.prog 152 #[.slice (some ⟨g, 0, none⟩) n cap, .float .f32 y, .complex .f32 u v] w fun e w' => PutPost base g n cap w e w' := by
  have HO := Lib.hid ho
  have HX := Lib.hid hx
  have hgb := (ho.lt g rfl).1
  have hgl := (ho.lt g rfl).2
  have HCR := fun m W => Lib.hid (specCarried_any u v m W)
  clear ho hx
  go_enter Try.func152, Try.ntmps152
  go_wp2
  go_loopw [0, 7] (fun out i wr => ∃ (k g1 cap1 : Nat) (rs : List Nat), k ≤ 4 ∧ i = .int .i64 (k : Int) ∧ out = .slice (some ⟨g1, 0, none⟩) (n + k) cap1 ∧ w.grownBy wr (some g) ∧ (g1 = g ∨ w.heap.size ≤ g1) ∧ rs.length = n + k ∧ OwnF wr base (.slice (some ⟨g1, 0, none⟩) (n + k) cap1) rs) (fun _ i _ => 4 - (intOf i).toNat)
  case atStart => exact ⟨0, g, cap, xs, Nat.zero_le _, rfl, rfl, World.grownBy.refl _ _, .inl rfl, HX.out, HO.out⟩
  case round =>
    obtain ⟨k, g1, cap1, rs, hk, rfl, rfl, hg, hg1, hrl, hown⟩ := hrel
    have HOK := Lib.hid hown
    have HR := Lib.hid hrl
    have HG := Lib.hid hg
    have hsz := hg.size
    clear hown hrl HO hg
    by_cases hlt : k < 4
    · go_wp2_with fail
      refine (HCR _ _).out.mono ?_
      rintro e w1 ⟨rfl, rfl⟩
      have HG1 := Lib.hid hg1
      clear hg1
      rcases res_any .add (.inl rfl) y (carriedOf u v (k : Int)) with ⟨r, _, hrun⟩ | hrun
      · skip
        have HOA := Lib.hid (fun (o : Obj) => (show OwnF (wr.alloc o) base (.slice (some ⟨g1, 0, none⟩) (n + k) cap1) rs from HOK.out.alloc o))
        have HLC := Lib.hid (fun (z : Nat) => (show (wr.alloc (.cells #[.float .f32 z] 26)).cell? ⟨wr.heap.size, 0, none⟩ = some (.float .f32 z) from lit_cell z wr))
        go_wp2_with (at_builtin; refine ownF_snoc rfl (.tmp 12) (.tmp 18) rfl base _ rs (n + k) rfl (HOA.out _) HR.out _ rfl r (HLC.out _) (by omega) (by simp; omega) ?_; intro g6 cap6 w6 ho6 hg6 hor6 hlt6)
        have hg7 : w.grownBy w6 (some g) := putGrown HG.out hsz (show (wr.alloc _).grownBy w6 _ from ⟨hg6.os, hg6.tape, hg6.output, hg6.size, hg6.block⟩) HG1.out
        have hor7 : g6 = g ∨ w.heap.size ≤ g6 := by
          rcases hor6 with h | h
          · have h' : g1 = g6 := Option.some.inj h
            rw [← h']; exact HG1.out
          · right; have := hsz; simp at h; omega
        have HO6 := Lib.hid ho6
        clear ho6 hg6 hor6
        go_roundw
        case rel => exact ⟨k + 1, g6, cap6, rs ++ [r], by omega, by go_num, rfl, hg7, hor7, by simp [HR.out]; omega, HO6.out⟩
        case measure => simp [intOf]; omega
      · obtain ⟨r, _, hrd⟩ := hrun wr
        clear hrun
        have HOA := Lib.hid (fun (o : Obj) => (show OwnF (wr.alloc o).drew base (.slice (some ⟨g1, 0, none⟩) (n + k) cap1) rs from HOK.out.alloc o))
        have HLC := Lib.hid (fun (z : Nat) => (show (wr.alloc (.cells #[.float .f32 z] 26)).drew.cell? ⟨wr.heap.size, 0, none⟩ = some (.float .f32 z) from lit_cell z wr))
        go_wp2_with (at_builtin; refine ownF_snoc rfl (.tmp 12) (.tmp 18) rfl base _ rs (n + k) rfl (HOA.out _) HR.out _ rfl r (HLC.out _) (by omega) (by simp; omega) ?_; intro g6 cap6 w6 ho6 hg6 hor6 hlt6)
        have hg7 : w.grownBy w6 (some g) := putGrown HG.out hsz (show (wr.alloc _).grownBy w6 _ from ⟨hg6.os, hg6.tape, hg6.output, hg6.size, hg6.block⟩) HG1.out
        have hor7 : g6 = g ∨ w.heap.size ≤ g6 := by
          rcases hor6 with h | h
          · have h' : g1 = g6 := Option.some.inj h
            rw [← h']; exact HG1.out
          · right; have := hsz; simp at h; omega
        have HO6 := Lib.hid ho6
        clear ho6 hg6 hor6
        go_roundw
        case rel => exact ⟨k + 1, g6, cap6, rs ++ [r], by omega, by go_num, rfl, hg7, hor7, by simp [HR.out]; omega, HO6.out⟩
        case measure => simp [intOf]; omega
    · have hk4 : k = 4 := by omega
      subst hk4
      go_wp2
      go_ret
      exact ⟨g1, cap1, rs, rfl, HR.out, HOK.out, HG.out⟩

theorem specConj_any (u v : Nat) (w : World) :
    Calls Try.prog 88 #[.complex .f32 u v] w fun e w' => e = .returned (.complex .f32 u (Op.negFloat .f32 v)) ∧ w = w' := by
  go_enter Try.func88, Try.ntmps88
  go_wp2
  go_ret
  exact ⟨rfl, rfl⟩
def SampW (N : Nat) (w : World) (e : Ending) (w' : World) : Prop :=
  ∃ g cap ys, e = .returned (.slice (some ⟨g, 0, none⟩) ys.length cap) ∧ ys.length ≤ N ∧ OwnF w' w.heap.size (.slice (some ⟨g, 0, none⟩) ys.length cap) ys ∧ Below w.heap.size w w'
theorem SampW.mk {N n : Nat} {w w' : World} {g cap : Nat} {ys : List Nat} (hn : ys.length = n) (hl : n ≤ N) (ho : OwnF w' w.heap.size (.slice (some ⟨g, 0, none⟩) n cap) ys) (hb : Below w.heap.size w w') : SampW N w (.returned (.slice (some ⟨g, 0, none⟩) n cap)) w' := by
  subst hn; exact ⟨g, cap, ys, rfl, hl, ho, hb⟩
set_option maxHeartbeats 2000000 in
theorem specEncode_any (v : Value) (cs : List C3) (odd : Bool) (w : World) (h : RowV w v cs) (hl : cs.length ≤ 1000) :
    Calls Try.prog 154 #[v, .bool odd] w fun e w' => SampW 4000 w e w' := by
  have hbel := (Below.refl w.heap.size w).alloc (Nat.le_refl _) (.cells #[] 26)
  have HOW := Lib.hid (OwnF.made0 w)
  have hsz : w.heap.size < (w.alloc (.cells #[] 26)).heap.size := by simp
  have HV := Lib.hid h
  have HRO := fun W hW => Lib.hid (specRowOk_any v cs W hW (by omega))
  clear h
  go_enter Try.func154, Try.ntmps154
  go_wp2_with fail
  refine (HRO _ (HV.out.below hbel)).out.mono ?_
  rintro e w1 ⟨rfl, hb1⟩
  have hbel1 := below_trans hbel hb1 hbel.size
  have HO1 := Lib.hid (HOW.out.kept (grown_of hb1) (.inr (by intro e; cases e)))
  have hs1 : w.heap.size < w1.heap.size := Nat.lt_of_lt_of_le hsz hb1.size
  clear HOW hb1 hbel hsz
  cases hrk : rok cs with
  | false =>
    go_wp2
    go_ret
    exact SampW.mk rfl (by simp) HO1.out hbel1
  | true =>
    have hne := rok_ne hrk
    obtain ⟨g, o, cap, rfl, hcap, hcell⟩ : ∃ g o cap, v = .slice (some ⟨g, o, none⟩) cs.length cap ∧ cs.length ≤ cap ∧ ∀ i (h : i < cs.length), w.cell? ⟨g, o + i * 2, none⟩ = some (.float .f32 cs[i].1) ∧ w.cell? ⟨g, o + i * 2 + 1, none⟩ = some (.complex .f32 cs[i].2.1 cs[i].2.2) := by
      rcases HV.out with ⟨_, h1⟩ | h1
      · exact absurd h1 hne
      · exact h1
    have HC := Lib.hid hcell
    clear hcell hne hrk HRO HV
    go_wp2
    go_loopw [5, 6] (fun out i wr => ∃ (k g1 cap1 : Nat) (rs : List Nat), k ≤ cs.length ∧ i = .int .i64 (k : Int) ∧ out = .slice (some ⟨g1, 0, none⟩) (4 * k) cap1 ∧ Below w.heap.size w wr ∧ w.heap.size < wr.heap.size ∧ rs.length = 4 * k ∧ OwnF wr w.heap.size (.slice (some ⟨g1, 0, none⟩) (4 * k) cap1) rs) (fun _ i _ => cs.length - (intOf i).toNat)
    case atStart => exact ⟨0, _, 0, [], Nat.zero_le _, rfl, rfl, hbel1, hs1, rfl, HO1.out⟩
    case round =>
      obtain ⟨k, g1, cap1, rs, hk, rfl, rfl, hb, hs, hrl, hown⟩ := hrel
      have HOK := Lib.hid hown
      have HR := Lib.hid hrl
      clear hown hrl HO1
      by_cases hlt : k < cs.length
      · obtain ⟨hc0, hc1⟩ := HC.out k hlt
        have m0 := (grown_of hb).cell hc0 (by simp)
        have m1 := (grown_of hb).cell hc1 (by simp)
        generalize cs[k] = c at *
        obtain ⟨y, u, vv⟩ := c
        have HPT := fun z t W hW hbs => Lib.hid (specPut_any w.heap.size g1 (4 * k) cap1 rs y z t W hW HR.out (by omega) hbs)
        clear hc0 hc1
        cases odd
        · go_wp2_with fail
          refine (HPT _ _ _ HOK.out hb.size).out.mono ?_
          rintro e w3 ⟨g3, cap3, ys3, rfl, hl3, ho3, hg3⟩
          have hb3 : Below w.heap.size w w3 := hb.grown hg3 hb.size (fun r hr => by cases hr; exact (HOK.out.lt g1 rfl).1)
          have hs3 : w.heap.size < w3.heap.size := Nat.lt_of_lt_of_le hs hg3.size
          have HO3 := Lib.hid ho3
          clear ho3 hg3
          go_wp2
          go_roundw
          case rel => exact ⟨k + 1, g3, cap3, ys3, by omega, by go_num, rfl, hb3, hs3, hl3, HO3.out⟩
          case measure => simp [intOf]; omega
        · go_wp2_with fail
          refine (specConj_any u vv _).mono ?_
          rintro e w2 ⟨rfl, rfl⟩
          go_wp2_with fail
          refine (HPT _ _ _ HOK.out hb.size).out.mono ?_
          rintro e w3 ⟨g3, cap3, ys3, rfl, hl3, ho3, hg3⟩
          have hb3 : Below w.heap.size w w3 := hb.grown hg3 hb.size (fun r hr => by cases hr; exact (HOK.out.lt g1 rfl).1)
          have hs3 : w.heap.size < w3.heap.size := Nat.lt_of_lt_of_le hs hg3.size
          have HO3 := Lib.hid ho3
          clear ho3 hg3
          go_wp2
          go_roundw
          case rel => exact ⟨k + 1, g3, cap3, ys3, by omega, by go_num, rfl, hb3, hs3, hl3, HO3.out⟩
          case measure => simp [intOf]; omega
      · have hkk : k = cs.length := by omega
        subst hkk
        go_wp2
        go_ret
        exact SampW.mk HR.out (by omega) HOK.out hb

theorem RowV.curF {w w' : World} {v : Value} {cs : List C3} {b : Nat} (h : RowV w v cs) (hg : w.grownBy w' (some b)) (hc : Cur w b) : RowV w' v cs := by
  rcases h with h | ⟨g, o, cap, h1, h2, h3⟩
  · exact .inl h
  · refine .inr ⟨g, o, cap, h1, h2, fun i hi => ?_⟩
    obtain ⟨k0, k1⟩ := h3 i hi
    obtain ⟨_, _, _, _, _, _, _, _, _, hbk⟩ := hc
    have hne : g ≠ b := by
      rintro rfl
      simp only [World.cell?, hbk] at k0
      rcases (by omega : o + i * 2 = 0 ∨ o + i * 2 = 1 ∨ o + i * 2 = 2 ∨ 3 ≤ o + i * 2) with e | e | e | e
      · rw [e] at k0; simp at k0
      · rw [e] at k0; simp at k0
      · rw [e] at k0; simp at k0
      · rw [Array.getElem?_eq_none (by simpa using e)] at k0; cases k0
    exact ⟨hg.cell k0 (by simpa using hne), hg.cell k1 (by simpa using hne)⟩
theorem OwnF.mono {w : World} {base base' : Nat} {v : Value} {xs : List Nat} (h : OwnF w base v xs) (hb : base' ≤ base) : OwnF w base' v xs :=
  ⟨h.1, h.2.elim .inl (fun ⟨g, cap, cur, h1, h2, h3⟩ => .inr ⟨g, cap, cur, h1, by omega, h3⟩)⟩
def lenOf : Value → Nat
  | .slice _ n _ => n
  | _ => 0
def lit4 : List Nat := [1065353216, 1073741824, 1077936128, 1082130432]
theorem lit4_cell (W : World) : ∀ i (h : i < lit4.length), (W.alloc (.cells #[.float .f32 1065353216, .float .f32 1073741824, .float .f32 1077936128, .float .f32 1082130432] 26)).cell? ⟨W.heap.size, 0 + i, none⟩ = some (.float .f32 lit4[i]) := by
  intro i hi
  have hi4 : i = 0 ∨ i = 1 ∨ i = 2 ∨ i = 3 := by have : i < 4 := hi; omega
  have hn := heap_alloc_new W (.cells #[.float .f32 1065353216, .float .f32 1073741824, .float .f32 1077936128, .float .f32 1082130432] 26)
  rcases hi4 with rfl | rfl | rfl | rfl <;> exact (cell_of_row _ _ _ _ _ _ hn).trans rfl
theorem OwnF.at {w : World} {base g n cap : Nat} {xs : List Nat} (h : OwnF w base (.slice (some ⟨g, 0, none⟩) n cap) xs) (hn : xs.length = n) (i : Nat) (hi : i < n) : (∃ x, w.cell? ⟨g, i, none⟩ = some x) ∧ w.frozen? ⟨g, i, none⟩ = false := by
  rcases h.2 with ⟨h1, _⟩ | ⟨g', cap', cur, h1, _, hg, hle, _, hsz, _⟩
  · cases h1
  · simp only [Value.slice.injEq, Option.some.injEq, Addr.mk.injEq] at h1
    obtain ⟨⟨rfl, _⟩, _, rfl⟩ := h1
    refine ⟨⟨cur[i]'(by omega), ?_⟩, ?_⟩
    · simp [World.cell?, hg, Array.getElem?_eq_getElem (show i < cur.size by omega)]
    · simp [World.frozen?, hg]
theorem OwnF.set {w : World} {base g n cap : Nat} {xs : List Nat} (h : OwnF w base (.slice (some ⟨g, 0, none⟩) n cap) xs) (hn : xs.length = n) (i : Nat) (hi : i < n) (z : Nat) : OwnF (w.setCell ⟨g, i, none⟩ (.float .f32 z)) base (.slice (some ⟨g, 0, none⟩) n cap) (xs.set i z) := by
  subst hn
  refine ⟨by simp, ?_⟩
  rcases h.2 with ⟨h1, _⟩ | ⟨g', cap', cur, h1, hb, hg, hle, hm, hsz, htk⟩
  · cases h1
  · simp only [Value.slice.injEq, Option.some.injEq, Addr.mk.injEq] at h1
    obtain ⟨⟨rfl, _⟩, _, rfl⟩ := h1
    refine .inr ⟨g, cap, cur.setIfInBounds i (.float .f32 z), by simp, hb, heapF hg, by simpa using hle, hm, by simpa using hsz, ?_⟩
    rw [List.length_set, Array.toList_setIfInBounds, List.map_set, ← htk, List.take_set]
def SampPost (b : Nat) (w : World) (e : Ending) (w' : World) : Prop :=
  ∃ g cap ys, e = .returned (.slice (some ⟨g, 0, none⟩) ys.length cap) ∧ ys.length ≤ 5000 ∧ OwnF w' w.heap.size (.slice (some ⟨g, 0, none⟩) ys.length cap) ys ∧ Cur w' b ∧ w.grownBy w' (some b)
theorem SampPost.mk {b n : Nat} {w w' : World} {g cap : Nat} {ys : List Nat} (hn : ys.length = n) (hl : n ≤ 5000) (ho : OwnF w' w.heap.size (.slice (some ⟨g, 0, none⟩) n cap) ys) (hc : Cur w' b) (hg : w.grownBy w' (some b)) : SampPost b w (.returned (.slice (some ⟨g, 0, none⟩) n cap)) w' := by
  subst hn; exact ⟨g, cap, ys, rfl, hl, ho, hc, hg⟩
theorem grownOf {a w w' : World} {g : Nat} (h : a.grownBy w (some g)) (hb : Below w.heap.size w w') : a.grownBy w' (some g) := grown_own h (grown_of hb) (fun r hr => by cases hr)
end Go.Proofs.Ytgecclccmmcdoaa
