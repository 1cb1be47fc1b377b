/-
  What is proved: the walks of AddSamples, the program's and the model's, and of the program's function that joins two lists.
  Conditions: the lists can be read.
-/
import Derived.Test.YtnkmcjiohmnfhaaDelay
import Derived.Test.YtnkmcjiohmnfhaaFEq
namespace Go.Proofs.Ytnkmcjiohmnfhaa
set_option linter.unusedVariables false
open Go.RowKit
attribute [local go_sem] run_store_float run_store_complex unary_negf neg256

theorem MadeF.snoc {w : World} {b n k : Nat} {xs : List Nat} (h : MadeF w b n k xs) (hx : xs.length = k) (hk : k < n) (r : Nat) : MadeF (w.setCell ⟨b, k, none⟩ (.float .f32 r)) b n (k + 1) (xs ++ [r]) := by
  obtain ⟨cur, h1, h2, h3⟩ := h
  refine ⟨cur.setIfInBounds k (.float .f32 r), heapF h1, by simpa using h2, fun i hi hik => ?_⟩
  by_cases e : i = k
  · subst e
    rw [Array.getElem?_setIfInBounds, if_pos rfl, if_pos (by omega)]
    rw [List.getElem_append_right (by omega)]
    simp [hx]
  · rw [Array.getElem?_setIfInBounds, if_neg (by omega)]
    rw [List.getElem_append_left (by omega)]
    exact h3 i (by omega) (by omega)
/-- What may come of two lists, place for place. -/
def ResL (op : BinOp) (xs ys rs : List Nat) : Prop := rs.length ≤ xs.length ∧ rs.length ≤ ys.length ∧ ∀ i (h : i < rs.length) (h1 : i < xs.length) (h2 : i < ys.length), Res op xs[i] ys[i] rs[i]
theorem ResL.nil (op : BinOp) (xs ys : List Nat) : ResL op xs ys [] := ⟨Nat.zero_le _, Nat.zero_le _, fun i h => absurd h (by simp)⟩
theorem ResL.snoc {op : BinOp} {xs ys rs : List Nat} {r k : Nat} (h : ResL op xs ys rs) (hk : rs.length = k) (h1 : k < xs.length) (h2 : k < ys.length) (hr : Res op xs[k] ys[k] r) : ResL op xs ys (rs ++ [r]) := by
  obtain ⟨a, b, c⟩ := h
  refine ⟨by simp; omega, by simp; omega, fun i hi h1' h2' => ?_⟩
  simp at hi
  by_cases e : i = k
  · subst e
    rw [List.getElem_append_right (by omega)]
    simpa [hk] using hr
  · rw [List.getElem_append_left (by omega)]
    exact c i (by omega) h1' h2'
theorem ResL.same {op : BinOp} {xs ys rs xs' ys' rs' : List Nat} (h : ResL op xs ys rs) (h' : ResL op xs' ys' rs') (hx : SmL xs xs') (hy : SmL ys ys') (hl : rs.length = rs'.length) : SmL rs rs' := by
  obtain ⟨a, b, c⟩ := h
  obtain ⟨a', b', c'⟩ := h'
  exact ⟨hl, fun i h1 h2 => Res.same (hx.2 i (by omega) (by omega)) (hy.2 i (by omega) (by omega)) (c i h1 (by omega) (by omega)) (c' i h2 (by omega) (by omega))⟩
def FloatPost (op : BinOp) (x y : Nat) (w : World) (e : Ending) (w' : World) : Prop := ∃ r, e = .returned (.float .f32 r) ∧ Res op x y r ∧ ∃ n, w' = w.drewN n
theorem addLit_any (x y : Nat) (w : World) : Calls Try.prog 63 #[.float .f32 x, .float .f32 y] w fun e w' => FloatPost .add x y w e w' := by
  obtain ⟨r, n, hr, h1, h2⟩ := run_res .add (.inl rfl) x y w
  have H1 := Lib.hid h1
  clear h1 h2
  go_enter Try.func63, Try.ntmps63
  go_wp2
  go_ret
  exact ⟨r, rfl, H1.out, n, rfl⟩
theorem subLit_any (x y : Nat) (w : World) : Calls Try.prog 62 #[.float .f32 x, .float .f32 y] w fun e w' => FloatPost .sub x y w e w' := by
  obtain ⟨r, n, hr, h1, h2⟩ := run_res .sub (.inr (.inl rfl)) x y w
  have H1 := Lib.hid h1
  clear h1 h2
  go_enter Try.func62, Try.ntmps62
  go_wp2
  go_ret
  exact ⟨r, rfl, H1.out, n, rfl⟩

def JoinPost (op : BinOp) (xs ys : List Nat) (w : World) (e : Ending) (w' : World) : Prop := ∃ v rs, e = .returned v ∧ rs.length = xs.length ∧ ResL op xs ys rs ∧ FNew w' w.heap.size v rs ∧ Below w.heap.size w w'
set_option maxHeartbeats 2000000 in
theorem joinedAdd_any (v v' : Value) (xs ys : List Nat) (w : World) (h : FRow w v xs) (h' : FRow w v' ys)
    (hl : xs.length ≤ 100000000) (hy : ys.length = xs.length) :
    Calls Try.prog 61 #[v, v', .func (.func 63) #[] #[]] w fun e w' => JoinPost .add xs ys w e w' := by
  obtain ⟨a, c, rfl, hcell⟩ := h.any
  obtain ⟨a', c', rfl, hcell'⟩ := h'.any
  have HC := Lib.hid hcell
  have HC' := Lib.hid hcell'
  have HY := Lib.hid hy
  have hmk := make_floats xs.length (by omega)
  have hst := MadeF.start w xs.length []
  have HST := Lib.hid hst
  have hbel : Below w.heap.size w (w.alloc (.cells (madeCells #[.float .f32 0] xs.length) 39)) := (Below.refl _ _).alloc (Nat.le_refl _) _
  have hsz : w.heap.size < (w.alloc (.cells (madeCells #[.float .f32 0] xs.length) 39)).heap.size := by simp
  rw [hy]
  clear hcell hcell' h h' hst hy
  go_enter Try.func61, Try.ntmps61
  go_wp2
  clear hmk
  generalize w.alloc (.cells (madeCells #[.float .f32 0] xs.length) 39) = w1 at *
  go_loopw [14] (fun i wr => ∃ (k : Nat) (rs : List Nat), k ≤ xs.length ∧ i = .int .i64 (k : Int) ∧ Below w.heap.size w wr ∧ w.heap.size < wr.heap.size ∧ rs.length = k ∧ ResL .add xs ys rs ∧ MadeF wr w.heap.size xs.length k rs) (fun i _ => xs.length - (intOf i).toNat)
  case atStart => exact ⟨0, [], Nat.zero_le _, rfl, hbel, hsz, rfl, ResL.nil _ _ _, HST.out⟩
  case round =>
    obtain ⟨k, rs, hk, rfl, hb, hs, hrl, hrr, hm⟩ := hrel
    have HM := Lib.hid hm
    have HR := Lib.hid (And.intro hrl hrr)
    clear hm HST hrl hrr
    by_cases hlt : k < xs.length
    · obtain ⟨g, o, rfl, hcap, hcc⟩ := HC.out k hlt
      obtain ⟨g', o', rfl, hcap', hcc'⟩ := HC'.out k (by have := HY.out; omega)
      rw [HY.out] at hcap'
      have hc0 := (grown_of hb).cell hcc (by simp)
      have hc0' := (grown_of hb).cell hcc' (by simp)
      obtain ⟨⟨x0, hx0⟩, hf0⟩ := HM.out.at k hlt
      obtain ⟨x, hx⟩ : ∃ x, xs[k] = x := ⟨_, rfl⟩
      obtain ⟨y, hy⟩ : ∃ y, ys[k]'(by have := HY.out; omega) = y := ⟨_, rfl⟩
      rw [hx] at hc0
      rw [hy] at hc0'
      have HXY := Lib.hid (And.intro hx hy)
      clear hcc hcc' hx hy
      go_wp2
      go_region_with (go_at_call 63; refine (addLit_any x y _).mono ?_; rintro e w2 ⟨r, rfl, hr, nn, rfl⟩)
      all_goals
        have hm3 := HM.out.snoc HR.out.1 hlt r
        have hr3 := HR.out.2.snoc HR.out.1 hlt (by have := HY.out; omega) (by rw [HXY.out.1, HXY.out.2]; exact hr)
        have HM3 := Lib.hid hm3
        have HR3 := Lib.hid hr3
        clear hm3 hr3 hr
        go_wp2
        go_roundw
        case rel => exact ⟨k + 1, rs ++ [r], by omega, by go_num, (belowDN hb _).setCell (Nat.le_refl _) _, by simpa [World.setCell, World.drewN, World.drew] using hs, by simp [HR.out.1], HR3.out, HM3.out.kept (by simp [World.setCell, World.drewN, World.drew])⟩
        case measure => simp [intOf]; omega
    · have hkk : k = xs.length := by omega
      subst hkk
      go_wp2
      go_ret
      exact ⟨_, rs, rfl, HR.out.1, HR.out.2, HM.out.new HR.out.1 (Nat.le_refl _), hb⟩
set_option maxHeartbeats 2000000 in
theorem joinedSub_any (v v' : Value) (xs ys : List Nat) (w : World) (h : FRow w v xs) (h' : FRow w v' ys)
    (hl : xs.length ≤ 100000000) (hy : ys.length = xs.length) :
    Calls Try.prog 61 #[v, v', .func (.func 62) #[] #[]] w fun e w' => JoinPost .sub xs ys w e w' := by
  obtain ⟨a, c, rfl, hcell⟩ := h.any
  obtain ⟨a', c', rfl, hcell'⟩ := h'.any
  have HC := Lib.hid hcell
  have HC' := Lib.hid hcell'
  have HY := Lib.hid hy
  have hmk := make_floats xs.length (by omega)
  have hst := MadeF.start w xs.length []
  have HST := Lib.hid hst
  have hbel : Below w.heap.size w (w.alloc (.cells (madeCells #[.float .f32 0] xs.length) 39)) := (Below.refl _ _).alloc (Nat.le_refl _) _
  have hsz : w.heap.size < (w.alloc (.cells (madeCells #[.float .f32 0] xs.length) 39)).heap.size := by simp
  rw [hy]
  clear hcell hcell' h h' hst hy
  go_enter Try.func61, Try.ntmps61
  go_wp2
  clear hmk
  generalize w.alloc (.cells (madeCells #[.float .f32 0] xs.length) 39) = w1 at *
  go_loopw [14] (fun i wr => ∃ (k : Nat) (rs : List Nat), k ≤ xs.length ∧ i = .int .i64 (k : Int) ∧ Below w.heap.size w wr ∧ w.heap.size < wr.heap.size ∧ rs.length = k ∧ ResL .sub xs ys rs ∧ MadeF wr w.heap.size xs.length k rs) (fun i _ => xs.length - (intOf i).toNat)
  case atStart => exact ⟨0, [], Nat.zero_le _, rfl, hbel, hsz, rfl, ResL.nil _ _ _, HST.out⟩
  case round =>
    obtain ⟨k, rs, hk, rfl, hb, hs, hrl, hrr, hm⟩ := hrel
    have HM := Lib.hid hm
    have HR := Lib.hid (And.intro hrl hrr)
    clear hm HST hrl hrr
    by_cases hlt : k < xs.length
    · obtain ⟨g, o, rfl, hcap, hcc⟩ := HC.out k hlt
      obtain ⟨g', o', rfl, hcap', hcc'⟩ := HC'.out k (by have := HY.out; omega)
      rw [HY.out] at hcap'
      have hc0 := (grown_of hb).cell hcc (by simp)
      have hc0' := (grown_of hb).cell hcc' (by simp)
      obtain ⟨⟨x0, hx0⟩, hf0⟩ := HM.out.at k hlt
      obtain ⟨x, hx⟩ : ∃ x, xs[k] = x := ⟨_, rfl⟩
      obtain ⟨y, hy⟩ : ∃ y, ys[k]'(by have := HY.out; omega) = y := ⟨_, rfl⟩
      rw [hx] at hc0
      rw [hy] at hc0'
      have HXY := Lib.hid (And.intro hx hy)
      clear hcc hcc' hx hy
      go_wp2
      go_region_with (go_at_call 62; refine (subLit_any x y _).mono ?_; rintro e w2 ⟨r, rfl, hr, nn, rfl⟩)
      all_goals
        have hm3 := HM.out.snoc HR.out.1 hlt r
        have hr3 := HR.out.2.snoc HR.out.1 hlt (by have := HY.out; omega) (by rw [HXY.out.1, HXY.out.2]; exact hr)
        have HM3 := Lib.hid hm3
        have HR3 := Lib.hid hr3
        clear hm3 hr3 hr
        go_wp2
        go_roundw
        case rel => exact ⟨k + 1, rs ++ [r], by omega, by go_num, (belowDN hb _).setCell (Nat.le_refl _) _, by simpa [World.setCell, World.drewN, World.drew] using hs, by simp [HR.out.1], HR3.out, HM3.out.kept (by simp [World.setCell, World.drewN, World.drew])⟩
        case measure => simp [intOf]; omega
    · have hkk : k = xs.length := by omega
      subst hkk
      go_wp2
      go_ret
      exact ⟨_, rs, rfl, HR.out.1, HR.out.2, HM.out.new HR.out.1 (Nat.le_refl _), hb⟩
def marksFrom (k0 n : Nat) : List Nat := (List.range n).map fun (i : Nat) => floatOfInt .f32 ((k0 : Int) + (i : Int))
theorem marksFrom_len (k0 n : Nat) : (marksFrom k0 n).length = n := by simp [marksFrom]
theorem marksFrom_get (k0 n i : Nat) (h : i < (marksFrom k0 n).length) : (marksFrom k0 n)[i] = floatOfInt .f32 ((k0 : Int) + (i : Int)) := by simp [marksFrom]
def MarkFrom (k0 base : Nat) (v : Value) (n : Nat) (w : World) (e : Ending) (w' : World) : Prop := e = .returned (.int .i64 ((k0 : Int) + (n : Int))) ∧ FNew w' base v (marksFrom k0 n) ∧ w.grownBy w' v.ownBlock
theorem MarkFrom.mk {k0 base : Nat} {v : Value} {n : Nat} {w w' : World} {m : Int} (hm : m = (k0 : Int) + (n : Int)) (h : FNew w' base v (marksFrom k0 n)) (hg : w.grownBy w' v.ownBlock) : MarkFrom k0 base v n w (.returned (.int .i64 m)) w' := ⟨by rw [hm], h, hg⟩
set_option maxHeartbeats 2000000 in
theorem markFrom_any (k0 base : Nat) (v : Value) (xs : List Nat) (w : World) (h : FNew w base v xs) (hl : xs.length ≤ 1000000000) (hk0 : k0 ≤ 1000000000) :
    Calls Try.prog 38 #[v, .int .i64 (k0 : Int)] w fun e w' => MarkFrom k0 base v xs.length w e w' := by
  rcases h with ⟨rfl, rfl⟩ | ⟨g, cap, rfl, hbase, hcap, hm⟩
  · go_enter Try.func38, Try.ntmps38
    go_wp2
    go_loop [1, 5] (fun kk i => kk = .int .i64 (k0 : Int) ∧ i = .int .i64 0) (fun _ _ => 0)
    case atStart => exact ⟨rfl, rfl⟩
    case round =>
      obtain ⟨rfl, rfl⟩ := hrel
      go_wp2
      go_ret
      exact MarkFrom.mk (by simp) (FNew.nil _ _) (World.grownBy.refl _ _)
  · have HST := Lib.hid (hm.zero (ys := marksFrom k0 xs.length))
    clear hm
    go_enter Try.func38, Try.ntmps38
    go_wp2
    go_loopw [1, 5] (fun kk i wr => ∃ k : Nat, k ≤ xs.length ∧ i = .int .i64 (k : Int) ∧ kk = .int .i64 ((k0 : Int) + (k : Int)) ∧ w.grownBy wr (some g) ∧ MadeF wr g xs.length k (marksFrom k0 xs.length)) (fun _ i _ => xs.length - (intOf i).toNat)
    case atStart => exact ⟨0, Nat.zero_le _, rfl, by simp, World.grownBy.refl _ _, HST.out⟩
    case round =>
      obtain ⟨k, hk, rfl, rfl, hg, hm⟩ := hrel
      have HM := Lib.hid hm
      clear hm HST
      by_cases hlt : k < xs.length
      · obtain ⟨⟨x0, hx0⟩, hf0⟩ := HM.out.at k hlt
        have hlm : k < (marksFrom k0 xs.length).length := by rw [marksFrom_len]; exact hlt
        have hm3 := HM.out.step hlm (by rw [marksFrom_len]; exact Nat.le_refl _)
        rw [marksFrom_get] at hm3
        have HM3 := Lib.hid hm3
        have hg3 := hg.trans (Lib.grownBy_setCell wr g k (.float .f32 (floatOfInt .f32 ((k0 : Int) + (k : Int)))))
        clear hm3
        go_wp2
        go_roundw
        case rel => exact ⟨k + 1, by omega, by go_num, by first | (go_num; done) | (congr 1; omega) | (congr 1), hg3, HM3.out⟩
        case measure => simp [intOf]; omega
      · have hkk : k = xs.length := by omega
        subst hkk
        go_wp2
        go_ret
        exact MarkFrom.mk rfl (.inr ⟨g, cap, by rw [marksFrom_len], hbase, by rw [marksFrom_len]; exact hcap, by rw [marksFrom_len]; exact HM.out⟩) hg
def addOk (xs ys : List Nat) : Bool := decide (xs.length = ys.length) && decide (xs.length ≤ 256)
def AddR (xs ys rs : List Nat) : Prop := if addOk xs ys = true then rs.length = xs.length ∧ ResL .add xs ys rs else rs = []
theorem AddR.same {xs ys rs rs' : List Nat} (h : AddR xs ys rs) (h' : AddR xs ys rs') : SmL rs rs' := by
  unfold AddR at h h'
  split at h
  · rw [if_pos (by assumption)] at h'
    exact ResL.same h.2 h'.2 (SmL.refl _) (SmL.refl _) (by rw [h.1, h'.1])
  · rw [if_neg (by assumption)] at h'
    rw [h, h']; exact SmL.refl _
theorem AddR.len {xs ys rs : List Nat} (h : AddR xs ys rs) : rs.length ≤ xs.length := by
  unfold AddR at h
  split at h
  · omega
  · rw [h]; simp
theorem AddR.no {xs ys : List Nat} (h : addOk xs ys = false) : AddR xs ys [] := by unfold AddR; rw [h]; simp
theorem AddR.yes {xs ys rs : List Nat} (h : addOk xs ys = true) (h1 : rs.length = xs.length) (h2 : ResL .add xs ys rs) : AddR xs ys rs := by unfold AddR; rw [h]; simpa using ⟨h1, h2⟩
set_option maxHeartbeats 1000000 in
theorem addSamples_any (v v' : Value) (xs ys : List Nat) (w : World) (h : FRow w v xs) (h' : FRow w v' ys) (hl : xs.length ≤ 100000000) (hl' : ys.length ≤ 100000000) :
    Calls Try.prog 25 #[v, v'] w fun e w' => Ans (addOk xs ys) (AddR xs ys) w e w' := by
  obtain ⟨a, c, rfl⟩ := h.lenv
  obtain ⟨a', c', rfl⟩ := h'.lenv
  have HV := Lib.hid h
  have HV' := Lib.hid h'
  clear h h'
  by_cases h1 : xs.length = ys.length
  · by_cases h2 : xs.length ≤ 256
    · have ho : addOk xs ys = true := by unfold addOk; simp; exact ⟨h1, h2⟩
      have HO := Lib.hid ho
      have HJ := fun W hr hr' => Lib.hid (joinedAdd_any (.slice a xs.length c) (.slice a' ys.length c') xs ys W hr hr' hl h1.symm)
      have hb : (((xs.length : Int)) != (ys.length : Int)) = false := by rw [h1]; simp
      rw [ho]
      clear ho hl hl' h1
      go_enter Try.func25, Try.ntmps25
      go_wp2_with fail
      refine (HJ _ HV.out HV'.out).out.mono ?_
      rintro e w1 ⟨v1, rs, rfl, hrl, hrr, hn, hbl⟩
      have HN := Lib.hid hn
      have HR := Lib.hid (AddR.yes HO.out hrl hrr)
      clear hn hrl hrr
      go_wp2
      go_ret2
      exact Ans.mk HR.out HN.out hbl
    · have ho : addOk xs ys = false := by unfold addOk; simp; intro _; omega
      have HO := Lib.hid ho
      have hb : (((xs.length : Int)) != (ys.length : Int)) = false := by rw [h1]; simp
      rw [ho]
      clear ho hl hl' h1
      go_enter Try.func25, Try.ntmps25
      go_wp2
      go_ret2
      exact Ans.mk (AddR.no HO.out) (FNew.nil _ _) (Below.refl _ _)
  · have ho : addOk xs ys = false := by unfold addOk; simp [h1]
    have HO := Lib.hid ho
    have hb : (((xs.length : Int)) != (ys.length : Int)) = true := by simp; omega
    rw [ho]
    clear ho hl hl' h1
    go_enter Try.func25, Try.ntmps25
    go_wp2
    go_ret2
    exact Ans.mk (AddR.no HO.out) (FNew.nil _ _) (Below.refl _ _)
end Go.Proofs.Ytnkmcjiohmnfhaa
