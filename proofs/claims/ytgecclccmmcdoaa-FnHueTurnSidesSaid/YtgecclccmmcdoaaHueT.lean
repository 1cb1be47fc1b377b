/-
  What is proved: how far the program says that colours are turned from one row to another.
  Conditions: those that each fact names.
-/
import Derived.Test.YtgecclccmmcdoaaLe
import Derived.Test.YtgecclccmmcdoaaMeanRow
namespace Go.Proofs.Ytgecclccmmcdoaa
set_option linter.unusedVariables false
open Go.RowKit
attribute [local go_sem] run_store_float run_store_complex unary_negf neg256

theorem arith_runT {op : BinOp} {x y r : Nat} (h : floatBits op .f32 x y = some r) (W : World) : (binOp op 26 (.float .f32 x) (.float .f32 y)).run Try.prog W = .ok (.float .f32 r) W := run_float_arith (P := Try.prog) W op 26 .f32 x y r h
def tterm (c d : C3) : Nat := Flt.subv (Flt.mulv c.2.1 d.2.2) (Flt.mulv c.2.2 d.2.1)
def tsum (ps qs : List C3) : Nat → Nat
  | 0 => 0
  | k + 1 => Flt.sumv (tsum ps qs k) (tterm (ps.getD k (0, 0, 0)) (qs.getD k (0, 0, 0)))
def turnV (ps qs : List C3) : Nat := if meanOk ps qs = true then tsum ps qs ps.length else 0
structure TermM (c d : C3) : Prop where
  m1 : floatBits .mul .f32 c.2.1 d.2.2 = some (Flt.mulv c.2.1 d.2.2)
  m2 : floatBits .mul .f32 c.2.2 d.2.1 = some (Flt.mulv c.2.2 d.2.1)
  s : floatBits .sub .f32 (Flt.mulv c.2.1 d.2.2) (Flt.mulv c.2.2 d.2.1) = some (tterm c d)
  le : Flt.Le 170 (tterm c d)
theorem termM_of {c d : C3} (hc : Finc c) (hd : Finc d) : TermM c d := by
  have h1 := Flt.Mag.mul (Flt.fin_mag hc.2.1) (Flt.fin_mag hd.2.2) (by decide) (by decide)
  have h2 := Flt.Mag.mul (Flt.fin_mag hc.2.2) (Flt.fin_mag hd.2.1) (by decide) (by decide)
  have h3 := Flt.Mag.sub h1.2 h2.2 (by decide)
  exact ⟨h1.1, h2.1, h3.1, h3.2.le⟩
theorem tsum_le {ps qs : List C3} (ha : ∀ c ∈ ps, Finc c) (hb : ∀ c ∈ qs, Finc c) : ∀ k, k ≤ ps.length → k ≤ qs.length → k ≤ 64 → Flt.Le (170 + k) (tsum ps qs k)
  | 0, _, _, _ => by
    refine ⟨false, 0, ?_, Nat.zero_le _⟩
    have h := Flt.num_zero Ieee.single false (by decide)
    have e : Ieee.single.word false 0 = 0 := by decide
    rwa [e] at h
  | k + 1, h1, h2, h3 => by
    have ih := tsum_le ha hb k (by omega) (by omega) (by omega)
    have ht := (termM_of (ha (ps.getD k (0, 0, 0)) (by rw [List.getD_eq_getElem?_getD, List.getElem?_eq_getElem (show k < ps.length by omega)]; exact List.getElem_mem _)) (hb (qs.getD k (0, 0, 0)) (by rw [List.getD_eq_getElem?_getD, List.getElem?_eq_getElem (show k < qs.length by omega)]; exact List.getElem_mem _))).le
    exact (Flt.Le.add ih (ht.mono (by omega)) (by omega)).2
theorem tsum_step {ps qs : List C3} (ha : ∀ c ∈ ps, Finc c) (hb : ∀ c ∈ qs, Finc c) {k : Nat} (h1 : k < ps.length) (h2 : k < qs.length) (h3 : k < 64) : floatBits .add .f32 (tsum ps qs k) (tterm ps[k] qs[k]) = some (tsum ps qs (k + 1)) := by
  have ih := tsum_le ha hb k (by omega) (by omega) (by omega)
  have ht := (termM_of (ha _ (List.getElem_mem h1)) (hb _ (List.getElem_mem h2))).le
  have := (Flt.Le.add ih (ht.mono (by omega)) (by omega)).1
  rw [this]
  show _ = some (Flt.sumv (tsum ps qs k) (tterm (ps.getD k (0, 0, 0)) (qs.getD k (0, 0, 0))))
  rw [List.getD_eq_getElem?_getD, List.getElem?_eq_getElem h1, List.getD_eq_getElem?_getD, List.getElem?_eq_getElem h2]
  rfl
def TurnPost (ps qs : List C3) (w : World) (e : Ending) (w' : World) : Prop := e = .returned (.tuple #[.float .f32 (turnV ps qs), .bool (meanOk ps qs)]) ∧ Below w.heap.size w w'
theorem TurnPost.no {ps qs : List C3} {w w' : World} (h : meanOk ps qs = false) (hb : Below w.heap.size w w') : TurnPost ps qs w (.returned (.tuple #[.float .f32 0, .bool false])) w' := by
  refine ⟨?_, hb⟩
  unfold turnV
  rw [if_neg (by rw [h]; decide), h]
theorem TurnPost.yes {ps qs : List C3} {w w' : World} (h : meanOk ps qs = true) (hb : Below w.heap.size w w') : TurnPost ps qs w (.returned (.tuple #[.float .f32 (tsum ps qs ps.length), .bool true])) w' := by
  refine ⟨?_, hb⟩
  unfold turnV
  rw [if_pos h, h]
set_option maxHeartbeats 1000000 in
theorem hueTurn_no (v v' : Value) (a b : List C3) (w : World) (h : RowV w v a) (h' : RowV w v' b) (hl : a.length ≤ 1000000) (hl' : b.length ≤ 1000000) (hno : meanOk a b = false) :
    Calls Try.prog 18 #[v, v'] w fun e w' => TurnPost a b w e w' := by
  have HN := Lib.hid hno
  have HR := Lib.hid (rowOk_any v a w h hl)
  have HR2 := fun W hW => Lib.hid (rowOk_any v' b W hW hl')
  have HV := Lib.hid h'
  obtain ⟨ad, cap, rfl⟩ := h.lenv
  obtain ⟨ad', cap', rfl⟩ := h'.lenv
  unfold meanOk at hno
  cases hra : rok a with
  | false =>
    rw [hra] at HR
    clear hra hno h h'
    go_enter Try.func18, Try.ntmps18
    go_wp2_with fail
    refine HR.out.mono ?_
    rintro e w1 ⟨rfl, hb⟩
    go_wp2
    go_ret2
    exact TurnPost.no HN.out hb
  | true =>
    rw [hra] at HR hno
    cases hrb : rok b with
    | false =>
      rw [hrb] at HR2
      clear hra hrb hno h h'
      go_enter Try.func18, Try.ntmps18
      go_wp2_with fail
      refine HR.out.mono ?_
      rintro e w1 ⟨rfl, hb⟩
      go_wp2_with fail
      refine (HR2 w1 (HV.out.below hb)).out.mono ?_
      rintro e w2 ⟨rfl, hb2⟩
      go_wp2
      go_ret2
      exact TurnPost.no HN.out (below_trans hb hb2 hb.size)
    | true =>
      rw [hrb] at HR2 hno
      have hne : a.length ≠ b.length := by simpa using hno
      have hbn : ((a.length : Int) != (b.length : Int)) = true := by simp; omega
      clear hra hrb hno h h' hne
      go_enter Try.func18, Try.ntmps18
      go_wp2_with fail
      refine HR.out.mono ?_
      rintro e w1 ⟨rfl, hb⟩
      go_wp2_with fail
      refine (HR2 w1 (HV.out.below hb)).out.mono ?_
      rintro e w2 ⟨rfl, hb2⟩
      go_wp2
      go_ret2
      exact TurnPost.no HN.out (below_trans hb hb2 hb.size)
set_option maxHeartbeats 2000000 in
theorem hueTurn_yes (v v' : Value) (a b : List C3) (w : World) (h : RowV w v a) (h' : RowV w v' b) (hl : a.length ≤ 1000000) (hl' : b.length ≤ 1000000) (hyes : meanOk a b = true) :
    Calls Try.prog 18 #[v, v'] w fun e w' => TurnPost a b w e w' := by
  have HN := Lib.hid hyes
  have HR := Lib.hid (rowOk_any v a w h hl)
  have HR2 := fun W hW => Lib.hid (rowOk_any v' b W hW hl')
  have HV := Lib.hid h'
  unfold meanOk at hyes
  rw [Bool.and_eq_true, Bool.and_eq_true, decide_eq_true_iff] at hyes
  obtain ⟨hra, hrb, hlen⟩ := hyes
  rw [hra] at HR
  rw [hrb] at HR2
  obtain ⟨g, o, cap, rfl, hcap, hcell⟩ := h.len (rok_ne hra)
  obtain ⟨g', o', cap', rfl, hcap', hcell'⟩ := h'.len (rok_ne hrb)
  have HC := Lib.hid hcell
  have HC' := Lib.hid hcell'
  have hl64 : a.length ≤ 64 := (rok_iff.1 hra).1.2
  have HX := Lib.hid (fun k (hk : k < a.length) (hk' : k < b.length) => And.intro (termM_of (fin_at hra hk) (fin_at hrb hk')) (tsum_step (rok_iff.1 hra).2 (rok_iff.1 hrb).2 hk hk' (by omega)))
  have hbn : ((a.length : Int) != (b.length : Int)) = false := by rw [hlen]; simp
  have HLEN := Lib.hid hlen
  clear hra hrb h h' hcell hcell' hlen
  go_enter Try.func18, Try.ntmps18
  go_wp2_with fail
  refine HR.out.mono ?_
  rintro e w1 ⟨rfl, hb⟩
  go_wp2_with fail
  refine (HR2 w1 (HV.out.below hb)).out.mono ?_
  rintro e w2 ⟨rfl, hb2⟩
  have hb02 := below_trans hb hb2 hb.size
  clear hb hb2 HR HR2 HV
  go_wp2
  go_loopw [6, 27] (fun s i wr => ∃ k : Nat, k ≤ a.length ∧ i = .int .i64 (k : Int) ∧ s = .float .f32 (tsum a b k) ∧ Below w.heap.size w wr) (fun _ i _ => a.length - (intOf i).toNat)
  case atStart => exact ⟨0, Nat.zero_le _, rfl, rfl, hb02⟩
  case round =>
    obtain ⟨k, hk, rfl, rfl, hb3⟩ := hrel
    by_cases hlt : k < a.length
    · have hltb : k < b.length := by have := HLEN.out; omega
      obtain ⟨hc0, hc1⟩ := HC.out k hlt
      obtain ⟨hc0', hc1'⟩ := HC'.out k hltb
      obtain ⟨⟨r1, r2, r3, _⟩, r4⟩ := HX.out k hlt hltb
      have hlc : b.length ≤ cap' := hcap'
      have q1 := (grown_of hb3).cell hc1 (by simp)
      have q2 := (grown_of hb3).cell hc1' (by simp)
      have hbk : (k : Int) < (b.length : Int) := by omega
      have a1 := fun W => arith_runT r1 W
      have a2 := fun W => arith_runT r2 W
      have a3 := fun W => arith_runT r3 W
      have a4 := fun W => arith_runT r4 W
      clear hc0 hc1 hc0' hc1' r1 r2 r3 r4
      generalize a[k] = c at *
      generalize b[k] = d at *
      generalize tterm c d = T at *
      obtain ⟨s2, hs2⟩ : ∃ s2, tsum a b (k + 1) = s2 := ⟨_, rfl⟩
      rw [hs2] at a4
      have HS2 := Lib.hid hs2
      clear hs2
      generalize tsum a b k = s1 at *
      have hb4 : Below w.heap.size w wr.drew := belowDN hb3 1
      go_wp2
      go_region
      all_goals
        go_wp2
        go_roundw
        case rel => exact ⟨k + 1, by omega, by go_num, by rw [HS2.out], by first | exact hb4 | exact hb3⟩
        case measure => simp [intOf]; omega
    · have hkk : k = a.length := by omega
      subst hkk
      go_wp2
      go_ret2
      exact TurnPost.yes HN.out hb3
theorem hueTurn_any (v v' : Value) (a b : List C3) (w : World) (h : RowV w v a) (h' : RowV w v' b) (hl : a.length ≤ 1000000) (hl' : b.length ≤ 1000000) :
    Calls Try.prog 18 #[v, v'] w fun e w' => TurnPost a b w e w' := by
  cases hm : meanOk a b with
  | false => exact hueTurn_no v v' a b w h h' hl hl' hm
  | true => exact hueTurn_yes v v' a b w h h' hl hl' hm
end Go.Proofs.Ytgecclccmmcdoaa
