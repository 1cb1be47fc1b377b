/-
  What is proved: the walk of the flywheel's turn.
  Conditions: the pulses can be read.
-/
import Derived.Defers
import Derived.Lib.MinMax
import Derived.Deep.RegionHeld3
import Derived.IntWalk
import Derived.Test.YtmelnpimoiipgaaPkStarts
namespace Go.Proofs.Ytmelnpimoiipgaa
set_option linter.unusedVariables false
open Go.RowKit
attribute [local go_sem] run_store_float run_store_complex unary_negf neg256

/-- Block pb holds a flywheel. -/
def Wheel (W : World) (pb : Nat) (v : Value) (len want missed : Nat) : Prop := W.heap[pb]? = some (.cells #[v, .int .i64 (len : Int), .int .i64 (want : Int), .int .i64 (missed : Int)] 94 (0, 0))
theorem Wheel.kept {W W' : World} {pb : Nat} {v : Value} {len want missed : Nat} {row : Option Nat} (h : Wheel W pb v len want missed) (hg : W.grownBy W' row) (hne : some pb ≠ row) : Wheel W' pb v len want missed := (hg.block pb (Array.getElem?_eq_some_iff.1 h).1 hne).trans h
theorem Wheel.lt {W : World} {pb : Nat} {v : Value} {len want missed : Nat} (h : Wheel W pb v len want missed) : pb < W.heap.size := (Array.getElem?_eq_some_iff.1 h).1
theorem Wheel.at {W : World} {pb : Nat} {v : Value} {len want missed : Nat} (h : Wheel W pb v len want missed) : W.cell? ⟨pb, 0, none⟩ = some v ∧ W.cell? ⟨pb, 1, none⟩ = some (.int .i64 (len : Int)) ∧ W.cell? ⟨pb, 2, none⟩ = some (.int .i64 (want : Int)) ∧ W.cell? ⟨pb, 3, none⟩ = some (.int .i64 (missed : Int)) :=
  ⟨cell_of_row _ _ 0 _ _ _ h, cell_of_row _ _ 1 _ _ _ h, cell_of_row _ _ 2 _ _ _ h, cell_of_row _ _ 3 _ _ _ h⟩
theorem Wheel.free {W : World} {pb : Nat} {v : Value} {len want missed : Nat} (h : Wheel W pb v len want missed) (i : Nat) : W.frozen? ⟨pb, i, none⟩ = false := by simp [World.frozen?, show W.heap[pb]? = _ from h]
theorem Wheel.setWant {W : World} {pb : Nat} {v : Value} {len want missed : Nat} (h : Wheel W pb v len want missed) (x : Nat) : Wheel (W.setCell ⟨pb, 2, none⟩ (.int .i64 (x : Int))) pb v len x missed := by
  have := heap_put (i := 2) (v := .int .i64 (x : Int)) h
  simpa [Wheel] using this
theorem Wheel.setMissed {W : World} {pb : Nat} {v : Value} {len want missed : Nat} (h : Wheel W pb v len want missed) (x : Nat) : Wheel (W.setCell ⟨pb, 3, none⟩ (.int .i64 (x : Int))) pb v len want x := by
  have := heap_put (i := 3) (v := .int .i64 (x : Int)) h
  simpa [Wheel] using this
theorem wheel_set (W : World) (pb i : Nat) (u : Value) : W.grownBy (W.setCell ⟨pb, i, none⟩ u) (some pb) := by
  exact ⟨rfl, rfl, rfl, by simp [World.setCell], fun k hk hne => by simp only [World.setCell]; rw [Array.getElem?_modify, if_neg (fun e => hne (by rw [← e]))]⟩
set_option maxRecDepth 100000 in
set_option maxHeartbeats 2000000 in
theorem isNear_any (pb : Nat) (v : Value) (len want missed : Nat) (r : R2) (W : World) (h : Wheel W pb v len want missed) (hb : r.1 ≤ 1000000000) (hw : want ≤ 1000000000) :
    Calls Try.prog 98 #[.pointer (some ⟨pb, 0, none⟩), .agg #[.int .i64 (r.1 : Int), .int .i64 (r.2 : Int)]] W fun e w' => e = .returned (.bool (near want r)) ∧ Below W.heap.size W w' := by
  obtain ⟨b, n⟩ := r
  simp only at hb ⊢
  have hc2 := h.at.2.2.1
  have hn2 := World.new_ne W ⟨pb, 2, none⟩ hc2
  have hB := (Below.refl W.heap.size W).alloc (Nat.le_refl _) (.cells #[.int .i64 (b : Int), .int .i64 (n : Int)] 31)
  have hx0 := cell_of_row _ _ 0 _ _ _ (heap_alloc_new W (.cells #[.int .i64 (b : Int), .int .i64 (n : Int)] 31))
  have hx2 := (World.grownBy_alloc W (.cells #[.int .i64 (b : Int), .int .i64 (n : Int)] 31) none).cell hc2 (by simp)
  have HB := Lib.hid hB
  clear hB h hc2 hn2
  obtain ⟨M, hM⟩ : ∃ M : Nat, (M : Int) = max (b : Int) (want : Int) := ⟨max b want, by omega⟩
  obtain ⟨m, hm⟩ : ∃ m : Nat, (m : Int) = min (b : Int) (want : Int) := ⟨min b want, by omega⟩
  obtain ⟨D, hD⟩ : ∃ D : Nat, (D : Int) = (M : Int) - (m : Int) := ⟨M - m, by omega⟩
  have hw1 : IntKind.i64.wrap ((M : Int) - (m : Int)) = (D : Int) := by rw [IntWalk.i64_in _ (by omega), hD]
  have h1 := hM.symm
  have h2 := hm.symm
  have HN := Lib.hid (show near want (b, n) = decide ((D : Int) ≤ 3) by rw [Bool.eq_iff_iff]; unfold near; simp only [Bool.and_eq_true, decide_eq_true_eq]; clear hx0 hx2 HB h1 h2 hw1; omega)
  clear hM hm hD
  go_enter Try.func98, Try.ntmps98
  go_wp2
  generalize W.alloc (.cells #[.int .i64 (b : Int), .int .i64 (n : Int)] 31) = W1 at *
  go_region_held3 (fun V => V.cell? ⟨W.heap.size, 0, none⟩ = some (.int .i64 (b : Int)) ∧ V.cell? ⟨pb, 2, none⟩ = some (.int .i64 (want : Int))) (go_keep) (fail)
  all_goals
    go_wp2
    go_ret
    exact ⟨by rw [HN.out]; rfl, HB.out.drew⟩
/-- What the search for a pulse that is near answers. -/
def IdxPost (rs : List R2) (want : Nat) (w : World) (e : Ending) (w' : World) : Prop :=
  ((∃ k, ∃ h : k < rs.length, e = .returned (.int .i64 (k : Int)) ∧ nearR rs want = some rs[k].1) ∨ (e = .returned (.int .i64 (-1)) ∧ nearR rs want = none)) ∧ Below w.heap.size w w'
theorem nearR_none (want : Nat) : nearR [] want = none := rfl
set_option maxHeartbeats 2000000 in
theorem indexFunc_any (pb : Nat) (vr v : Value) (len want missed : Nat) (rs : List R2) (w : World) (hr : LR.Row w vr rs) (h : Wheel w pb v len want missed) (hb : ∀ r ∈ rs, r.1 ≤ 1000000000) (hw : want ≤ 1000000000) (hl : rs.length ≤ 1000000000) :
    Calls Try.prog 97 #[vr, .func (.func 98) #[.pointer (some ⟨pb, 0, none⟩)] #[]] w fun e w' => IdxPost rs want w e w' := by
  obtain ⟨a, c, rfl, hc⟩ := runs_any hr
  have HC := Lib.hid hc
  have HW := Lib.hid h
  have HBB := Lib.hid hb
  clear hc h hr hb
  go_enter Try.func97, Try.ntmps97
  go_wp2
  go_loopw [8] (fun i wr => ∃ k : Nat, k ≤ rs.length ∧ i = .int .i64 (k : Int) ∧ nearR (rs.take k) want = none ∧ Below w.heap.size w wr) (fun i _ => rs.length - (intOf i).toNat)
  case atStart => exact ⟨0, Nat.zero_le _, rfl, rfl, Below.refl _ _⟩
  case round =>
    obtain ⟨k, hk, rfl, hnr, hbl⟩ := hrel
    have HNR := Lib.hid hnr
    clear hnr
    by_cases hlt : k < rs.length
    · obtain ⟨g, o, rfl, hcap, h0, h1⟩ := HC.out k hlt
      have d0 := (grown_of hbl).cell h0 (by simp)
      have d1 := (grown_of hbl).cell h1 (by simp)
      have HK := Lib.hid (isNear_any pb v len want missed rs[k] wr (HW.out.kept (grown_of hbl) (by simp)) (HBB.out _ (List.getElem_mem hlt)) hw)
      have HS := Lib.hid (nearR_snoc hlt HNR.out)
      clear h0 h1
      obtain ⟨r, hr⟩ : ∃ r, rs[k] = r := ⟨_, rfl⟩
      have HR := Lib.hid hr
      rw [hr] at d0 d1 HK HS
      clear hr
      go_wp2_with fail
      refine HK.out.mono ?_
      rintro e w2 ⟨rfl, hb2⟩
      have hbw : Below w.heap.size w w2 := below_trans hbl hb2 hbl.size
      clear hb2 d0 d1
      cases hn : near want r with
      | true =>
        have HF := Lib.hid (nearR_some (HS.out.trans (if_pos hn)))
        clear hn
        go_wp2
        go_ret
        exact ⟨.inl ⟨k, hlt, rfl, by rw [HR.out]; exact HF.out⟩, hbw⟩
      | false =>
        have HF := Lib.hid (HS.out.trans (if_neg (by rw [hn]; decide)))
        clear hn
        go_wp2
        go_roundw
        case rel => exact ⟨k + 1, by omega, by go_num, HF.out, hbw⟩
        case measure => simp [intOf]; omega
    · have hkk : k = rs.length := by omega
      subst hkk
      have HF := Lib.hid (show nearR rs want = none by have := HNR.out; rwa [List.take_length] at this)
      go_wp2
      go_ret
      exact ⟨.inr ⟨rfl, HF.out⟩, hbl⟩
set_option maxRecDepth 100000 in
set_option maxHeartbeats 1000000 in
theorem turn1_d (bp bw pb : Nat) (v : Value) (len want missed place : Nat) (u : FrameMode) (W : World) (hp : W.cell? ⟨bp, 0, none⟩ = some (.int .i64 (place : Int))) (hb : W.cell? ⟨bw, 0, none⟩ = some (.pointer (some ⟨pb, 0, none⟩))) (h : Wheel W pb v len want missed) (h1 : place ≤ 1000000000) (h2 : len ≤ 1000000000) (n1 : bp ≠ pb) (n2 : bw ≠ pb) :
    CallsD Try.prog 96 #[.pointer (some ⟨bp, 0, none⟩), .pointer (some ⟨bw, 0, none⟩)] u W fun e u' w' => u' = u ∧ (e = .returned (.tuple #[]) ∧ Wheel w' pb v len (place + len) missed ∧ W.grownBy w' (some pb)) := by
  have hc1 := h.at.2.1
  have hc2 := h.at.2.2.1
  have hf2 := h.free 2
  have hw1 : IntKind.i64.wrap ((place : Int) + (len : Int)) = ((place + len : Nat) : Int) := by rw [IntWalk.i64_in _ (by omega)]; omega
  have hs := h.setWant (place + len)
  have hg := wheel_set W pb 2 (.int .i64 ((place + len : Nat) : Int))
  rw [Int.natCast_add] at hs hg hw1
  have k0 := hg.cell hp (by intro e; exact n1 (Option.some.inj e))
  have k1 := hg.cell hb (by intro e; exact n2 (Option.some.inj e))
  have k2 := hs.at.2.1
  have HF := Lib.hid hs
  have HG := Lib.hid hg
  clear hs hg
  clear h
  go_enter_d Try.func96, Try.ntmps96
  go_wp2
  go_region_held3 (fun V => V.cell? ⟨bp, 0, none⟩ = some (.int .i64 (place : Int)) ∧ V.cell? ⟨bw, 0, none⟩ = some (.pointer (some ⟨pb, 0, none⟩)) ∧ V.cell? ⟨pb, 1, none⟩ = some (.int .i64 (len : Int))) (first | go_keep | exact ⟨k0, k1, k2⟩) (fail)
  all_goals
    go_wp2
    go_end0
    exact ⟨rfl, HF.out, grownN HG.out 1⟩
end Go.Proofs.Ytmelnpimoiipgaa
