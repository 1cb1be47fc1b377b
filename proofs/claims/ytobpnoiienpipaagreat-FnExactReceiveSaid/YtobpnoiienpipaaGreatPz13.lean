/-
  What is proved: the walk of the flywheel's turn.
  Conditions: the pulses can be read.
-/
import Derived.Defers
import Derived.Lib.MinMax
import Derived.Deep.RegionHeld3
import Derived.IntWalk
import Derived.Test.YtobpnoiienpipaaGreatSpecStarts
import Derived.Test.YtobpnoiienpipaaGreatPz03
import Derived.Laws.CopyOwn
import Derived.Test.YtobpnoiienpipaaGreatPz10
import Derived.Test.YtobpnoiienpipaaGreatDecode
import Derived.Test.YtobpnoiienpipaaGreatPz05
import Derived.Test.YtobpnoiienpipaaGreatPz07
namespace Go.Proofs.YtobpnoiienpipaaGreat
set_option linter.unusedVariables false
open Go.RowKit
attribute [local go_sem] run_store_float run_store_complex unary_negf neg256

/-- Block pb holds a flywheel. -/
def Wheel (W : World) (pb : Nat) (v : Value) (len want missed : Nat) : Prop := W.heap[pb]? = some (.cells #[v, .int .i64 (len : Int), .int .i64 (want : Int), .int .i64 (missed : Int)] 130 (0, 0))
theorem Wheel.kept {W W' : World} {pb : Nat} {v : Value} {len want missed : Nat} {row : Option Nat} (h : Wheel W pb v len want missed) (hg : W.grownBy W' row) (hne : some pb ≠ row) : Wheel W' pb v len want missed := (hg.block pb (Array.getElem?_eq_some_iff.1 h).1 hne).trans h
theorem Wheel.lt {W : World} {pb : Nat} {v : Value} {len want missed : Nat} (h : Wheel W pb v len want missed) : pb < W.heap.size := (Array.getElem?_eq_some_iff.1 h).1
theorem Wheel.at {W : World} {pb : Nat} {v : Value} {len want missed : Nat} (h : Wheel W pb v len want missed) : W.cell? ⟨pb, 0, none⟩ = some v ∧ W.cell? ⟨pb, 1, none⟩ = some (.int .i64 (len : Int)) ∧ W.cell? ⟨pb, 2, none⟩ = some (.int .i64 (want : Int)) ∧ W.cell? ⟨pb, 3, none⟩ = some (.int .i64 (missed : Int)) :=
  ⟨cell_of_row _ _ 0 _ _ _ h, cell_of_row _ _ 1 _ _ _ h, cell_of_row _ _ 2 _ _ _ h, cell_of_row _ _ 3 _ _ _ h⟩
theorem Wheel.free {W : World} {pb : Nat} {v : Value} {len want missed : Nat} (h : Wheel W pb v len want missed) (i : Nat) : W.frozen? ⟨pb, i, none⟩ = false := by simp [World.frozen?, show W.heap[pb]? = _ from h]
theorem Wheel.setWant {W : World} {pb : Nat} {v : Value} {len want missed : Nat} (h : Wheel W pb v len want missed) (x : Nat) : Wheel (W.setCell ⟨pb, 2, none⟩ (.int .i64 (x : Int))) pb v len x missed := by
  have := heap_put (i := 2) (v := .int .i64 (x : Int)) h
  simpa [Wheel] using this
theorem Wheel.setMissed {W : World} {pb : Nat} {v : Value} {len want missed : Nat} (h : Wheel W pb v len want missed) (x : Nat) : Wheel (W.setCell ⟨pb, 3, none⟩ (.int .i64 (x : Int))) pb v len want x := by
  have := heap_put (i := 3) (v := .int .i64 (x : Int)) h
  simpa [Wheel] using this
theorem wheel_set (W : World) (pb i : Nat) (u : Value) : W.grownBy (W.setCell ⟨pb, i, none⟩ u) (some pb) := by
  exact ⟨rfl, rfl, rfl, by simp [World.setCell], fun k hk hne => by simp only [World.setCell]; rw [Array.getElem?_modify, if_neg (fun e => hne (by rw [← e]))]⟩
set_option maxRecDepth 100000 in
set_option maxHeartbeats 2000000 in
theorem isNear_any (pb : Nat) (v : Value) (len want missed : Nat) (r : R2) (W : World) (h : Wheel W pb v len want missed) (hb : r.1 ≤ 1000000000) (hw : want ≤ 1000000000) :
    Calls Tryz.prog 123 #[.pointer (some ⟨pb, 0, none⟩), .agg #[.int .i64 (r.1 : Int), .int .i64 (r.2 : Int)]] W fun e w' => e = .returned (.bool (near want r)) ∧ Below W.heap.size W w' := by
  obtain ⟨b, n⟩ := r
  simp only at hb ⊢
  have hc2 := h.at.2.2.1
  have hn2 := World.new_ne W ⟨pb, 2, none⟩ hc2
  have hB := (Below.refl W.heap.size W).alloc (Nat.le_refl _) (.cells #[.int .i64 (b : Int), .int .i64 (n : Int)] 106)
  have hx0 := cell_of_row _ _ 0 _ _ _ (heap_alloc_new W (.cells #[.int .i64 (b : Int), .int .i64 (n : Int)] 106))
  have hx2 := (World.grownBy_alloc W (.cells #[.int .i64 (b : Int), .int .i64 (n : Int)] 106) none).cell hc2 (by simp)
  have HB := Lib.hid hB
  clear hB h hc2 hn2
  obtain ⟨M, hM⟩ : ∃ M : Nat, (M : Int) = max (b : Int) (want : Int) := ⟨max b want, by omega⟩
  obtain ⟨m, hm⟩ : ∃ m : Nat, (m : Int) = min (b : Int) (want : Int) := ⟨min b want, by omega⟩
  obtain ⟨D, hD⟩ : ∃ D : Nat, (D : Int) = (M : Int) - (m : Int) := ⟨M - m, by omega⟩
  have hw1 : IntKind.i64.wrap ((M : Int) - (m : Int)) = (D : Int) := by rw [IntWalk.i64_in _ (by omega), hD]
  have h1 := hM.symm
  have h2 := hm.symm
  have HN := Lib.hid (show near want (b, n) = decide ((D : Int) ≤ 3) by rw [Bool.eq_iff_iff]; unfold near; simp only [Bool.and_eq_true, decide_eq_true_eq]; clear hx0 hx2 HB h1 h2 hw1; omega)
  clear hM hm hD
  go_enter Tryz.func123, Tryz.ntmps123
  go_wp2
  generalize W.alloc (.cells #[.int .i64 (b : Int), .int .i64 (n : Int)] 106) = W1 at *
  go_region_held3 (fun V => V.cell? ⟨W.heap.size, 0, none⟩ = some (.int .i64 (b : Int)) ∧ V.cell? ⟨pb, 2, none⟩ = some (.int .i64 (want : Int))) (go_keep) (fail)
  all_goals
    go_wp2
    go_ret
    exact ⟨by rw [HN.out]; rfl, HB.out.drew⟩
/-- What the search for a pulse that is near answers. -/
def IdxPost (rs : List R2) (want : Nat) (w : World) (e : Ending) (w' : World) : Prop :=
  ((∃ k, ∃ h : k < rs.length, e = .returned (.int .i64 (k : Int)) ∧ nearR rs want = some rs[k].1) ∨ (e = .returned (.int .i64 (-1)) ∧ nearR rs want = none)) ∧ Below w.heap.size w w'
set_option maxHeartbeats 2000000 in
theorem indexFunc_any (pb : Nat) (vr v : Value) (len want missed : Nat) (rs : List R2) (w : World) (hr : LR.Row w vr rs) (h : Wheel w pb v len want missed) (hb : ∀ r ∈ rs, r.1 ≤ 1000000000) (hw : want ≤ 1000000000) (hl : rs.length ≤ 1000000000) :
    Calls Tryz.prog 122 #[vr, .func (.func 123) #[.pointer (some ⟨pb, 0, none⟩)] #[]] w fun e w' => IdxPost rs want w e w' := by
  obtain ⟨a, c, rfl, hc⟩ := runs_any hr
  have HC := Lib.hid hc
  have HW := Lib.hid h
  have HBB := Lib.hid hb
  clear hc h hr hb
  go_enter Tryz.func122, Tryz.ntmps122
  go_wp2
  go_loopw [8] (fun i wr => ∃ k : Nat, k ≤ rs.length ∧ i = .int .i64 (k : Int) ∧ nearR (rs.take k) want = none ∧ Below w.heap.size w wr) (fun i _ => rs.length - (intOf i).toNat)
  case atStart => exact ⟨0, Nat.zero_le _, rfl, rfl, Below.refl _ _⟩
  case round =>
    obtain ⟨k, hk, rfl, hnr, hbl⟩ := hrel
    have HNR := Lib.hid hnr
    clear hnr
    by_cases hlt : k < rs.length
    · obtain ⟨g, o, rfl, hcap, h0, h1⟩ := HC.out k hlt
      have d0 := (grown_of hbl).cell h0 (by simp)
      have d1 := (grown_of hbl).cell h1 (by simp)
      have HK := Lib.hid (isNear_any pb v len want missed rs[k] wr (HW.out.kept (grown_of hbl) (by simp)) (HBB.out _ (List.getElem_mem hlt)) hw)
      have HS := Lib.hid (nearR_snoc hlt HNR.out)
      clear h0 h1
      obtain ⟨r, hr⟩ : ∃ r, rs[k] = r := ⟨_, rfl⟩
      have HR := Lib.hid hr
      rw [hr] at d0 d1 HK HS
      clear hr
      go_wp2_with fail
      refine HK.out.mono ?_
      rintro e w2 ⟨rfl, hb2⟩
      have hbw : Below w.heap.size w w2 := below_trans hbl hb2 hbl.size
      clear hb2 d0 d1
      cases hn : near want r with
      | true =>
        have HF := Lib.hid (nearR_some (HS.out.trans (if_pos hn)))
        clear hn
        go_wp2
        go_ret
        exact ⟨.inl ⟨k, hlt, rfl, by rw [HR.out]; exact HF.out⟩, hbw⟩
      | false =>
        have HF := Lib.hid (HS.out.trans (if_neg (by rw [hn]; decide)))
        clear hn
        go_wp2
        go_roundw
        case rel => exact ⟨k + 1, by omega, by go_num, HF.out, hbw⟩
        case measure => simp [intOf]; omega
    · have hkk : k = rs.length := by omega
      subst hkk
      have HF := Lib.hid (show nearR rs want = none by have := HNR.out; rwa [List.take_length] at this)
      go_wp2
      go_ret
      exact ⟨.inr ⟨rfl, HF.out⟩, hbl⟩
set_option maxRecDepth 100000 in
set_option maxHeartbeats 1000000 in
theorem turn1_d (bp bw pb : Nat) (v : Value) (len want missed place : Nat) (u : FrameMode) (W : World) (hp : W.cell? ⟨bp, 0, none⟩ = some (.int .i64 (place : Int))) (hb : W.cell? ⟨bw, 0, none⟩ = some (.pointer (some ⟨pb, 0, none⟩))) (h : Wheel W pb v len want missed) (h1 : place ≤ 1000000000) (h2 : len ≤ 1000000000) (n1 : bp ≠ pb) (n2 : bw ≠ pb) :
    CallsD Tryz.prog 121 #[.pointer (some ⟨bp, 0, none⟩), .pointer (some ⟨bw, 0, none⟩)] u W fun e u' w' => u' = u ∧ (e = .returned (.tuple #[]) ∧ Wheel w' pb v len (place + len) missed ∧ W.grownBy w' (some pb)) := by
  have hc1 := h.at.2.1
  have hc2 := h.at.2.2.1
  have hf2 := h.free 2
  have hw1 : IntKind.i64.wrap ((place : Int) + (len : Int)) = ((place + len : Nat) : Int) := by rw [IntWalk.i64_in _ (by omega)]; omega
  have hs := h.setWant (place + len)
  have hg := wheel_set W pb 2 (.int .i64 ((place + len : Nat) : Int))
  rw [Int.natCast_add] at hs hg hw1
  have k0 := hg.cell hp (by intro e; exact n1 (Option.some.inj e))
  have k1 := hg.cell hb (by intro e; exact n2 (Option.some.inj e))
  have k2 := hs.at.2.1
  have HF := Lib.hid hs
  have HG := Lib.hid hg
  clear hs hg
  clear h
  go_enter_d Tryz.func121, Tryz.ntmps121
  go_wp2
  go_region_held3 (fun V => V.cell? ⟨bp, 0, none⟩ = some (.int .i64 (place : Int)) ∧ V.cell? ⟨bw, 0, none⟩ = some (.pointer (some ⟨pb, 0, none⟩)) ∧ V.cell? ⟨pb, 1, none⟩ = some (.int .i64 (len : Int))) (first | go_keep | exact ⟨k0, k1, k2⟩) (fail)
  all_goals
    go_wp2
    go_end0
    exact ⟨rfl, HF.out, grownN HG.out 1⟩
end Go.Proofs.YtobpnoiienpipaaGreat

/-
  What is proved: copying elements of any size within a row; rows that are filled with one element.
  Conditions: those that each fact names.
-/
namespace Go.Proofs.YtobpnoiienpipaaGreat
set_option linter.unusedVariables false
open Go.RowKit

/-- n elements that are all alike. -/
def fills (pat : List Value) : Nat → List Value
  | 0 => []
  | n + 1 => pat ++ fills pat n
theorem fills_add (pat : List Value) : ∀ n m, fills pat (n + m) = fills pat n ++ fills pat m
  | 0, m => by simp [fills]
  | n + 1, m => by rw [Nat.succ_add, fills, fills, fills_add pat n m, List.append_assoc]
/-- Block g has room for N elements, the first n of which are filled. -/
def Fill (t : TypeId) (pat : List Value) (w : World) (g n N : Nat) : Prop :=
  ∃ zs : List Value, w.heap[g]? = some (.cells (fills pat n ++ zs).toArray t (0, 0)) ∧ zs.length = (N - n) * pat.length
theorem Fill.start {t : TypeId} {pat : List Value} (w : World) (zero : Array Value) (N : Nat) (hz : zero.size = pat.length) : Fill t pat (w.alloc (.cells (madeCells zero (N * zero.size)) t)) w.heap.size 0 N := by
  refine ⟨(madeCells zero (N * zero.size)).toList, ?_, by rw [Array.length_toList, size_madeCells, hz]; rfl⟩
  rw [fills, List.nil_append, Array.toArray_toList]
  exact heap_alloc_new w _
theorem Fill.cell {t : TypeId} {pat : List Value} {w : World} {g n N m : Nat} (h : Fill t pat w g n N) (hm : m ≤ n) : ∀ j v, (fills pat m)[j]? = some v → w.cell? ((⟨g, 0, none⟩ : Addr).add j) = some v := by
  intro j v hj
  obtain ⟨zs, hz, _⟩ := h
  have hadd : (⟨g, 0, none⟩ : Addr).add j = ⟨g, j, none⟩ := by unfold Addr.add; split <;> simp_all
  have hl : j < (fills pat m).length := (List.getElem?_eq_some_iff.1 hj).1
  obtain ⟨k, rfl⟩ : ∃ k, n = m + k := ⟨n - m, by omega⟩
  rw [hadd]
  simp only [World.cell?, hz]
  rw [List.getElem?_toArray, fills_add, List.append_assoc, List.getElem?_append_left hl, hj]
  rfl
theorem Fill.kept {t : TypeId} {pat : List Value} {w w' : World} {g n N : Nat} (h : Fill t pat w g n N) (hb : w'.heap[g]? = w.heap[g]?) : Fill t pat w' g n N := by
  obtain ⟨zs, h1, h2⟩ := h
  exact ⟨zs, hb.trans h1, h2⟩
end Go.Proofs.YtobpnoiienpipaaGreat

/-
  What is proved: the model's lines (made of a row, drawn) can be read.
  Conditions: those that each fact names.
-/
namespace Go.Proofs.YtobpnoiienpipaaGreat
set_option linter.unusedVariables false
open Go.RowKit
attribute [local go_sem] run_store_float run_store_complex unary_negf neg256

theorem FRow.cells {w : World} {g o n cap : Nat} {xs : List Nat} (h : FRow w (.slice (some ⟨g, o, none⟩) n cap) xs) : ∀ i (hi : i < xs.length), w.cell? ⟨g, o + i, none⟩ = some (.float .f32 xs[i]) := by
  rcases h with ⟨_, rfl⟩ | ⟨g', o', cap', e, _, hc⟩
  · intro i hi; cases hi
  · cases e
    exact hc
def SampN (N : Nat) (w : World) (e : Ending) (w' : World) : Prop :=
  ∃ g cap ys, e = .returned (.slice (some ⟨g, 0, none⟩) N cap) ∧ ys.length = N ∧ OwnF w' w.heap.size (.slice (some ⟨g, 0, none⟩) N cap) ys ∧ Below w.heap.size w w'
theorem SampN.mk {N : Nat} {w w' : World} {g cap : Nat} {ys : List Nat} (hn : ys.length = N) (ho : OwnF w' w.heap.size (.slice (some ⟨g, 0, none⟩) N cap) ys) (hb : Below w.heap.size w w') : SampN N w (.returned (.slice (some ⟨g, 0, none⟩) N cap)) w' := ⟨g, cap, ys, rfl, hn, ho, hb⟩
/-- A list of at most N samples that the model owns. -/
def SampO (N : Nat) (w : World) (e : Ending) (w' : World) : Prop :=
  ∃ g n cap ys, e = .returned (.slice (some ⟨g, 0, none⟩) n cap) ∧ ys.length = n ∧ n ≤ N ∧ OwnF w' w.heap.size (.slice (some ⟨g, 0, none⟩) n cap) ys ∧ Below w.heap.size w w'
theorem SampO.mk {N n : Nat} {w w' : World} {g cap : Nat} {ys : List Nat} (hn : ys.length = n) (hl : n ≤ N) (ho : OwnF w' w.heap.size (.slice (some ⟨g, 0, none⟩) n cap) ys) (hb : Below w.heap.size w w') : SampO N w (.returned (.slice (some ⟨g, 0, none⟩) n cap)) w' := ⟨g, n, cap, ys, rfl, hn, hl, ho, hb⟩
def LineP (b : Nat) (w : World) (e : Ending) (w' : World) : Prop :=
  ∃ v ys, e = .returned v ∧ ys.length ≤ 5000 ∧ FNew w' w.heap.size v ys ∧ Cur w' b ∧ w.grownBy w' (some b)
theorem LineP.mk {b : Nat} {w w' : World} {v : Value} {ys : List Nat} (hl : ys.length ≤ 5000) (ho : FNew w' w.heap.size v ys) (hc : Cur w' b) (hg : w.grownBy w' (some b)) : LineP b w (.returned v) w' := ⟨v, ys, rfl, hl, ho, hc, hg⟩
theorem LineP.own {b n : Nat} {w w' : World} {g cap : Nat} {ys : List Nat} (hn : ys.length = n) (hl : n ≤ 5000) (ho : OwnF w' w.heap.size (.slice (some ⟨g, 0, none⟩) n cap) ys) (hc : Cur w' b) (hg : w.grownBy w' (some b)) : LineP b w (.returned (.slice (some ⟨g, 0, none⟩) n cap)) w' :=
  ⟨_, ys, rfl, by omega, ho.new, hc, hg⟩
theorem FNew.cap {w : World} {base g n cap : Nat} {xs : List Nat} (h : FNew w base (.slice (some ⟨g, 0, none⟩) n cap) xs) : n ≤ cap := by
  rcases h with ⟨e, _⟩ | ⟨g', cap', e, hb, hc, _⟩
  · cases e
  · cases e
    exact hc
theorem FNew.take {w : World} {base g n cap : Nat} {xs : List Nat} (h : FNew w base (.slice (some ⟨g, 0, none⟩) n cap) xs) (hn : xs.length = n) (k : Nat) (hk : k ≤ n) : FNew w base (.slice (some ⟨g, 0, none⟩) k cap) (xs.take k) := by
  have hlen : (xs.take k).length = k := by rw [List.length_take]; omega
  rcases h with ⟨e, _⟩ | ⟨g', cap', e, hb, hc, cur, h1, h2, h3⟩
  · cases e
  · cases e
    refine .inr ⟨g, cap, by rw [hlen], hb, by omega, cur, h1, by omega, fun i hi hik => ?_⟩
    rw [List.getElem_take]
    exact h3 i (by omega) (by omega)
end Go.Proofs.YtobpnoiienpipaaGreat

/-
  What is proved: the walks of slices.Repeat for one sample eight times, and for one cell four times.
  Conditions: none.
-/
namespace Go.Proofs.YtobpnoiienpipaaGreat
set_option linter.unusedVariables false
open Go.RowKit
attribute [local go_sem] run_store_float run_store_complex unary_negf neg256

def fpat (z : Nat) : List Value := [.float .f32 z]
theorem Fill.row {w : World} {g n z : Nat} (h : Fill 25 (fpat z) w g n n) : FRow w (.slice (some ⟨g, 0, none⟩) n n) (List.replicate n z) := by
  refine .inr ⟨g, 0, n, by simp, by simp, fun i hi => ?_⟩
  have hin : i < n := by simpa using hi
  have hg : ∀ m i, i < m → (fills (fpat z) m)[i]? = some (.float .f32 z) := by
    intro m
    induction m with
    | zero => intro i h; omega
    | succ m ih =>
      intro i hi
      cases i with
      | zero => rfl
      | succ i =>
        show (fpat z ++ fills (fpat z) m)[i + 1]? = _
        rw [List.getElem?_append_right (by simp [fpat])]
        exact ih i (by omega)
  have := h.cell (Nat.le_refl n) i _ (hg n i hin)
  have hadd : (⟨g, 0, none⟩ : Addr).add i = ⟨g, i, none⟩ := by unfold Addr.add; split <;> simp_all
  rw [hadd] at this
  rw [Nat.zero_add, this]
  simp
end Go.Proofs.YtobpnoiienpipaaGreat

/-
  What is proved: the walk of the program's EncodeCells.
  Conditions: the row can be read; its bits fit.
-/
namespace Go.Proofs.YtobpnoiienpipaaGreat
set_option linter.unusedVariables false
open Go.RowKit
attribute [local go_sem] run_store_float run_store_complex unary_negf neg256

def EncPost (ys : List Nat) (w : World) (e : Ending) (w' : World) : Prop := ∃ v', e = .returned v' ∧ FNew w' w.heap.size v' ys ∧ Below w.heap.size w w'
theorem EncPost.mk {ys : List Nat} {w w' : World} {v' : Value} (h : FNew w' w.heap.size v' ys) (hb : Below w.heap.size w w') : EncPost ys w (.returned v') w' := ⟨v', rfl, h, hb⟩
end Go.Proofs.YtobpnoiienpipaaGreat

/-
  What is proved: the walk of MakeLine.
  Conditions: the row can be read.
-/
namespace Go.Proofs.YtobpnoiienpipaaGreat
set_option linter.unusedVariables false
open Go.RowKit
attribute [local go_sem] run_store_float run_store_complex unary_negf neg256

/-- Block g holds these cells. -/
def Mem (w : World) (g : Nat) (L : List Value) : Prop := w.heap[g]? = some (.cells L.toArray 25 (0, 0))
theorem grown_any {w w' : World} (row : Option Nat) (hb : Below w.heap.size w w') : w.grownBy w' row := ⟨hb.os, hb.tape, hb.output, hb.size, fun k hk _ => hb.block k hk⟩
theorem Mem.kept {w w' : World} {g : Nat} {L : List Value} (h : Mem w g L) (hb : w'.heap[g]? = w.heap[g]?) : Mem w' g L := hb.trans h
theorem Mem.lt {w : World} {g : Nat} {L : List Value} (h : Mem w g L) : g < w.heap.size := (Array.getElem?_eq_some_iff.1 h).1
theorem Mem.below {w w' : World} {g : Nat} {L : List Value} (h : Mem w g L) (hb : Below w.heap.size w w') : Mem w' g L := h.kept ((grown_of hb).block g (Array.getElem?_eq_some_iff.1 h).1 (by simp))
theorem lit_cell2 (z : Nat) (w : World) (o : Obj) : ((w.alloc o).alloc (.cells #[.float .f32 z] 25)).cell? ⟨w.heap.size + 1, 0, none⟩ = some (.float .f32 z) := by
  have h := lit_cell z (w.alloc o)
  rwa [show (w.alloc o).heap.size = w.heap.size + 1 by simp] at h
theorem FNew.row4 {w : World} {base : Nat} {v : Value} {xs : List Nat} (h : FNew w base v xs) (h0 : 0 < xs.length) : ∃ g c, v = .slice (some ⟨g, 0, none⟩) xs.length c := by
  rcases h with ⟨_, e⟩ | ⟨g, c, e, _⟩
  · subst e; simp at h0
  · exact ⟨g, c, e⟩
end Go.Proofs.YtobpnoiienpipaaGreat
