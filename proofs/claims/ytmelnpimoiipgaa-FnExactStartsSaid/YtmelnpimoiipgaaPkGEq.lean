/-
  What is proved: the exact laws' copying, comparing and marking of lists of ints and of runs.
  Conditions: those that each fact names.
-/
import Derived.Test.YtmelnpimoiipgaaPkGen
import Derived.Test.YtmelnpimoiipgaaPkEq
import Derived.Test.YtmelnpimoiipgaaDelay
import Derived.Deep.RegionWith
namespace Go.Proofs.Ytmelnpimoiipgaa
set_option linter.unusedVariables false
open Go.RowKit
attribute [local go_sem] run_store_float run_store_complex unary_negf neg256

theorem li_cells (xs : List Int) : LI.cells xs = xs.map (.int .i64) := by
  induction xs with
  | nil => rfl
  | cons x xs ih => show Value.int .i64 x :: LI.cells xs = _; rw [ih]; rfl
theorem made_int (n : Nat) : (madeCells #[.int .i64 0] n).toList = LI.cells (List.replicate n 0) := by
  rw [li_cells]
  refine List.ext_getElem (by simp [madeCells]) fun i h1 h2 => ?_
  simp [madeCells, Nat.mod_one]
theorem li_made (w : World) (n : Nat) (hn : n ≤ 1000000000) : LI.Own (w.alloc (.cells (madeCells #[.int .i64 0] n) 3)) w.heap.size (.slice (some ⟨w.heap.size, 0, none⟩) n n) (List.replicate n 0) := by
  have hlen : (List.replicate n (0 : Int)).length = n := List.length_replicate
  refine ⟨LI_ok.cells_len _, .inr ⟨_, n, madeCells #[.int .i64 0] n, by rw [hlen], Nat.le_refl _, heap_alloc_new w _, by rw [hlen]; exact Nat.le_refl _, by unfold maxLen; omega, by rw [size_madeCells]; exact (Nat.mul_one n).symm, ?_⟩⟩
  rw [made_int, List.take_of_length_le (by rw [LI_ok.cells_len]; exact Nat.le_refl _)]
theorem make_ints (n : Nat) (hn : n ≤ 1000000000) (W : World) : (Instr.makeSlice 42 (.int .i64 (n : Int)) (.int .i64 (n : Int))).run Try.prog W = .ok (.slice (some ⟨W.heap.size, 0, none⟩) n n) (W.alloc (.cells (madeCells #[.int .i64 0] n) 3)) := by
  obtain ⟨i0, hi, hz0, hz1, hz2⟩ := info_parts (show (Try.prog.info? 3).map (fun i => (i.zero, i.size, i.bytes)) = some (some (.int .i64 0), 1, 8) by kernel_rfl)
  have h := run_make (P := Try.prog) W 42 3 i0 _ Try.underlying42 hi hz0 .i64 .i64 n n (by omega) (by omega) (by rw [hz2]; omega) (by omega)
  rw [hz1] at h
  simpa [Value.cells] using h
set_option maxHeartbeats 2000000 in
theorem toInts_any (v : Value) (xs : List Int) (w : World) (h : LI.Row w v xs) (hl : xs.length ≤ 1000000000) :
    Calls Try.prog 42 #[v] w fun e w' => LI.Got xs w e w' := by
  have hmk := make_ints xs.length hl
  have HST := Lib.hid (li_made w xs.length hl)
  have hbel : Below w.heap.size w (w.alloc (.cells (madeCells #[.int .i64 0] xs.length) 3)) := (Below.refl _ _).alloc (Nat.le_refl _) _
  obtain ⟨a, c, rfl, hcell⟩ := ints_any h
  have HC := Lib.hid hcell
  clear hcell h
  go_enter Try.func42, Try.ntmps42
  go_wp2
  clear hmk
  generalize w.alloc (.cells (madeCells #[.int .i64 0] xs.length) 3) = w1 at *
  go_loopw [4] (fun i wr => ∃ k : Nat, k ≤ xs.length ∧ i = .int .i64 (k : Int) ∧ Below w.heap.size w wr ∧ LI.Own wr w.heap.size (.slice (some ⟨w.heap.size, 0, none⟩) xs.length xs.length) (xs.take k ++ (List.replicate xs.length 0).drop k)) (fun i _ => xs.length - (intOf i).toNat)
  case atStart => exact ⟨0, Nat.zero_le _, rfl, hbel, by simpa using HST.out⟩
  case round =>
    obtain ⟨k, hk, rfl, hb, hm⟩ := hrel
    have HM := Lib.hid hm
    clear hm HST
    have hrl : (List.replicate xs.length (0 : Int)).length = xs.length := List.length_replicate
    by_cases hlt : k < xs.length
    · obtain ⟨g, o, rfl, hcap, hcc⟩ := HC.out k hlt
      have hc0 := (grown_of hb).cell hcc (by simp)
      have htl : k < (xs.take k ++ (List.replicate xs.length (0 : Int)).drop k).length := by rw [List.length_append, List.length_take, List.length_drop, hrl]; omega
      obtain ⟨⟨x0, hx0⟩, hf0⟩ := HM.out.at LI_ok htl (show 0 < LI.size by decide) (show k = k * LI.size + 0 from (Nat.mul_one k).symm)
      have hm3 := HM.out.put LI_ok (z := xs[k]) htl (show 0 < LI.size by decide) (show k = k * LI.size + 0 from (Nat.mul_one k).symm) (u := .int .i64 xs[k]) rfl
      rw [set_take_drop hlt (by rw [hrl]; exact hlt) rfl] at hm3
      have HM3 := Lib.hid hm3
      have hbs := hb.setCell (p := ⟨w.heap.size, k, none⟩) (Nat.le_refl _) (.int .i64 xs[k])
      clear hm3 hcc htl hrl
      generalize xs[k] = x at *
      go_wp2
      go_roundw
      case rel => exact ⟨k + 1, by omega, by go_num, hbs, HM3.out⟩
      case measure => simp [intOf]; omega
    · have hkk : k = xs.length := by omega
      subst hkk
      have HF := Lib.hid (show LI.Own wr w.heap.size (.slice (some ⟨w.heap.size, 0, none⟩) xs.length xs.length) xs by simpa using HM.out)
      clear hrl
      go_wp2
      go_ret
      exact Lay.Got.mk HF.out hb
/-- The numbers that the laws mark with, from k0 on. -/
def imarks (k0 n : Nat) : List Int := (List.range n).map fun (i : Nat) => (k0 : Int) + (i : Int)
theorem imarks_len (k0 n : Nat) : (imarks k0 n).length = n := by simp [imarks]
theorem imarks_get (k0 n i : Nat) (h : i < (imarks k0 n).length) : (imarks k0 n)[i] = (k0 : Int) + (i : Int) := by simp [imarks]
def MarkI (k0 base : Nat) (v : Value) (n : Nat) (w : World) (e : Ending) (w' : World) : Prop := e = .returned (.int .i64 ((k0 : Int) + (n : Int))) ∧ LI.Own w' base v (imarks k0 n) ∧ w.grownBy w' v.ownBlock
set_option maxHeartbeats 2000000 in
theorem markInts_any (k0 base : Nat) (v : Value) (xs : List Int) (w : World) (h : LI.Own w base v xs) (hl : xs.length ≤ 1000000000) (hk0 : k0 ≤ 1000000000) :
    Calls Try.prog 39 #[v, .int .i64 (k0 : Int)] w fun e w' => MarkI k0 base v xs.length w e w' := by
  rcases h.shape with ⟨rfl, rfl⟩ | ⟨g, cap, rfl, hbase, hg, hcap, _⟩
  · clear h
    go_enter Try.func39, Try.ntmps39
    go_wp2
    go_loop [1, 5] (fun kk i => kk = .int .i64 (k0 : Int) ∧ i = .int .i64 0) (fun _ _ => 0)
    case atStart => exact ⟨rfl, rfl⟩
    case round =>
      obtain ⟨rfl, rfl⟩ := hrel
      go_wp2
      go_ret
      exact ⟨by simp, LI.ownNil _ _, World.grownBy.refl _ _⟩
  · have HST := Lib.hid h
    have HML := Lib.hid (imarks_len k0 xs.length)
    clear h
    go_enter Try.func39, Try.ntmps39
    go_wp2
    go_loopw [1, 5] (fun kk i wr => ∃ k : Nat, k ≤ xs.length ∧ i = .int .i64 (k : Int) ∧ kk = .int .i64 ((k0 : Int) + (k : Int)) ∧ w.grownBy wr (some g) ∧ LI.Own wr base (.slice (some ⟨g, 0, none⟩) xs.length cap) ((imarks k0 xs.length).take k ++ xs.drop k)) (fun _ i _ => xs.length - (intOf i).toNat)
    case atStart => exact ⟨0, Nat.zero_le _, rfl, by simp, World.grownBy.refl _ _, by simpa using HST.out⟩
    case round =>
      obtain ⟨k, hk, rfl, rfl, hg, hm⟩ := hrel
      have HM := Lib.hid hm
      clear hm HST
      by_cases hlt : k < xs.length
      · have htl : k < ((imarks k0 xs.length).take k ++ xs.drop k).length := by rw [take_drop_len HML.out hk]; exact hlt
        have hlm : k < (imarks k0 xs.length).length := by rw [HML.out]; exact hlt
        obtain ⟨⟨x0, hx0⟩, hf0⟩ := HM.out.at LI_ok htl (show 0 < LI.size by decide) (show k = k * LI.size + 0 from (Nat.mul_one k).symm)
        have hm3 := HM.out.put LI_ok (z := (k0 : Int) + (k : Int)) htl (show 0 < LI.size by decide) (show k = k * LI.size + 0 from (Nat.mul_one k).symm) (u := .int .i64 ((k0 : Int) + (k : Int))) rfl
        rw [set_take_drop hlm hlt (imarks_get _ _ _ _)] at hm3
        have HM3 := Lib.hid hm3
        have hg3 := hg.trans (Lib.grownBy_setCell wr g k (.int .i64 ((k0 : Int) + (k : Int))))
        clear hm3 htl hlm
        go_wp2
        go_roundw
        case rel => exact ⟨k + 1, by omega, by go_num, by go_num, hg3, HM3.out⟩
        case measure => simp [intOf]; omega
      · have hkk : k = xs.length := by omega
        subst hkk
        have HF := Lib.hid (show LI.Own wr base (.slice (some ⟨g, 0, none⟩) xs.length cap) (imarks k0 xs.length) by
          have := HM.out
          rwa [List.take_of_length_le (by rw [HML.out]; exact Nat.le_refl _), List.drop_length, List.append_nil] at this)
        go_wp2
        go_ret
        exact ⟨rfl, HF.out, hg⟩
set_option maxHeartbeats 2000000 in
theorem heldInts_any (k0 : Nat) (v : Value) (n : Nat) (w : World) (h : LI.Row w v (imarks k0 n)) (hl : n ≤ 1000000000) (hk0 : k0 ≤ 1000000000) :
    Calls Try.prog 40 #[v, .int .i64 (k0 : Int)] w fun e w' => e = .returned (.int .i64 ((k0 : Int) + (n : Int))) ∧ ∃ q, w' = w.drewN q := by
  obtain ⟨a, c, rfl, hcell⟩ := ints_any h
  rw [imarks_len]
  have HC := Lib.hid hcell
  clear hcell h
  go_enter Try.func40, Try.ntmps40
  go_wp2
  go_loopw [1, 5] (fun kk i wr => ∃ k q : Nat, k ≤ n ∧ i = .int .i64 (k : Int) ∧ kk = .int .i64 ((k0 : Int) + (k : Int)) ∧ wr = w.drewN q) (fun _ i _ => n - (intOf i).toNat)
  case atStart => exact ⟨0, 0, Nat.zero_le _, rfl, by simp, rfl⟩
  case round =>
    obtain ⟨k, q, hk, rfl, rfl, rfl⟩ := hrel
    by_cases hlt : k < n
    · have hlm : k < (imarks k0 n).length := by rw [imarks_len]; exact hlt
      obtain ⟨g, o, rfl, hcap, hc0⟩ := HC.out k hlm
      rw [imarks_get] at hc0
      rw [imarks_len] at hcap
      clear hlm
      go_wp2
      go_roundw
      case rel => exact ⟨k + 1, _, by omega, by go_num, by go_num, rfl⟩
      case measure => simp [intOf]; omega
    · have hkk : k = n := by omega
      subst hkk
      go_wp2
      go_ret
      exact ⟨rfl, _, rfl⟩
set_option maxHeartbeats 2000000 in
theorem eqInts_self (v v' : Value) (xs : List Int) (w : World) (h : LI.Row w v xs) (h' : LI.Row w v' xs) (hl : xs.length ≤ 1000000000) :
    Calls Try.prog 38 #[v, v'] w fun e w' => e = .returned (.bool true) ∧ ∃ n, w' = w.drewN n := by
  obtain ⟨a, c, rfl, hcell⟩ := ints_any h
  obtain ⟨a', c', rfl, hcell'⟩ := ints_any h'
  have HC := Lib.hid hcell
  have HC' := Lib.hid hcell'
  clear hcell hcell' h h'
  go_enter Try.func38, Try.ntmps38
  go_wp2
  go_loopw [5] (fun i wr => ∃ k q : Nat, k ≤ xs.length ∧ i = .int .i64 (k : Int) ∧ wr = w.drewN q) (fun i _ => xs.length - (intOf i).toNat)
  case atStart => exact ⟨0, 0, Nat.zero_le _, rfl, rfl⟩
  case round =>
    obtain ⟨k, q, hk, rfl, rfl⟩ := hrel
    by_cases hlt : k < xs.length
    · obtain ⟨g, o, rfl, hcap, hc0⟩ := HC.out k hlt
      obtain ⟨g', o', rfl, hcap', hc0'⟩ := HC'.out k hlt
      generalize xs[k] = x at *
      go_wp2
      go_quiet (fail)
      go_wp2
      go_roundw
      case rel => exact ⟨k + 1, _, by omega, by go_num, rfl⟩
      case measure => simp [intOf]; omega
    · go_wp2
      go_ret
      exact ⟨rfl, _, rfl⟩
end Go.Proofs.Ytmelnpimoiipgaa

/-
  What is proved: the walks of AddSamples, the program's and the model's, and of the program's function that joins two lists.
  Conditions: the lists can be read.
-/
namespace Go.Proofs.Ytmelnpimoiipgaa
set_option linter.unusedVariables false
open Go.RowKit
attribute [local go_sem] run_store_float run_store_complex unary_negf neg256

theorem MadeF.snoc {w : World} {b n k : Nat} {xs : List Nat} (h : MadeF w b n k xs) (hx : xs.length = k) (hk : k < n) (r : Nat) : MadeF (w.setCell ⟨b, k, none⟩ (.float .f32 r)) b n (k + 1) (xs ++ [r]) := by
  obtain ⟨cur, h1, h2, h3⟩ := h
  refine ⟨cur.setIfInBounds k (.float .f32 r), heapF h1, by simpa using h2, fun i hi hik => ?_⟩
  by_cases e : i = k
  · subst e
    rw [Array.getElem?_setIfInBounds, if_pos rfl, if_pos (by omega)]
    rw [List.getElem_append_right (by omega)]
    simp [hx]
  · rw [Array.getElem?_setIfInBounds, if_neg (by omega)]
    rw [List.getElem_append_left (by omega)]
    exact h3 i (by omega) (by omega)
/-- What may come of two lists, place for place. -/
def ResL (op : BinOp) (xs ys rs : List Nat) : Prop := rs.length ≤ xs.length ∧ rs.length ≤ ys.length ∧ ∀ i (h : i < rs.length) (h1 : i < xs.length) (h2 : i < ys.length), Res op xs[i] ys[i] rs[i]
theorem ResL.nil (op : BinOp) (xs ys : List Nat) : ResL op xs ys [] := ⟨Nat.zero_le _, Nat.zero_le _, fun i h => absurd h (by simp)⟩
theorem ResL.snoc {op : BinOp} {xs ys rs : List Nat} {r k : Nat} (h : ResL op xs ys rs) (hk : rs.length = k) (h1 : k < xs.length) (h2 : k < ys.length) (hr : Res op xs[k] ys[k] r) : ResL op xs ys (rs ++ [r]) := by
  obtain ⟨a, b, c⟩ := h
  refine ⟨by simp; omega, by simp; omega, fun i hi h1' h2' => ?_⟩
  simp at hi
  by_cases e : i = k
  · subst e
    rw [List.getElem_append_right (by omega)]
    simpa [hk] using hr
  · rw [List.getElem_append_left (by omega)]
    exact c i (by omega) h1' h2'
theorem ResL.same {op : BinOp} {xs ys rs xs' ys' rs' : List Nat} (h : ResL op xs ys rs) (h' : ResL op xs' ys' rs') (hx : SmL xs xs') (hy : SmL ys ys') (hl : rs.length = rs'.length) : SmL rs rs' := by
  obtain ⟨a, b, c⟩ := h
  obtain ⟨a', b', c'⟩ := h'
  exact ⟨hl, fun i h1 h2 => Res.same (hx.2 i (by omega) (by omega)) (hy.2 i (by omega) (by omega)) (c i h1 (by omega) (by omega)) (c' i h2 (by omega) (by omega))⟩
def FloatPost (op : BinOp) (x y : Nat) (w : World) (e : Ending) (w' : World) : Prop := ∃ r, e = .returned (.float .f32 r) ∧ Res op x y r ∧ ∃ n, w' = w.drewN n

def JoinPost (op : BinOp) (xs ys : List Nat) (w : World) (e : Ending) (w' : World) : Prop := ∃ v rs, e = .returned v ∧ rs.length = xs.length ∧ ResL op xs ys rs ∧ FNew w' w.heap.size v rs ∧ Below w.heap.size w w'
def marksFrom (k0 n : Nat) : List Nat := (List.range n).map fun (i : Nat) => floatOfInt .f32 ((k0 : Int) + (i : Int))
theorem marksFrom_len (k0 n : Nat) : (marksFrom k0 n).length = n := by simp [marksFrom]
theorem marksFrom_get (k0 n i : Nat) (h : i < (marksFrom k0 n).length) : (marksFrom k0 n)[i] = floatOfInt .f32 ((k0 : Int) + (i : Int)) := by simp [marksFrom]
def MarkFrom (k0 base : Nat) (v : Value) (n : Nat) (w : World) (e : Ending) (w' : World) : Prop := e = .returned (.int .i64 ((k0 : Int) + (n : Int))) ∧ FNew w' base v (marksFrom k0 n) ∧ w.grownBy w' v.ownBlock
theorem MarkFrom.mk {k0 base : Nat} {v : Value} {n : Nat} {w w' : World} {m : Int} (hm : m = (k0 : Int) + (n : Int)) (h : FNew w' base v (marksFrom k0 n)) (hg : w.grownBy w' v.ownBlock) : MarkFrom k0 base v n w (.returned (.int .i64 m)) w' := ⟨by rw [hm], h, hg⟩
set_option maxHeartbeats 2000000 in
theorem markFrom_any (k0 base : Nat) (v : Value) (xs : List Nat) (w : World) (h : FNew w base v xs) (hl : xs.length ≤ 1000000000) (hk0 : k0 ≤ 1000000000) :
    Calls Try.prog 34 #[v, .int .i64 (k0 : Int)] w fun e w' => MarkFrom k0 base v xs.length w e w' := by
  rcases h with ⟨rfl, rfl⟩ | ⟨g, cap, rfl, hbase, hcap, hm⟩
  · go_enter Try.func34, Try.ntmps34
    go_wp2
    go_loop [1, 5] (fun kk i => kk = .int .i64 (k0 : Int) ∧ i = .int .i64 0) (fun _ _ => 0)
    case atStart => exact ⟨rfl, rfl⟩
    case round =>
      obtain ⟨rfl, rfl⟩ := hrel
      go_wp2
      go_ret
      exact MarkFrom.mk (by simp) (FNew.nil _ _) (World.grownBy.refl _ _)
  · have HST := Lib.hid (hm.zero (ys := marksFrom k0 xs.length))
    clear hm
    go_enter Try.func34, Try.ntmps34
    go_wp2
    go_loopw [1, 5] (fun kk i wr => ∃ k : Nat, k ≤ xs.length ∧ i = .int .i64 (k : Int) ∧ kk = .int .i64 ((k0 : Int) + (k : Int)) ∧ w.grownBy wr (some g) ∧ MadeF wr g xs.length k (marksFrom k0 xs.length)) (fun _ i _ => xs.length - (intOf i).toNat)
    case atStart => exact ⟨0, Nat.zero_le _, rfl, by simp, World.grownBy.refl _ _, HST.out⟩
    case round =>
      obtain ⟨k, hk, rfl, rfl, hg, hm⟩ := hrel
      have HM := Lib.hid hm
      clear hm HST
      by_cases hlt : k < xs.length
      · obtain ⟨⟨x0, hx0⟩, hf0⟩ := HM.out.at k hlt
        have hlm : k < (marksFrom k0 xs.length).length := by rw [marksFrom_len]; exact hlt
        have hm3 := HM.out.step hlm (by rw [marksFrom_len]; exact Nat.le_refl _)
        rw [marksFrom_get] at hm3
        have HM3 := Lib.hid hm3
        have hg3 := hg.trans (Lib.grownBy_setCell wr g k (.float .f32 (floatOfInt .f32 ((k0 : Int) + (k : Int)))))
        clear hm3
        go_wp2
        go_roundw
        case rel => exact ⟨k + 1, by omega, by go_num, by first | (go_num; done) | (congr 1; omega) | (congr 1), hg3, HM3.out⟩
        case measure => simp [intOf]; omega
      · have hkk : k = xs.length := by omega
        subst hkk
        go_wp2
        go_ret
        exact MarkFrom.mk rfl (.inr ⟨g, cap, by rw [marksFrom_len], hbase, by rw [marksFrom_len]; exact hcap, by rw [marksFrom_len]; exact HM.out⟩) hg
def addOk (xs ys : List Nat) : Bool := decide (xs.length = ys.length) && decide (xs.length ≤ 256)
def AddR (xs ys rs : List Nat) : Prop := if addOk xs ys = true then rs.length = xs.length ∧ ResL .add xs ys rs else rs = []
theorem AddR.same {xs ys rs rs' : List Nat} (h : AddR xs ys rs) (h' : AddR xs ys rs') : SmL rs rs' := by
  unfold AddR at h h'
  split at h
  · rw [if_pos (by assumption)] at h'
    exact ResL.same h.2 h'.2 (SmL.refl _) (SmL.refl _) (by rw [h.1, h'.1])
  · rw [if_neg (by assumption)] at h'
    rw [h, h']; exact SmL.refl _
theorem AddR.len {xs ys rs : List Nat} (h : AddR xs ys rs) : rs.length ≤ xs.length := by
  unfold AddR at h
  split at h
  · omega
  · rw [h]; simp
theorem AddR.no {xs ys : List Nat} (h : addOk xs ys = false) : AddR xs ys [] := by unfold AddR; rw [h]; simp
theorem AddR.yes {xs ys rs : List Nat} (h : addOk xs ys = true) (h1 : rs.length = xs.length) (h2 : ResL .add xs ys rs) : AddR xs ys rs := by unfold AddR; rw [h]; simpa using ⟨h1, h2⟩
end Go.Proofs.Ytmelnpimoiipgaa

/-
  What is proved: the exact laws' comparing and marking of lists of lists of single floats.
  Conditions: those that each fact names.
-/
namespace Go.Proofs.Ytmelnpimoiipgaa
set_option linter.unusedVariables false
open Go.RowKit
attribute [local go_sem] run_store_float run_store_complex unary_negf neg256

/-- The blocks of a list of lists. -/
def GBlk (v : Value) (ss : List SV) (k : Nat) : Prop := v.ownBlock = some k ∨ ∃ i, ∃ h : i < ss.length, ss[i].v.ownBlock = some k
def RBlk (ss : List SV) (k : Nat) : Prop := ∃ i, ∃ h : i < ss.length, ss[i].v.ownBlock = some k
theorem Grid.lt {w : World} {base : Nat} {v : Value} {rows : List (List Nat)} {ss : List SV} (h : Grid w base v rows ss) : ∀ k, GBlk v ss k → base ≤ k ∧ k < w.heap.size := by
  rintro k (hk | ⟨i, hi, hk⟩)
  · exact h.own.lt k hk
  · exact (h.lines.row i hi (by rw [← h.lines.len]; exact hi)).lt k hk
theorem Grid.below {w w' : World} {base : Nat} {v : Value} {rows : List (List Nat)} {ss : List SV} (h : Grid w base v rows ss) (hb : Below w.heap.size w w') : Grid w' base v rows ss :=
  ⟨h.own.below hb, h.lines.kept (grown_of hb) (fun _ _ _ _ => by simp)⟩
theorem Grid.turn {w w' : World} {base : Nat} {v : Value} {rows : List (List Nat)} {ss : List SV} {S : Nat → Prop} (h : Grid w base v rows ss) (ht : Turn w w' S) (hS : ∀ k, GBlk v ss k → ¬ S k) : Grid w' base v rows ss :=
  ⟨h.own.turn ht (fun k hk => hS k (.inl hk)), h.lines.len, fun i h1 h2 => (h.lines.row i h1 h2).turn ht (fun k hk => hS k (.inr ⟨i, h1, hk⟩)), h.lines.apart, h.lines.out⟩
theorem apart2 {P Q : Nat → Prop} {n : Nat} (h : ∀ k, P k → k < n) (h' : ∀ k, Q k → n ≤ k) : (∀ k, P k → ¬ Q k) ∧ (∀ k, Q k → ¬ P k) :=
  ⟨fun k hp hq => by have := h k hp; have := h' k hq; omega, fun k hq hp => by have := h k hp; have := h' k hq; omega⟩
/-- One line is written. -/
theorem Grid.put {w w' : World} {base k : Nat} {v : Value} {rows : List (List Nat)} {ss : List SV} {ys : List Nat} (h : Grid w base v rows ss) (hk : k < ss.length) (hg : w.grownBy w' ss[k].v.ownBlock) (hn : FNew w' base ss[k].v ys) : Grid w' base v (rows.set k ys) ss := by
  refine ⟨h.own.kept hg ?_, by rw [List.length_set]; exact h.lines.len, fun i h1 h2 => ?_, h.lines.apart, h.lines.out⟩
  · cases e : v.ownBlock with
    | none => exact .inl rfl
    | some b => exact .inr fun e' => h.lines.out k hk b e'.symm e
  · by_cases e : i = k
    · subst e
      rw [List.getElem_set_self]
      exact hn
    · rw [List.getElem_set_ne (by omega)]
      exact (h.lines.row i h1 (by rw [← h.lines.len]; exact h1)).far hg (fun j hj e' => h.lines.apart k i hk h1 (fun e2 => e e2.symm) j e' hj)
theorem lines_any {w : World} {v : Value} {ss : List SV} (h : LSf.Row w v ss) : ∃ a c, v = .slice a ss.length c ∧ ∀ k (hk : k < ss.length), ∃ g o, a = some ⟨g, o, none⟩ ∧ ss.length ≤ c ∧ w.cell? ⟨g, o + k, none⟩ = some ss[k].v := by
  obtain ⟨a, c, h1, h2⟩ := h.any LSf_ok
  refine ⟨a, c, h1, fun k hk => ?_⟩
  obtain ⟨g, o, e, hc, hcell⟩ := h2 k hk
  refine ⟨g, o, e, hc, ?_⟩
  have := hcell 0 _ rfl
  rwa [show k * LSf.size + 0 = k from Nat.mul_one k] at this
def gsum (rs : List (List Nat)) : Nat := (rs.map List.length).sum
/-- The lists that the laws mark with. -/
def gmarks : Nat → List (List Nat) → List (List Nat)
  | _, [] => []
  | k, r :: rs => marksFrom k r.length :: gmarks (k + r.length) rs
theorem gmarks_len : ∀ (k : Nat) (rs : List (List Nat)), (gmarks k rs).length = rs.length
  | _, [] => rfl
  | k, r :: rs => by rw [gmarks, List.length_cons, List.length_cons, gmarks_len]
theorem gmarks_get : ∀ (k : Nat) (rs : List (List Nat)) (i : Nat) (h : i < (gmarks k rs).length) (h' : i < rs.length), (gmarks k rs)[i] = marksFrom (k + gsum (rs.take i)) rs[i].length
  | k, r :: rs, 0, _, _ => rfl
  | k, r :: rs, i + 1, h, h' => by
    have := gmarks_get (k + r.length) rs i (by rw [gmarks_len]; simpa using h') (by simpa using h')
    show (gmarks (k + r.length) rs)[i]'(by rw [gmarks_len]; simpa using h') = _
    rw [this]
    show marksFrom (k + r.length + gsum (rs.take i)) _ = marksFrom (k + (r.length + gsum (rs.take i))) _
    rw [Nat.add_assoc]
    rfl
theorem gsum_succ {rs : List (List Nat)} {k : Nat} (h : k < rs.length) : gsum (rs.take (k + 1)) = gsum (rs.take k) + rs[k].length := by
  unfold gsum
  rw [List.take_succ_eq_append_getElem h, List.map_append, List.sum_append]
  simp
theorem gsum_le {rs : List (List Nat)} (k : Nat) : gsum (rs.take k) ≤ gsum rs := by
  conv => rhs; rw [← List.take_append_drop k rs]
  unfold gsum
  rw [List.map_append, List.sum_append]
  omega
theorem gsum_bound {rs : List (List Nat)} {m : Nat} (h : ∀ r ∈ rs, r.length ≤ m) : gsum rs ≤ rs.length * m := by
  induction rs with
  | nil => exact Nat.zero_le _
  | cons r rs ih =>
    have h1 := h r (by simp)
    have h2 := ih fun x hx => h x (by simp [hx])
    show r.length + gsum rs ≤ (rs.length + 1) * m
    rw [Nat.succ_mul]
    omega
def MarkG (base : Nat) (v : Value) (rows : List (List Nat)) (ss : List SV) (w : World) (e : Ending) (w' : World) : Prop := e = .returned (.int .i64 (1 + (gsum rows : Nat) : Int)) ∧ Grid w' base v (gmarks 1 rows) ss ∧ Turn w w' (GBlk v ss)
set_option maxHeartbeats 2000000 in
theorem eqGrid_self (b b' : Nat) (v v' : Value) (rows : List (List Nat)) (ss ss' : List SV) (w : World) (h : Grid w b v rows ss) (h' : Grid w b' v' rows ss') (hl : rows.length ≤ 2000000) (hr : ∀ r ∈ rows, r.length ≤ 20000) :
    Calls Try.prog 43 #[v, v'] w fun e w' => e = .returned (.bool true) ∧ ∃ n, w' = w.drewN n := by
  obtain ⟨a, c, rfl, hcell⟩ := lines_any h.own.row
  obtain ⟨a', c', rfl, hcell'⟩ := lines_any h'.own.row
  have hl1 := h.lines.len
  have hl2 := h'.lines.len
  have HC := Lib.hid hcell
  have HC' := Lib.hid hcell'
  have HR := Lib.hid h.lines.row
  have HR' := Lib.hid h'.lines.row
  have HB := Lib.hid hr
  rw [show ss'.length = ss.length by omega]
  have HL := Lib.hid (And.intro hl1 hl2)
  have hls : ss.length ≤ 2000000 := by omega
  clear hcell hcell' h h' hl1 hl2 hr
  go_enter Try.func43, Try.ntmps43
  go_wp2
  go_loopw [5] (fun i wr => ∃ k q : Nat, k ≤ ss.length ∧ i = .int .i64 (k : Int) ∧ wr = w.drewN q) (fun i _ => ss.length - (intOf i).toNat)
  case atStart => exact ⟨0, 0, Nat.zero_le _, rfl, rfl⟩
  case round =>
    obtain ⟨k, q, hk, rfl, rfl⟩ := hrel
    by_cases hlt : k < ss.length
    · have hlt' : k < ss'.length := by have := HL.out; omega
      have hltr : k < rows.length := by have := HL.out.1; omega
      obtain ⟨g, o, rfl, hcap, hc0⟩ := HC.out k hlt
      obtain ⟨g', o', rfl, hcap', hc0'⟩ := HC'.out k hlt'
      have hcap'' : ss.length ≤ c' := by have := HL.out; omega
      have HQ := fun n => Lib.hid (eqFloats_sm ss[k].v ss'[k].v rows[k] rows[k] (w.drewN n) ((HR.out k hlt hltr).row.below (belowDN (Below.refl _ _) n)) ((HR'.out k hlt' hltr).row.below (belowDN (Below.refl _ _) n)) (SmL.refl _) (Nat.le_trans (HB.out _ (List.getElem_mem hltr)) (by decide)))
      have q0 : (w.drewN q).cell? ⟨g, o + k, none⟩ = some ss[k].v := hc0
      have q1 : (w.drewN q).cell? ⟨g', o' + k, none⟩ = some (ss'[k]'hlt').v := hc0'
      clear hcap' hc0 hc0' hltr
      generalize ss[k].v = x at *
      generalize (ss'[k]'hlt').v = y at *
      obtain ⟨wq, hwq⟩ : ∃ wq, w.drewN q = wq := ⟨_, rfl⟩
      have HWQ := Lib.hid hwq
      have HQ1 := HQ (q + 1)
      rw [show w.drewN (q + 1) = wq.drew from by rw [← hwq]; rfl] at HQ1
      rw [hwq] at q0 q1 ⊢
      clear HQ hwq hlt'
      go_wp2
      go_region_with (go_at_call 33; refine (HQ1.out).mono ?_; rintro e w2 ⟨rfl, n2, rfl⟩)
      all_goals
        go_wp2
        go_roundw
        case rel => exact ⟨k + 1, q + 1 + n2, by omega, by go_num, by rw [← HWQ.out, ← drewN_add, ← drewN_add]; rfl⟩
        case measure => simp [intOf]; omega
    · go_wp2
      go_ret
      exact ⟨rfl, _, rfl⟩
set_option maxHeartbeats 2000000 in
theorem markGrid_any (base : Nat) (v : Value) (rows : List (List Nat)) (ss : List SV) (w : World) (h : Grid w base v rows ss) (hl : rows.length ≤ 2000000) (hr : gsum rows ≤ 900000000) :
    Calls Try.prog 44 #[v, .int .i64 1] w fun e w' => MarkG base v rows ss w e w' := by
  obtain ⟨a, c, rfl, hcell⟩ := lines_any h.own.row
  have hl1 := h.lines.len
  have hlt0 := h.own.lt
  have HC := Lib.hid hcell
  have HST := Lib.hid h
  have HML := Lib.hid (gmarks_len 1 rows)
  have hls : ss.length ≤ 2000000 := by omega
  have HL1 := Lib.hid hl1
  clear hcell h hl1
  go_enter Try.func44, Try.ntmps44
  go_wp2
  go_loopw [1, 5] (fun kk i wr => ∃ k m : Nat, k ≤ ss.length ∧ i = .int .i64 (k : Int) ∧ kk = .int .i64 (m : Int) ∧ m = 1 + gsum (rows.take k) ∧ Turn w wr (GBlk (.slice a ss.length c) ss) ∧ Grid wr base (.slice a ss.length c) ((gmarks 1 rows).take k ++ rows.drop k) ss) (fun _ i _ => ss.length - (intOf i).toNat)
  case atStart => exact ⟨0, 1, Nat.zero_le _, rfl, rfl, rfl, Turn.refl _ _, by simpa using HST.out⟩
  case round =>
    obtain ⟨k, m, hk, rfl, rfl, hm1, ht, hm⟩ := hrel
    have HM := Lib.hid hm
    have HT := Lib.hid ht
    have hm64 : m ≤ 900000001 := by have := gsum_le (rs := rows) k; omega
    have HM1 := Lib.hid hm1
    clear hm HST hm1 ht
    by_cases hlt : k < ss.length
    · have hltr : k < rows.length := by have := HL1.out; omega
      have hmr : k < (gmarks 1 rows).length := by rw [HML.out]; exact hltr
      obtain ⟨g, o, rfl, hcap, hc0⟩ := HC.out k hlt
      have hgb : GBlk (.slice (some ⟨g, o, none⟩) ss.length c) ss g := .inl rfl
      have hcell2 := (lines_any HM.out.own.row)
      obtain ⟨a2, c2, e2, hcell2⟩ := hcell2
      cases e2
      obtain ⟨g3, o3, e3, _, hc3⟩ := hcell2 k hlt
      cases e3
      have hrk : (gmarks 1 rows)[k] = marksFrom m rows[k].length := by rw [gmarks_get 1 rows k hmr hltr, ← HM1.out]
      have htl : k < ((gmarks 1 rows).take k ++ rows.drop k).length := by rw [take_drop_len HML.out (by omega)]; exact hltr
      have hrow := HM.out.lines.row k hlt htl
      rw [take_drop_at HML.out hltr htl] at hrow
      have hsl : rows[k].length ≤ 900000000 := by have h1 := gsum_succ hltr; have h2 := gsum_le (rs := rows) (k + 1); omega
      have HMF := Lib.hid (markFrom_any m base ss[k].v rows[k] wr hrow (by omega) (by omega))
      have HNX := Lib.hid (fun (w' : World) (hg : wr.grownBy w' ss[k].v.ownBlock) (hn : FNew w' base ss[k].v (marksFrom m rows[k].length)) => And.intro (HM.out.put hlt hg hn) ((HT.out).trans ((Turn.of hg).mono (fun j _ hj => (.inr ⟨k, hlt, hj⟩ : GBlk (.slice (some ⟨g, o, none⟩) ss.length c) ss j)))))
      have HSD := Lib.hid (set_take_drop hmr hltr hrk)
      have HGS := Lib.hid (gsum_succ hltr)
      clear hc0 hrow hcell2 htl hmr hrk
      generalize rows[k].length = rl at *
      generalize ss[k].v = vk at *
      go_wp2_with fail
      refine (HMF.out).mono ?_
      rintro e w2 ⟨rfl, hn2, hg2⟩
      obtain ⟨hgr, htt⟩ := HNX.out w2 hg2 hn2
      rw [HSD.out] at hgr
      have HGR := Lib.hid hgr
      have HTT := Lib.hid htt
      clear hn2 hg2 hgr htt hc3
      go_wp2
      go_roundw
      case rel => exact ⟨k + 1, m + rl, by omega, by go_num, by go_num, by have h1 := HGS.out; have h2 := HM1.out; omega, HTT.out, HGR.out⟩
      case measure => simp [intOf]; omega
    · have hkk : k = ss.length := by omega
      subst hkk
      have HF := Lib.hid (show Grid wr base (.slice a ss.length c) (gmarks 1 rows) ss by
        have := HM.out
        rw [HL1.out] at this
        rwa [List.take_of_length_le (by rw [HML.out]; exact Nat.le_refl _), List.drop_length, List.append_nil, ← HL1.out] at this)
      have HMM := Lib.hid (show m = 1 + gsum rows by rw [HM1.out, HL1.out, List.take_length])
      go_wp2
      go_ret
      exact ⟨by rw [HMM.out]; simp, HF.out, HT.out⟩
set_option maxHeartbeats 2000000 in
theorem heldFrom_any (k0 : Nat) (v : Value) (n : Nat) (w : World) (h : FRow w v (marksFrom k0 n)) (hl : n ≤ 900000000) (hk0 : k0 ≤ 1000000000) :
    Calls Try.prog 47 #[v, .int .i64 (k0 : Int)] w fun e w' => e = .returned (.int .i64 ((k0 : Int) + (n : Int))) ∧ ∃ q, w' = w.drewN q := by
  obtain ⟨a, c, rfl, hcell⟩ := h.any
  rw [marksFrom_len]
  have HC := Lib.hid hcell
  clear hcell h
  go_enter Try.func47, Try.ntmps47
  go_wp2
  go_loopw [1, 5] (fun kk i wr => ∃ k q : Nat, k ≤ n ∧ i = .int .i64 (k : Int) ∧ kk = .int .i64 ((k0 : Int) + (k : Int)) ∧ wr = w.drewN q) (fun _ i _ => n - (intOf i).toNat)
  case atStart => exact ⟨0, 0, Nat.zero_le _, rfl, by simp, rfl⟩
  case round =>
    obtain ⟨k, q, hk, rfl, rfl, rfl⟩ := hrel
    by_cases hlt : k < n
    · have hlm : k < (marksFrom k0 n).length := by rw [marksFrom_len]; exact hlt
      obtain ⟨g, o, rfl, hcap, hc0⟩ := HC.out k hlm
      rw [marksFrom_get] at hc0
      rw [marksFrom_len] at hcap
      have hs : FloatKind.f32.format.order (floatOfInt .f32 ((k0 : Int) + (k : Int))) (floatOfInt .f32 ((k0 : Int) + (k : Int))) = some .eq := ofInt_self _
      clear hlm
      go_wp2
      go_roundw
      case rel => exact ⟨k + 1, _, by omega, by go_num, by go_num, rfl⟩
      case measure => simp [intOf]; omega
    · have hkk : k = n := by omega
      subst hkk
      go_wp2
      go_ret
      exact ⟨rfl, _, rfl⟩
set_option maxHeartbeats 2000000 in
theorem heldGrid_any (base : Nat) (v : Value) (rows : List (List Nat)) (ss : List SV) (w : World) (h : Grid w base v (gmarks 1 rows) ss) (hl : rows.length ≤ 2000000) (hr : gsum rows ≤ 900000000) :
    Calls Try.prog 45 #[v, .int .i64 1] w fun e w' => e = .returned (.int .i64 (1 + (gsum rows : Nat) : Int)) ∧ ∃ q, w' = w.drewN q := by
  obtain ⟨a, c, rfl, hcell⟩ := lines_any h.own.row
  have hl1 := h.lines.len
  rw [gmarks_len] at hl1
  have HC := Lib.hid hcell
  have HST := Lib.hid h
  have HML := Lib.hid (gmarks_len 1 rows)
  have hls : ss.length ≤ 2000000 := by omega
  have HL1 := Lib.hid hl1
  clear hcell h hl1
  go_enter Try.func45, Try.ntmps45
  go_wp2
  go_loopw [1, 5] (fun kk i wr => ∃ k m q : Nat, k ≤ ss.length ∧ i = .int .i64 (k : Int) ∧ kk = .int .i64 (m : Int) ∧ m = 1 + gsum (rows.take k) ∧ wr = w.drewN q) (fun _ i _ => ss.length - (intOf i).toNat)
  case atStart => exact ⟨0, 1, 0, Nat.zero_le _, rfl, rfl, rfl, rfl⟩
  case round =>
    obtain ⟨k, m, q, hk, rfl, rfl, hm1, rfl⟩ := hrel
    have hm64 : m ≤ 900000001 := by have := gsum_le (rs := rows) k; omega
    have HM1 := Lib.hid hm1
    clear hm1
    by_cases hlt : k < ss.length
    · have hltr : k < rows.length := by have := HL1.out; omega
      have hmr : k < (gmarks 1 rows).length := by rw [HML.out]; exact hltr
      obtain ⟨g, o, rfl, hcap, hc0⟩ := HC.out k hlt
      have hrow := HST.out.lines.row k hlt hmr
      rw [gmarks_get 1 rows k hmr hltr, ← HM1.out] at hrow
      have hsl : rows[k].length ≤ 900000000 := by have h1 := gsum_succ hltr; have h2 := gsum_le (rs := rows) (k + 1); omega
      have HMF := Lib.hid (heldFrom_any m ss[k].v rows[k].length (w.drewN q) (hrow.row.below (belowDN (Below.refl _ _) q)) (by omega) (by omega))
      have HGS := Lib.hid (gsum_succ hltr)
      have q0 : (w.drewN q).cell? ⟨g, o + k, none⟩ = some ss[k].v := hc0
      clear hc0 hrow hmr
      generalize rows[k].length = rl at *
      generalize ss[k].v = vk at *
      go_wp2_with fail
      refine (HMF.out).mono ?_
      rintro e w2 ⟨rfl, n2, rfl⟩
      go_wp2
      go_roundw
      case rel => exact ⟨k + 1, m + rl, q + n2, by omega, by go_num, by go_num, by have h1 := HGS.out; have h2 := HM1.out; omega, rfl⟩
      case measure => simp [intOf]; omega
    · have hkk : k = ss.length := by omega
      subst hkk
      have HMM := Lib.hid (show m = 1 + gsum rows by rw [HM1.out, HL1.out, List.take_length])
      go_wp2
      go_ret
      exact ⟨by rw [HMM.out]; simp, _, rfl⟩
end Go.Proofs.Ytmelnpimoiipgaa
