/-
  What is proved: the exact laws' copying, comparing and marking of lists of ints and of runs.
  Conditions: those that each fact names.
-/
import Derived.Test.YtgecclccmmcdoaaPkGen
import Derived.Test.YtgecclccmmcdoaaPkEq
import Derived.Test.YtgecclccmmcdoaaDelay
import Derived.Deep.RegionWith
namespace Go.Proofs.Ytgecclccmmcdoaa
set_option linter.unusedVariables false
open Go.RowKit
attribute [local go_sem] run_store_float run_store_complex unary_negf neg256

theorem li_cells (xs : List Int) : LI.cells xs = xs.map (.int .i64) := by
  induction xs with
  | nil => rfl
  | cons x xs ih => show Value.int .i64 x :: LI.cells xs = _; rw [ih]; rfl
theorem made_int (n : Nat) : (madeCells #[.int .i64 0] n).toList = LI.cells (List.replicate n 0) := by
  rw [li_cells]
  refine List.ext_getElem (by simp [madeCells]) fun i h1 h2 => ?_
  simp [madeCells, Nat.mod_one]
theorem li_made (w : World) (n : Nat) (hn : n ≤ 1000000000) : LI.Own (w.alloc (.cells (madeCells #[.int .i64 0] n) 3)) w.heap.size (.slice (some ⟨w.heap.size, 0, none⟩) n n) (List.replicate n 0) := by
  have hlen : (List.replicate n (0 : Int)).length = n := List.length_replicate
  refine ⟨LI_ok.cells_len _, .inr ⟨_, n, madeCells #[.int .i64 0] n, by rw [hlen], Nat.le_refl _, heap_alloc_new w _, by rw [hlen]; exact Nat.le_refl _, by unfold maxLen; omega, by rw [size_madeCells]; exact (Nat.mul_one n).symm, ?_⟩⟩
  rw [made_int, List.take_of_length_le (by rw [LI_ok.cells_len]; exact Nat.le_refl _)]
theorem make_ints (n : Nat) (hn : n ≤ 1000000000) (W : World) : (Instr.makeSlice 119 (.int .i64 (n : Int)) (.int .i64 (n : Int))).run Try.prog W = .ok (.slice (some ⟨W.heap.size, 0, none⟩) n n) (W.alloc (.cells (madeCells #[.int .i64 0] n) 3)) := by
  obtain ⟨i0, hi, hz0, hz1, hz2⟩ := info_parts (show (Try.prog.info? 3).map (fun i => (i.zero, i.size, i.bytes)) = some (some (.int .i64 0), 1, 8) by kernel_rfl)
  have h := run_make (P := Try.prog) W 119 3 i0 _ Try.underlying119 hi hz0 .i64 .i64 n n (by omega) (by omega) (by rw [hz2]; omega) (by omega)
  rw [hz1] at h
  simpa [Value.cells] using h
/-- The numbers that the laws mark with, from k0 on. -/
def imarks (k0 n : Nat) : List Int := (List.range n).map fun (i : Nat) => (k0 : Int) + (i : Int)
theorem imarks_len (k0 n : Nat) : (imarks k0 n).length = n := by simp [imarks]
theorem imarks_get (k0 n i : Nat) (h : i < (imarks k0 n).length) : (imarks k0 n)[i] = (k0 : Int) + (i : Int) := by simp [imarks]
def MarkI (k0 base : Nat) (v : Value) (n : Nat) (w : World) (e : Ending) (w' : World) : Prop := e = .returned (.int .i64 ((k0 : Int) + (n : Int))) ∧ LI.Own w' base v (imarks k0 n) ∧ w.grownBy w' v.ownBlock
end Go.Proofs.Ytgecclccmmcdoaa

/-
  What is proved: the walks of AddSamples, the program's and the model's, and of the program's function that joins two lists.
  Conditions: the lists can be read.
-/
namespace Go.Proofs.Ytgecclccmmcdoaa
set_option linter.unusedVariables false
open Go.RowKit
attribute [local go_sem] run_store_float run_store_complex unary_negf neg256

theorem MadeF.snoc {w : World} {b n k : Nat} {xs : List Nat} (h : MadeF w b n k xs) (hx : xs.length = k) (hk : k < n) (r : Nat) : MadeF (w.setCell ⟨b, k, none⟩ (.float .f32 r)) b n (k + 1) (xs ++ [r]) := by
  obtain ⟨cur, h1, h2, h3⟩ := h
  refine ⟨cur.setIfInBounds k (.float .f32 r), heapF h1, by simpa using h2, fun i hi hik => ?_⟩
  by_cases e : i = k
  · subst e
    rw [Array.getElem?_setIfInBounds, if_pos rfl, if_pos (by omega)]
    rw [List.getElem_append_right (by omega)]
    simp [hx]
  · rw [Array.getElem?_setIfInBounds, if_neg (by omega)]
    rw [List.getElem_append_left (by omega)]
    exact h3 i (by omega) (by omega)
/-- What may come of two lists, place for place. -/
def ResL (op : BinOp) (xs ys rs : List Nat) : Prop := rs.length ≤ xs.length ∧ rs.length ≤ ys.length ∧ ∀ i (h : i < rs.length) (h1 : i < xs.length) (h2 : i < ys.length), Res op xs[i] ys[i] rs[i]
theorem ResL.nil (op : BinOp) (xs ys : List Nat) : ResL op xs ys [] := ⟨Nat.zero_le _, Nat.zero_le _, fun i h => absurd h (by simp)⟩
theorem ResL.snoc {op : BinOp} {xs ys rs : List Nat} {r k : Nat} (h : ResL op xs ys rs) (hk : rs.length = k) (h1 : k < xs.length) (h2 : k < ys.length) (hr : Res op xs[k] ys[k] r) : ResL op xs ys (rs ++ [r]) := by
  obtain ⟨a, b, c⟩ := h
  refine ⟨by simp; omega, by simp; omega, fun i hi h1' h2' => ?_⟩
  simp at hi
  by_cases e : i = k
  · subst e
    rw [List.getElem_append_right (by omega)]
    simpa [hk] using hr
  · rw [List.getElem_append_left (by omega)]
    exact c i (by omega) h1' h2'
theorem ResL.same {op : BinOp} {xs ys rs xs' ys' rs' : List Nat} (h : ResL op xs ys rs) (h' : ResL op xs' ys' rs') (hx : SmL xs xs') (hy : SmL ys ys') (hl : rs.length = rs'.length) : SmL rs rs' := by
  obtain ⟨a, b, c⟩ := h
  obtain ⟨a', b', c'⟩ := h'
  exact ⟨hl, fun i h1 h2 => Res.same (hx.2 i (by omega) (by omega)) (hy.2 i (by omega) (by omega)) (c i h1 (by omega) (by omega)) (c' i h2 (by omega) (by omega))⟩
def FloatPost (op : BinOp) (x y : Nat) (w : World) (e : Ending) (w' : World) : Prop := ∃ r, e = .returned (.float .f32 r) ∧ Res op x y r ∧ ∃ n, w' = w.drewN n

def JoinPost (op : BinOp) (xs ys : List Nat) (w : World) (e : Ending) (w' : World) : Prop := ∃ v rs, e = .returned v ∧ rs.length = xs.length ∧ ResL op xs ys rs ∧ FNew w' w.heap.size v rs ∧ Below w.heap.size w w'
def marksFrom (k0 n : Nat) : List Nat := (List.range n).map fun (i : Nat) => floatOfInt .f32 ((k0 : Int) + (i : Int))
theorem marksFrom_len (k0 n : Nat) : (marksFrom k0 n).length = n := by simp [marksFrom]
theorem marksFrom_get (k0 n i : Nat) (h : i < (marksFrom k0 n).length) : (marksFrom k0 n)[i] = floatOfInt .f32 ((k0 : Int) + (i : Int)) := by simp [marksFrom]
def MarkFrom (k0 base : Nat) (v : Value) (n : Nat) (w : World) (e : Ending) (w' : World) : Prop := e = .returned (.int .i64 ((k0 : Int) + (n : Int))) ∧ FNew w' base v (marksFrom k0 n) ∧ w.grownBy w' v.ownBlock
theorem MarkFrom.mk {k0 base : Nat} {v : Value} {n : Nat} {w w' : World} {m : Int} (hm : m = (k0 : Int) + (n : Int)) (h : FNew w' base v (marksFrom k0 n)) (hg : w.grownBy w' v.ownBlock) : MarkFrom k0 base v n w (.returned (.int .i64 m)) w' := ⟨by rw [hm], h, hg⟩
set_option maxHeartbeats 2000000 in
theorem markFrom_any (k0 base : Nat) (v : Value) (xs : List Nat) (w : World) (h : FNew w base v xs) (hl : xs.length ≤ 1000000000) (hk0 : k0 ≤ 1000000000) :
    Calls Try.prog 41 #[v, .int .i64 (k0 : Int)] w fun e w' => MarkFrom k0 base v xs.length w e w' := by
  rcases h with ⟨rfl, rfl⟩ | ⟨g, cap, rfl, hbase, hcap, hm⟩
  · go_enter Try.func41, Try.ntmps41
    go_wp2
    go_loop [1, 5] (fun kk i => kk = .int .i64 (k0 : Int) ∧ i = .int .i64 0) (fun _ _ => 0)
    case atStart => exact ⟨rfl, rfl⟩
    case round =>
      obtain ⟨rfl, rfl⟩ := hrel
      go_wp2
      go_ret
      exact MarkFrom.mk (by simp) (FNew.nil _ _) (World.grownBy.refl _ _)
  · have HST := Lib.hid (hm.zero (ys := marksFrom k0 xs.length))
    clear hm
    go_enter Try.func41, Try.ntmps41
    go_wp2
    go_loopw [1, 5] (fun kk i wr => ∃ k : Nat, k ≤ xs.length ∧ i = .int .i64 (k : Int) ∧ kk = .int .i64 ((k0 : Int) + (k : Int)) ∧ w.grownBy wr (some g) ∧ MadeF wr g xs.length k (marksFrom k0 xs.length)) (fun _ i _ => xs.length - (intOf i).toNat)
    case atStart => exact ⟨0, Nat.zero_le _, rfl, by simp, World.grownBy.refl _ _, HST.out⟩
    case round =>
      obtain ⟨k, hk, rfl, rfl, hg, hm⟩ := hrel
      have HM := Lib.hid hm
      clear hm HST
      by_cases hlt : k < xs.length
      · obtain ⟨⟨x0, hx0⟩, hf0⟩ := HM.out.at k hlt
        have hlm : k < (marksFrom k0 xs.length).length := by rw [marksFrom_len]; exact hlt
        have hm3 := HM.out.step hlm (by rw [marksFrom_len]; exact Nat.le_refl _)
        rw [marksFrom_get] at hm3
        have HM3 := Lib.hid hm3
        have hg3 := hg.trans (Lib.grownBy_setCell wr g k (.float .f32 (floatOfInt .f32 ((k0 : Int) + (k : Int)))))
        clear hm3
        go_wp2
        go_roundw
        case rel => exact ⟨k + 1, by omega, by go_num, by first | (go_num; done) | (congr 1; omega) | (congr 1), hg3, HM3.out⟩
        case measure => simp [intOf]; omega
      · have hkk : k = xs.length := by omega
        subst hkk
        go_wp2
        go_ret
        exact MarkFrom.mk rfl (.inr ⟨g, cap, by rw [marksFrom_len], hbase, by rw [marksFrom_len]; exact hcap, by rw [marksFrom_len]; exact HM.out⟩) hg
def addOk (xs ys : List Nat) : Bool := decide (xs.length = ys.length) && decide (xs.length ≤ 256)
def AddR (xs ys rs : List Nat) : Prop := if addOk xs ys = true then rs.length = xs.length ∧ ResL .add xs ys rs else rs = []
theorem AddR.same {xs ys rs rs' : List Nat} (h : AddR xs ys rs) (h' : AddR xs ys rs') : SmL rs rs' := by
  unfold AddR at h h'
  split at h
  · rw [if_pos (by assumption)] at h'
    exact ResL.same h.2 h'.2 (SmL.refl _) (SmL.refl _) (by rw [h.1, h'.1])
  · rw [if_neg (by assumption)] at h'
    rw [h, h']; exact SmL.refl _
theorem AddR.len {xs ys rs : List Nat} (h : AddR xs ys rs) : rs.length ≤ xs.length := by
  unfold AddR at h
  split at h
  · omega
  · rw [h]; simp
theorem AddR.no {xs ys : List Nat} (h : addOk xs ys = false) : AddR xs ys [] := by unfold AddR; rw [h]; simp
theorem AddR.yes {xs ys rs : List Nat} (h : addOk xs ys = true) (h1 : rs.length = xs.length) (h2 : ResL .add xs ys rs) : AddR xs ys rs := by unfold AddR; rw [h]; simpa using ⟨h1, h2⟩
end Go.Proofs.Ytgecclccmmcdoaa

/-
  What is proved: the exact laws' comparing and marking of lists of lists of single floats.
  Conditions: those that each fact names.
-/
namespace Go.Proofs.Ytgecclccmmcdoaa
set_option linter.unusedVariables false
open Go.RowKit
attribute [local go_sem] run_store_float run_store_complex unary_negf neg256

/-- The blocks of a list of lists. -/
def GBlk (v : Value) (ss : List SV) (k : Nat) : Prop := v.ownBlock = some k ∨ ∃ i, ∃ h : i < ss.length, ss[i].v.ownBlock = some k
def RBlk (ss : List SV) (k : Nat) : Prop := ∃ i, ∃ h : i < ss.length, ss[i].v.ownBlock = some k
theorem apart2 {P Q : Nat → Prop} {n : Nat} (h : ∀ k, P k → k < n) (h' : ∀ k, Q k → n ≤ k) : (∀ k, P k → ¬ Q k) ∧ (∀ k, Q k → ¬ P k) :=
  ⟨fun k hp hq => by have := h k hp; have := h' k hq; omega, fun k hq hp => by have := h k hp; have := h' k hq; omega⟩
def gsum (rs : List (List Nat)) : Nat := (rs.map List.length).sum
/-- The lists that the laws mark with. -/
def gmarks : Nat → List (List Nat) → List (List Nat)
  | _, [] => []
  | k, r :: rs => marksFrom k r.length :: gmarks (k + r.length) rs
theorem gmarks_len : ∀ (k : Nat) (rs : List (List Nat)), (gmarks k rs).length = rs.length
  | _, [] => rfl
  | k, r :: rs => by rw [gmarks, List.length_cons, List.length_cons, gmarks_len]
theorem gmarks_get : ∀ (k : Nat) (rs : List (List Nat)) (i : Nat) (h : i < (gmarks k rs).length) (h' : i < rs.length), (gmarks k rs)[i] = marksFrom (k + gsum (rs.take i)) rs[i].length
  | k, r :: rs, 0, _, _ => rfl
  | k, r :: rs, i + 1, h, h' => by
    have := gmarks_get (k + r.length) rs i (by rw [gmarks_len]; simpa using h') (by simpa using h')
    show (gmarks (k + r.length) rs)[i]'(by rw [gmarks_len]; simpa using h') = _
    rw [this]
    show marksFrom (k + r.length + gsum (rs.take i)) _ = marksFrom (k + (r.length + gsum (rs.take i))) _
    rw [Nat.add_assoc]
    rfl
theorem gsum_succ {rs : List (List Nat)} {k : Nat} (h : k < rs.length) : gsum (rs.take (k + 1)) = gsum (rs.take k) + rs[k].length := by
  unfold gsum
  rw [List.take_succ_eq_append_getElem h, List.map_append, List.sum_append]
  simp
theorem gsum_le {rs : List (List Nat)} (k : Nat) : gsum (rs.take k) ≤ gsum rs := by
  conv => rhs; rw [← List.take_append_drop k rs]
  unfold gsum
  rw [List.map_append, List.sum_append]
  omega
theorem gsum_bound {rs : List (List Nat)} {m : Nat} (h : ∀ r ∈ rs, r.length ≤ m) : gsum rs ≤ rs.length * m := by
  induction rs with
  | nil => exact Nat.zero_le _
  | cons r rs ih =>
    have h1 := h r (by simp)
    have h2 := ih fun x hx => h x (by simp [hx])
    show r.length + gsum rs ≤ (rs.length + 1) * m
    rw [Nat.succ_mul]
    omega
end Go.Proofs.Ytgecclccmmcdoaa
