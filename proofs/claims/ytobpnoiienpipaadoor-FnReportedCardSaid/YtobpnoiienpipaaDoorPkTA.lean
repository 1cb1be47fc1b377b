/-
  What is proved: the exact laws' comparing and marking of lists of bools.
  Conditions: those that each fact names.
-/
import Derived.Test.YtobpnoiienpipaaDoorPkGen
import Derived.Test.YtobpnoiienpipaaDoorFEq
import Derived.Test.YtobpnoiienpipaaDoorPkSt
import Derived.Test.YtobpnoiienpipaaDoorPkTT
namespace Go.Proofs.YtobpnoiienpipaaDoor
set_option linter.unusedVariables false
open Go.RowKit
attribute [local go_sem] run_store_float run_store_complex unary_negf neg256

/-- Bools. -/
def LB : Lay Bool := ⟨30, 4, 1, 1, fun x => [.bool x]⟩
theorem info_bool : (Tryd.prog.info? 4).map (fun i => (i.zero, i.size, i.bytes)) = some (some (.bool false), 1, 1) := by kernel_rfl
theorem LB_ok : LB.Ok := by
  refine ⟨fun _ => rfl, fun x u hu => ?_, by decide, Tryd.underlying30, ?_, by decide⟩
  · obtain rfl := List.mem_singleton.1 hu; rfl
  · obtain ⟨i, h1, h2, h3, h4⟩ := info_parts info_bool
    exact ⟨i, _, h1, h2, h3, h4, rfl⟩
theorem lb_cells (xs : List Bool) : LB.cells xs = xs.map .bool := by
  induction xs with
  | nil => rfl
  | cons x xs ih => show Value.bool x :: LB.cells xs = _; rw [ih]; rfl
theorem made_bool (n : Nat) : (madeCells #[.bool false] n).toList = LB.cells (List.replicate n false) := by
  rw [lb_cells]
  refine List.ext_getElem (by simp [madeCells]) fun i h1 h2 => ?_
  simp [madeCells, Nat.mod_one]
theorem lb_made (w : World) (n : Nat) (hn : n ≤ 1000000000) : LB.Own (w.alloc (.cells (madeCells #[.bool false] n) 4)) w.heap.size (.slice (some ⟨w.heap.size, 0, none⟩) n n) (List.replicate n false) := by
  have hlen : (List.replicate n false).length = n := List.length_replicate
  refine ⟨LB_ok.cells_len _, .inr ⟨_, n, madeCells #[.bool false] n, by rw [hlen], Nat.le_refl _, heap_alloc_new w _, by rw [hlen]; exact Nat.le_refl _, by unfold maxLen; omega, by rw [size_madeCells]; exact (Nat.mul_one n).symm, ?_⟩⟩
  rw [made_bool, List.take_of_length_le (by rw [LB_ok.cells_len]; exact Nat.le_refl _)]
theorem make_bools (n : Nat) (hn : n ≤ 1000000000) (W : World) : (Instr.makeSlice 30 (.int .i64 (n : Int)) (.int .i64 (n : Int))).run Tryd.prog W = .ok (.slice (some ⟨W.heap.size, 0, none⟩) n n) (W.alloc (.cells (madeCells #[.bool false] n) 4)) := by
  obtain ⟨i0, hi, hz0, hz1, hz2⟩ := info_parts info_bool
  have h := run_make (P := Tryd.prog) W 30 4 i0 _ Tryd.underlying30 hi hz0 .i64 .i64 n n (by omega) (by omega) (by rw [hz2]; omega) (by omega)
  rw [hz1] at h
  simpa [Value.cells] using h
/-- Each bool of a list can be read. -/
theorem bools_any {w : World} {v : Value} {xs : List Bool} (h : LB.Row w v xs) : ∃ a c, v = .slice a xs.length c ∧ ∀ k (hk : k < xs.length), ∃ g o, a = some ⟨g, o, none⟩ ∧ xs.length ≤ c ∧ w.cell? ⟨g, o + k, none⟩ = some (.bool xs[k]) := by
  obtain ⟨a, c, rfl, hc⟩ := h.any LB_ok
  refine ⟨a, c, rfl, fun k hk => ?_⟩
  obtain ⟨g, o, h1, h2, h3⟩ := hc k hk
  have h4 := h3 0 (.bool xs[k]) rfl
  rw [show k * LB.size + 0 = k from Nat.mul_one k] at h4
  exact ⟨g, o, h1, h2, h4⟩
theorem own_types {w : World} {base base' : Nat} {v d : Value} {ls : List (List UInt8)} {bs : List Bool} (h : OwnS w base v ls) (h' : LB.Own w base' d bs) : ∀ k, v.ownBlock = some k → d.ownBlock ≠ some k := by
  intro k hk hk'
  rcases h.2 with ⟨rfl, _⟩ | ⟨g, cap, cur, rfl, _, hg, _⟩
  · cases hk
  rcases h'.2 with ⟨rfl, _⟩ | ⟨g', cap', cur', rfl, _, hg', _⟩
  · cases hk'
  cases hk
  cases hk'
  rw [hg] at hg'
  injection hg' with e
  injection e with _ e2
  exact absurd e2 (by decide)
/-- The bools that the laws mark with, from k0 on. -/
def bmarks (k0 n : Nat) : List Bool := (List.range n).map fun (i : Nat) => decide ((k0 + i) % 3 = 0)
theorem bmarks_len (k0 n : Nat) : (bmarks k0 n).length = n := by simp [bmarks]
theorem bmarks_get (k0 n i : Nat) (h : i < (bmarks k0 n).length) : (bmarks k0 n)[i] = decide ((k0 + i) % 3 = 0) := by simp [bmarks]
def MarkB (k0 base : Nat) (v : Value) (n : Nat) (w : World) (e : Ending) (w' : World) : Prop := e = .returned (.int .i64 ((k0 : Int) + (n : Int))) ∧ LB.Own w' base v (bmarks k0 n) ∧ w.grownBy w' v.ownBlock
theorem mod3 (k : Nat) : ((k : Int) % 3 == 0) = decide (k % 3 = 0) := by
  by_cases h : k % 3 = 0
  · rw [decide_eq_true h, show (k : Int) % 3 = 0 by omega]; rfl
  · rw [decide_eq_false h]; simp; omega
set_option maxHeartbeats 2000000 in
theorem markBools_any (k0 base : Nat) (v : Value) (xs : List Bool) (w : World) (h : LB.Own w base v xs) (hl : xs.length ≤ 1000000000) (hk0 : k0 ≤ 1000000000) :
    Calls Tryd.prog 37 #[v, .int .i64 (k0 : Int)] w fun e w' => MarkB k0 base v xs.length w e w' := by
  rcases h.shape with ⟨rfl, rfl⟩ | ⟨g, cap, rfl, hbase, hg, hcap, _⟩
  · clear h
    go_enter Tryd.func37, Tryd.ntmps37
    go_wp2
    go_loop [1, 5] (fun kk i => kk = .int .i64 (k0 : Int) ∧ i = .int .i64 0) (fun _ _ => 0)
    case atStart => exact ⟨rfl, rfl⟩
    case round =>
      obtain ⟨rfl, rfl⟩ := hrel
      go_wp2
      go_ret
      exact ⟨by simp, LB.ownNil _ _, World.grownBy.refl _ _⟩
  · have HST := Lib.hid h
    have HML := Lib.hid (bmarks_len k0 xs.length)
    clear h
    go_enter Tryd.func37, Tryd.ntmps37
    go_wp2
    go_loopw [1, 5] (fun kk i wr => ∃ k : Nat, k ≤ xs.length ∧ i = .int .i64 (k : Int) ∧ kk = .int .i64 ((k0 : Int) + (k : Int)) ∧ w.grownBy wr (some g) ∧ LB.Own wr base (.slice (some ⟨g, 0, none⟩) xs.length cap) ((bmarks k0 xs.length).take k ++ xs.drop k)) (fun _ i _ => xs.length - (intOf i).toNat)
    case atStart => exact ⟨0, Nat.zero_le _, rfl, by simp, World.grownBy.refl _ _, by simpa using HST.out⟩
    case round =>
      obtain ⟨k, hk, rfl, rfl, hg, hm⟩ := hrel
      have HM := Lib.hid hm
      clear hm HST
      by_cases hlt : k < xs.length
      · have htl : k < ((bmarks k0 xs.length).take k ++ xs.drop k).length := by rw [take_drop_len HML.out hk]; exact hlt
        have hlm : k < (bmarks k0 xs.length).length := by rw [HML.out]; exact hlt
        obtain ⟨⟨x0, hx0⟩, hf0⟩ := HM.out.at LB_ok htl (show 0 < LB.size by decide) (show k = k * LB.size + 0 from (Nat.mul_one k).symm)
        have hm3 := HM.out.put LB_ok (z := decide ((k0 + k) % 3 = 0)) htl (show 0 < LB.size by decide) (show k = k * LB.size + 0 from (Nat.mul_one k).symm) (u := .bool (decide ((k0 + k) % 3 = 0))) rfl
        rw [set_take_drop hlm hlt (bmarks_get _ _ _ _)] at hm3
        have HM3 := Lib.hid hm3
        have hg3 := hg.trans (Lib.grownBy_setCell wr g k (.bool (decide ((k0 + k) % 3 = 0))))
        have h3 := mod3 (k0 + k)
        rw [Int.natCast_add] at h3
        generalize decide ((k0 + k) % 3 = 0) = bb at *
        clear hm3 htl hlm
        go_wp2
        go_roundw
        case rel => exact ⟨k + 1, by omega, by go_num, by go_num, hg3, HM3.out⟩
        case measure => simp [intOf]; omega
      · have hkk : k = xs.length := by omega
        subst hkk
        have HF := Lib.hid (show LB.Own wr base (.slice (some ⟨g, 0, none⟩) xs.length cap) (bmarks k0 xs.length) by
          have := HM.out
          rwa [List.take_of_length_le (by rw [HML.out]; exact Nat.le_refl _), List.drop_length, List.append_nil] at this)
        go_wp2
        go_ret
        exact ⟨rfl, HF.out, hg⟩
set_option maxHeartbeats 2000000 in
theorem heldBools_any (k0 : Nat) (v : Value) (n : Nat) (w : World) (h : LB.Row w v (bmarks k0 n)) (hl : n ≤ 1000000000) (hk0 : k0 ≤ 1000000000) :
    Calls Tryd.prog 38 #[v, .int .i64 (k0 : Int)] w fun e w' => e = .returned (.int .i64 ((k0 : Int) + (n : Int))) ∧ Below w.heap.size w w' := by
  obtain ⟨a, c, rfl, hcell⟩ := bools_any h
  rw [bmarks_len]
  have HC := Lib.hid hcell
  clear hcell h
  go_enter Tryd.func38, Tryd.ntmps38
  go_wp2
  go_loopw [1, 5] (fun kk i wr => ∃ k q : Nat, k ≤ n ∧ i = .int .i64 (k : Int) ∧ kk = .int .i64 ((k0 : Int) + (k : Int)) ∧ wr = w.drewN q) (fun _ i _ => n - (intOf i).toNat)
  case atStart => exact ⟨0, 0, Nat.zero_le _, rfl, by simp, rfl⟩
  case round =>
    obtain ⟨k, q, hk, rfl, rfl, rfl⟩ := hrel
    by_cases hlt : k < n
    · have hlm : k < (bmarks k0 n).length := by rw [bmarks_len]; exact hlt
      obtain ⟨g, o, rfl, hcap, hc0⟩ := HC.out k hlm
      rw [bmarks_get] at hc0
      rw [bmarks_len] at hcap
      have h3 := mod3 (k0 + k)
      rw [Int.natCast_add] at h3
      generalize decide ((k0 + k) % 3 = 0) = bb at *
      clear hlm
      go_wp2
      go_roundw
      case rel => exact ⟨k + 1, _, by omega, by go_num, by go_num, rfl⟩
      case measure => simp [intOf]; omega
    · have hkk : k = n := by omega
      subst hkk
      go_wp2
      go_ret
      exact ⟨rfl, belowN (Below.refl _ _) _⟩
set_option maxHeartbeats 2000000 in
theorem eqBools_self (v v' : Value) (xs : List Bool) (w : World) (h : LB.Row w v xs) (h' : LB.Row w v' xs) (hl : xs.length ≤ 1000000000) :
    Calls Tryd.prog 34 #[v, v'] w fun e w' => e = .returned (.bool true) ∧ Below w.heap.size w w' := by
  obtain ⟨a, c, rfl, hcell⟩ := bools_any h
  obtain ⟨a', c', rfl, hcell'⟩ := bools_any h'
  have HC := Lib.hid hcell
  have HC' := Lib.hid hcell'
  clear hcell hcell' h h'
  go_enter Tryd.func34, Tryd.ntmps34
  go_wp2
  go_loopw [5] (fun i wr => ∃ k q : Nat, k ≤ xs.length ∧ i = .int .i64 (k : Int) ∧ wr = w.drewN q) (fun i _ => xs.length - (intOf i).toNat)
  case atStart => exact ⟨0, 0, Nat.zero_le _, rfl, rfl⟩
  case round =>
    obtain ⟨k, q, hk, rfl, rfl⟩ := hrel
    by_cases hlt : k < xs.length
    · obtain ⟨g, o, rfl, hcap, hc0⟩ := HC.out k hlt
      obtain ⟨g', o', rfl, hcap', hc0'⟩ := HC'.out k hlt
      generalize xs[k] = x at *
      go_wp2
      go_quiet (fail)
      go_wp2
      go_roundw
      case rel => exact ⟨k + 1, _, by omega, by go_num, rfl⟩
      case measure => simp [intOf]; omega
    · go_wp2
      go_ret
      exact ⟨rfl, belowN (Below.refl _ _) _⟩
end Go.Proofs.YtobpnoiienpipaaDoor

/-
  What is proved: the walk of TuneAll.
  Conditions: the log and the lines can be read; their texts have at most 1048576 bytes each; the library's table of spaces holds what its initialiser lays.
-/
namespace Go.Proofs.YtobpnoiienpipaaDoor
set_option linter.unusedVariables false
open Go.RowKit
attribute [local go_sem] run_store_float run_store_complex unary_negf neg256

def AllPost (q : SetL) (lines : List (List UInt8)) (w : World) (e : Ending) (w' : World) : Prop :=
  ∃ v d, e = .returned (.tuple #[(tuneAll q lines).1.1.val v, d]) ∧ OwnS w' w.heap.size v (tuneAll q lines).1.2 ∧ LB.Own w' w.heap.size d (tuneAll q lines).2 ∧ Below w.heap.size w w'
theorem put6_far {W : World} {b k : Nat} (hne : k ≠ b) (v0 v1 v2 v3 v4 v5 : Value) :
    ((((((W.setCell ⟨b, 0, none⟩ v0).setCell ⟨b, 1, none⟩ v1).setCell ⟨b, 2, none⟩ v2).setCell ⟨b, 3, none⟩ v3).setCell ⟨b, 4, none⟩ v4).setCell ⟨b, 5, none⟩ v5).heap[k]? = W.heap[k]? := by
  have h : ¬ b = k := fun e => hne e.symm
  simp [World.setCell, Array.getElem?_modify, h]
theorem put1_far {W : World} {b k i : Nat} (hne : k ≠ b) (v0 : Value) : (W.setCell ⟨b, i, none⟩ v0).heap[k]? = W.heap[k]? := by
  have h : ¬ b = k := fun e => hne e.symm
  simp [World.setCell, Array.getElem?_modify, h]
theorem LB_put6 {W : World} {b base : Nat} {v : Value} {bs : List Bool} (h : LB.Own W base v bs) (hne : ∀ k, v.ownBlock = some k → k ≠ b) (v0 v1 v2 v3 v4 v5 : Value) : LB.Own ((((((W.setCell ⟨b, 0, none⟩ v0).setCell ⟨b, 1, none⟩ v1).setCell ⟨b, 2, none⟩ v2).setCell ⟨b, 3, none⟩ v3).setCell ⟨b, 4, none⟩ v4).setCell ⟨b, 5, none⟩ v5) base v bs := by
  refine ⟨h.1, h.2.imp id fun ⟨g, cap, cur, h1, h2, h3, h4⟩ => ⟨g, cap, cur, h1, h2, ?_, h4⟩⟩
  subst h1
  rw [← h3]
  exact put6_far (hne g rfl) _ _ _ _ _ _
/-- Bools lie in no set's block. -/
theorem bool_mark {W : World} {b base : Nat} {cs : Array Value} {v : Value} {bs : List Bool} (hb : W.heap[b]? = some (.cells cs 27 (0, 0))) (h : LB.Own W base v bs) : ∀ k, v.ownBlock = some k → k ≠ b := by
  intro k hk e
  subst e
  rcases h.2 with ⟨rfl, _⟩ | ⟨g, cap, cur, rfl, _, hg, _⟩
  · cases hk
  cases hk
  rw [hb] at hg
  injection hg with e
  injection e with _ e2
  exact absurd e2 (by decide)
/-- What lies where, behind k lines: the set at hb, the result behind it. -/
structure AllAt (w : World) (q : SetL) (lines : List (List UInt8)) (b k : Nat) (wr : World) : Prop where
  set : ∃ a c, wr.heap[w.heap.size]? = some (.cells ((tuneAll q (lines.take k)).1.1.cells (.slice a (tuneAll q (lines.take k)).1.2.length c)) 27 (0, 0)) ∧ OwnS wr w.heap.size (.slice a (tuneAll q (lines.take k)).1.2.length c) (tuneAll q (lines.take k)).1.2
  res : wr.heap[w.heap.size + 1]? = some (.cells #[.int .i64 0, .int .i64 0, .float .f32 0, .float .f32 0, .float .f32 0, .slice none 0 0] 27 (0, 0))
  bools : LB.Own wr (w.heap.size + 2) (.slice (some ⟨b, 0, none⟩) lines.length lines.length) ((tuneAll q (lines.take k)).2 ++ List.replicate (lines.length - k) false)
  below : Below w.heap.size w wr
theorem bools_next (bs : List Bool) (n k : Nat) (h : bs.length = k) (hk : k < n) (b : Bool) : (bs ++ List.replicate (n - k) false).set k b = (bs ++ [b]) ++ List.replicate (n - (k + 1)) false := by
  obtain ⟨m, hm⟩ : ∃ m, n - k = m + 1 := ⟨n - k - 1, by omega⟩
  rw [hm, show n - (k + 1) = m by omega, List.replicate_succ, List.set_append_right _ _ (by omega), h, Nat.sub_self, List.set_cons_zero, List.append_assoc]
  rfl
theorem bools_same (bs : List Bool) (n k : Nat) (hk : k < n) : bs ++ List.replicate (n - k) false = (bs ++ [false]) ++ List.replicate (n - (k + 1)) false := by
  obtain ⟨m, hm⟩ : ∃ m, n - k = m + 1 := ⟨n - k - 1, by omega⟩
  rw [hm, show n - (k + 1) = m by omega, List.replicate_succ, List.append_assoc]
  rfl
set_option maxRecDepth 100000 in
set_option maxHeartbeats 4000000 in
theorem tuneAll_any (x : SetC) (v u : Value) (ls lines : List (List UInt8)) (w : World) (hx : x.ok) (h : TRow w v ls) (hs : Short ls) (h' : TRow w u lines) (hs' : Short lines) (ht : TabS w) :
    Calls Tryd.prog 12 #[x.val v, u] w fun e w' => AllPost (x, ls) lines w e w' := by
  obtain ⟨q0, hq0⟩ : ∃ q0 : SetL, q0 = (x, ls) := ⟨_, rfl⟩
  rw [← hq0]
  have hfine : q0.fine := by rw [hq0]; exact ⟨hx, hs⟩
  have HFINE := fun k => Lib.hid (tuneAll_fine (lines.take k) hfine)
  have HO := fun W hr => Lib.hid (ownLog_any x v ls W hr hs)
  have HT := fun (y : SetC) (v : Value) (lg : List (List UInt8)) (s : ByteArray) (W : World) (hy : y.ok) (hr : TRow W v lg) (hl : Short lg) (hz : s.size ≤ 1048576) (hw : Below w.heap.size w W) => Lib.hid (tuned_any y v lg s W hy hr hl hz (ht.below hw))
  have HR := Lib.hid h
  have HR' := Lib.hid h'
  have HSH := Lib.hid hs'.2
  have hln := hs'.1
  have hmk := make_bools lines.length (by omega)
  obtain ⟨a, c, rfl⟩ := h.lenv
  obtain ⟨au, cu, rfl, hcell⟩ := h'.any
  have HC := Lib.hid hcell
  obtain ⟨k1, k2, hsz2, hbl⟩ := alloc2 w (.cells (x.cells (.slice a ls.length c)) 27) (.cells #[.int .i64 0, .int .i64 0, .float .f32 0, .float .f32 0, .float .f32 0, .slice none 0 0] 27)
  have HQ0' := Lib.hid (show tuneAll q0 (lines.take 0) = ((x, ls), []) from by rw [List.take_zero, hq0]; rfl)
  have HLEN := fun k => Lib.hid (tuneAll_len (lines.take k) q0)
  have HSN := fun k (hk : k < lines.length) => Lib.hid (show tuneAll q0 (lines.take (k + 1)) = ((tuneR (tuneAll q0 (lines.take k)).1 lines[k]).1, (tuneAll q0 (lines.take k)).2 ++ [(tuneR (tuneAll q0 (lines.take k)).1 lines[k]).2]) from by rw [List.take_succ_eq_append_getElem hk]; exact tuneAll_snoc (lines.take k) q0 lines[k])
  have HALL := Lib.hid (show tuneAll q0 (lines.take lines.length) = tuneAll q0 lines by rw [List.take_length])
  have HPOST := fun (w' : World) (y : SetC) (out : List (List UInt8)) (bs : List Bool) (v d : Value) (e : tuneAll q0 lines = ((y, out), bs)) (h1 : OwnS w' w.heap.size v out) (h2 : LB.Own w' w.heap.size d bs) (h3 : Below w.heap.size w w') => Lib.hid (show AllPost q0 lines w (.returned (.tuple #[y.val v, d])) w' from ⟨v, d, by rw [e], by rw [e]; exact h1, by rw [e]; exact h2, h3⟩)
  clear hq0 hfine hx
  obtain ⟨xc, xr, xs, xl, xt⟩ := x
  simp only [SetC.val, SetC.cells] at *
  clear h h' hs hs' ht hcell
  obtain ⟨p0, p1, p2, p3, p4, p5⟩ := SetAt.of (x := ⟨xc, xr, xs, xl, xt⟩) (v := .slice a ls.length c) k1
  go_enter Tryd.func12, Tryd.ntmps12
  go_wp2_with fail
  generalize World.alloc (World.alloc w _) _ = X at *
  refine (HO X (HR.out.below hbl)).out.mono ?_
  rintro e w1 ⟨v1, rfl, ho, hb1⟩
  obtain ⟨a1, c1, rfl⟩ := ho.row.lenv
  have g1 := below_trans hbl hb1 hbl.size
  have hz1 := hb1.size
  replace k1 := (hb1.block _ (by omega)).trans k1
  replace k2 := (hb1.block _ (by omega)).trans k2
  clear p0 p1 p2 p3 p4 p5 hb1 HO
  obtain ⟨p0, p1, p2, p3, p4, p5⟩ := SetAt.of (x := ⟨xc, xr, xs, xl, xt⟩) (v := .slice a ls.length c) k1
  obtain ⟨t0, t1, t2, t3, t4, t5⟩ := froz6 k1
  have hps : ((((((w1.setCell ⟨w.heap.size, 0, none⟩ (.int .i64 xc)).setCell ⟨w.heap.size, 1, none⟩ (.int .i64 xr)).setCell ⟨w.heap.size, 2, none⟩ (.float .f32 xs)).setCell ⟨w.heap.size, 3, none⟩ (.float .f32 xl)).setCell ⟨w.heap.size, 4, none⟩ (.float .f32 xt)).setCell ⟨w.heap.size, 5, none⟩ (.slice a1 ls.length c1)).heap.size = w1.heap.size := by simp
  have hP : AllAt w q0 lines w1.heap.size 0 (((((((w1.setCell ⟨w.heap.size, 0, none⟩ (.int .i64 xc)).setCell ⟨w.heap.size, 1, none⟩ (.int .i64 xr)).setCell ⟨w.heap.size, 2, none⟩ (.float .f32 xs)).setCell ⟨w.heap.size, 3, none⟩ (.float .f32 xl)).setCell ⟨w.heap.size, 4, none⟩ (.float .f32 xt)).setCell ⟨w.heap.size, 5, none⟩ (.slice a1 ls.length c1)).alloc (.cells (madeCells #[.bool false] lines.length) 4)) := by
    have e0 := heap_put6 k1 (.int .i64 xc) (.int .i64 xr) (.float .f32 xs) (.float .f32 xl) (.float .f32 xt) (.slice a1 ls.length c1)
    have e1 := (put6_far (W := w1) (b := w.heap.size) (k := w.heap.size + 1) (by omega) (.int .i64 xc) (.int .i64 xr) (.float .f32 xs) (.float .f32 xl) (.float .f32 xt) (.slice a1 ls.length c1)).trans k2
    have e2 := ho.put6 (b := w.heap.size) (fun k hk => by have := (ho.lt k hk).1; omega) (.int .i64 xc) (.int .i64 xr) (.float .f32 xs) (.float .f32 xl) (.float .f32 xt) (.slice a1 ls.length c1)
    have e3 := lb_made ((((((w1.setCell ⟨w.heap.size, 0, none⟩ (.int .i64 xc)).setCell ⟨w.heap.size, 1, none⟩ (.int .i64 xr)).setCell ⟨w.heap.size, 2, none⟩ (.float .f32 xs)).setCell ⟨w.heap.size, 3, none⟩ (.float .f32 xl)).setCell ⟨w.heap.size, 4, none⟩ (.float .f32 xt)).setCell ⟨w.heap.size, 5, none⟩ (.slice a1 ls.length c1)) lines.length (by omega)
    rw [hps] at e3
    refine ⟨⟨a1, c1, ?_, ?_⟩, ?_, ?_, ?_⟩
    · rw [HQ0'.out]
      exact (alloc_keeps _ _ (by rw [hps]; omega)).trans e0
    · rw [HQ0'.out]
      exact (e2.alloc _).low (by omega)
    · exact (alloc_keeps _ _ (by rw [hps]; omega)).trans e1
    · rw [HQ0'.out]
      exact e3.mono (by omega)
    · exact (below6 g1 (Nat.le_refl _) _ _ _ _ _ _).alloc (by rw [hps]; exact g1.size) _
  have HP := Lib.hid hP
  clear hP ho hps
  go_wp2
  clear hmk
  generalize World.alloc _ (.cells (madeCells #[.bool false] lines.length) 4) = W3 at *
  clear p0 p1 p2 p3 p4 p5 t0 t1 t2 t3 t4 t5 k1 k2
  generalize hb9 : w1.heap.size = b9 at *
  have hge9 : w.heap.size + 2 ≤ b9 := by omega
  clear hb9
  go_loopw [18] (fun i wr => ∃ k : Nat, k ≤ lines.length ∧ i = .int .i64 (k : Int) ∧ AllAt w q0 lines b9 k wr) (fun i _ => lines.length - (intOf i).toNat)
  case atStart => exact ⟨0, Nat.zero_le _, rfl, HP.out⟩
  case round =>
    obtain ⟨k, hk, rfl, hat⟩ := hrel
    obtain ⟨⟨a3, c3, s1, s2⟩, s3, s4, s5⟩ := hat
    by_cases hlt : k < lines.length
    · obtain ⟨g, o, rfl, hcap, hcc⟩ := HC.out k hlt
      have hc0 := (below_grown s5).cell hcc (by simp)
      have hzl := HSH.out _ (List.getElem_mem hlt)
      have hfk := (HFINE k).out
      have hsn := (HSN k hlt).out
      have hlk := (HLEN k).out
      rw [List.length_take, Nat.min_eq_left hk] at hlk
      generalize tuneAll q0 (lines.take k) = Q at *
      obtain ⟨⟨y, lg⟩, bs⟩ := Q
      unfold strV at hc0
      have hxs : (⟨lines[k].toArray⟩ : ByteArray).size = lines[k].length := by simp [ByteArray.size]
      have hdl : (⟨lines[k].toArray⟩ : ByteArray).data.toList = lines[k] := by simp
      have HTK := Lib.hid (HT y (.slice a3 lg.length c3) lg ⟨lines[k].toArray⟩ wr hfk.ok s2.row hfk.log (by rw [hxs]; exact hzl) s5).out
      unfold TunedPost at HTK
      rw [hdl] at HTK
      have hsz := s5.size
      have hbz : w.heap.size + 1 < wr.heap.size := (Array.getElem?_eq_some_iff.1 s3).1
      have hb9w : b9 < wr.heap.size := (s4.lt b9 rfl).2
      have HSN' := Lib.hid hsn
      generalize lines[k] = line at *
      generalize (⟨line.toArray⟩ : ByteArray) = sl at *
      obtain ⟨yc, yr, ys, yl, yt⟩ := y
      simp only [SetC.val, SetC.cells] at *
      have S3 := Lib.hid s3
      have S4 := Lib.hid s4
      have S5 := Lib.hid s5
      have S2 := Lib.hid s2
      have HLK := Lib.hid hlk
      obtain ⟨p0, p1, p2, p3, p4, p5⟩ := SetAt.of (x := ⟨yc, yr, ys, yl, yt⟩) (v := .slice a3 lg.length c3) s1
      clear hcc hzl hxs hdl hsn s3 s4 s5 s2 hfk hlk
      go_wp2_with fail
      refine HTK.out.mono ?_
      rintro e w2 ⟨z, a2, n2, c2, b, rfl, h1, h2, hb2⟩
      obtain ⟨zc, zr, zs, zl, zt⟩ := z
      simp only [SetC.val] at *
      replace s1 := (hb2.block w.heap.size (by omega)).trans s1
      have s3 := (hb2.block (w.heap.size + 1) (by omega)).trans S3.out
      have s4 := S4.out.below hb2
      have s2 := S2.out.below hb2
      have g2 := below_trans S5.out hb2 S5.out.size
      have hz2 := hb2.size
      clear p0 p1 p2 p3 p4 p5 hc0 hb2 HTK S2 S3 S4 S5
      have m0 := heap_alloc_new w2 (.cells #[.int .i64 zc, .int .i64 zr, .float .f32 zs, .float .f32 zl, .float .f32 zt, .slice a2 n2 c2] 27)
      have m1 := (alloc_keeps w2 (.cells #[.int .i64 zc, .int .i64 zr, .float .f32 zs, .float .f32 zl, .float .f32 zt, .slice a2 n2 c2] 27) (show w.heap.size < w2.heap.size by omega)).trans s1
      have m3 := (alloc_keeps w2 (.cells #[.int .i64 zc, .int .i64 zr, .float .f32 zs, .float .f32 zl, .float .f32 zt, .slice a2 n2 c2] 27) (show w.heap.size + 1 < w2.heap.size by omega)).trans s3
      have m4 := s4.alloc (.cells #[.int .i64 zc, .int .i64 zr, .float .f32 zs, .float .f32 zl, .float .f32 zt, .slice a2 n2 c2] 27)
      have m2 := s2.alloc (.cells #[.int .i64 zc, .int .i64 zr, .float .f32 zs, .float .f32 zl, .float .f32 zt, .slice a2 n2 c2] 27)
      have g3 := g2.alloc g2.size (.cells #[.int .i64 zc, .int .i64 zr, .float .f32 zs, .float .f32 zl, .float .f32 zt, .slice a2 n2 c2] 27)
      have hz3 : (w2.alloc (.cells #[.int .i64 zc, .int .i64 zr, .float .f32 zs, .float .f32 zl, .float .f32 zt, .slice a2 n2 c2] 27)).heap.size = w2.heap.size + 1 := by simp
      clear s1 s2 s3 s4
      cases b with
      | true =>
        obtain ⟨out, hq, ho2, hok⟩ := h1 rfl
        replace ho2 := ho2.alloc (.cells #[.int .i64 zc, .int .i64 zr, .float .f32 zs, .float .f32 zl, .float .f32 zt, .slice a2 n2 c2] 27)
        have hln2 : n2 = out.length := by
          obtain ⟨_, _, e⟩ := ho2.row.lenv
          injection e
        subst hln2
        obtain ⟨q0', q1, q2, q3, q4, q5⟩ := SetAt.of (x := ⟨zc, zr, zs, zl, zt⟩) (v := .slice a2 out.length c2) m0
        obtain ⟨t0, t1, t2, t3, t4, t5⟩ := froz6 m1
        obtain ⟨p0, p1, p2, p3, p4, p5⟩ := SetAt.of (x := ⟨yc, yr, ys, yl, yt⟩) (v := .slice a3 lg.length c3) m1
        have hkl : k < (bs ++ List.replicate (lines.length - k) false).length := by rw [List.length_append, List.length_replicate, HLK.out]; omega
        obtain ⟨⟨x0, hx0⟩, hf0⟩ := m4.at LB_ok hkl (show 0 < LB.size by decide) (show k = k * LB.size + 0 from (Nat.mul_one k).symm)
        have HSQ := Lib.hid (show tuneAll q0 (lines.take (k + 1)) = ((⟨zc, zr, zs, zl, zt⟩, out), bs ++ [true]) by rw [HSN'.out, tuneR_yes (q := (⟨yc, yr, ys, yl, yt⟩, lg)) hq])
        have hne9 : ¬ b9 = w.heap.size := by omega
        have hne9' : ¬ w.heap.size = b9 := by omega
        have hne2 : ¬ w2.heap.size = w.heap.size := by omega
        have hne2' : ¬ w.heap.size = w2.heap.size := by omega
        have hfin : AllAt w q0 lines b9 (k + 1) ((((((((w2.alloc (.cells #[.int .i64 zc, .int .i64 zr, .float .f32 zs, .float .f32 zl, .float .f32 zt, .slice a2 out.length c2] 27)).setCell ⟨w.heap.size, 0, none⟩ (.int .i64 zc)).setCell ⟨w.heap.size, 1, none⟩ (.int .i64 zr)).setCell ⟨w.heap.size, 2, none⟩ (.float .f32 zs)).setCell ⟨w.heap.size, 3, none⟩ (.float .f32 zl)).setCell ⟨w.heap.size, 4, none⟩ (.float .f32 zt)).setCell ⟨w.heap.size, 5, none⟩ (.slice a2 out.length c2)).setCell ⟨b9, k, none⟩ (.bool true)) := by
          refine ⟨⟨a2, c2, ?_, ?_⟩, ?_, ?_, ?_⟩
          · rw [HSQ.out]
            exact (put1_far (by omega) _).trans (heap_put6 m1 _ _ _ _ _ _)
          · rw [HSQ.out]
            exact ((ho2.put6 (fun k hk => by have := (ho2.lt k hk).1; omega) _ _ _ _ _ _).put1 (fun k hk => by have := (ho2.lt k hk).1; omega) _).low (by omega)
          · exact ((put1_far (by omega) _).trans (put6_far (by omega) _ _ _ _ _ _)).trans m3
          · rw [HSQ.out]
            have e1 := (LB_put6 m4 (b := w.heap.size) (fun k hk => by have := (m4.lt k hk).1; omega) (.int .i64 zc) (.int .i64 zr) (.float .f32 zs) (.float .f32 zl) (.float .f32 zt) (.slice a2 out.length c2)).put LB_ok (z := true) hkl (show 0 < LB.size by decide) (show k = k * LB.size + 0 from (Nat.mul_one k).symm) (u := .bool true) rfl
            rw [bools_next bs _ k HLK.out hlt] at e1
            exact e1
          · exact (below6 g3 (Nat.le_refl _) _ _ _ _ _ _).setCell (p := ⟨_, _, none⟩) (by show _ ≤ b9; omega) _
        have HFIN := Lib.hid hfin
        clear hfin m0 m1 m2 m3 m4 ho2 hq h1 h2 hkl
        go_wp2
        go_roundw
        case rel => exact ⟨k + 1, by omega, by go_num, HFIN.out⟩
        case measure => simp [intOf]; omega
      | false =>
        have HSQ := Lib.hid (show tuneAll q0 (lines.take (k + 1)) = ((⟨yc, yr, ys, yl, yt⟩, lg), bs ++ [false]) by rw [HSN'.out, tuneR_no (q := (⟨yc, yr, ys, yl, yt⟩, lg)) (h2 rfl)])
        have hfin : AllAt w q0 lines b9 (k + 1) (w2.alloc (.cells #[.int .i64 zc, .int .i64 zr, .float .f32 zs, .float .f32 zl, .float .f32 zt, .slice a2 n2 c2] 27)) := by
          refine ⟨⟨a3, c3, ?_, ?_⟩, ?_, ?_, ?_⟩
          · rw [HSQ.out]
            exact m1
          · rw [HSQ.out]
            exact m2
          · exact m3
          · rw [HSQ.out, ← bools_same _ _ _ hlt]
            exact m4
          · exact g3
        have HFIN := Lib.hid hfin
        clear hfin m0 m1 m2 m3 m4 h1 h2
        go_wp2
        go_roundw
        case rel => exact ⟨k + 1, by omega, by go_num, HFIN.out⟩
        case measure => simp [intOf]; omega
    · obtain rfl : k = lines.length := by omega
      have hal := HALL.out
      rw [Nat.sub_self, List.replicate_zero, List.append_nil] at s4
      generalize tuneAll q0 (lines.take lines.length) = Q at *
      obtain ⟨⟨y, lg⟩, bs⟩ := Q
      have HP1 := fun (w' : World) v d h1 h2 h3 => Lib.hid (HPOST w' y lg bs v d hal.symm h1 h2 h3).out
      obtain ⟨yc, yr, ys, yl, yt⟩ := y
      simp only [SetC.val, SetC.cells] at *
      have S4 := Lib.hid s4
      have S2 := Lib.hid s2
      obtain ⟨p0, p1, p2, p3, p4, p5⟩ := SetAt.of (x := ⟨yc, yr, ys, yl, yt⟩) (v := .slice a3 lg.length c3) s1
      obtain ⟨r0, r1, r2, r3, r4, r5⟩ := SetAt.of (x := zeroC) (v := .slice none 0 0) s3
      obtain ⟨t0, t1, t2, t3, t4, t5⟩ := froz6 s3
      simp only [zeroC] at r0 r1 r2 r3 r4
      have M2 := Lib.hid (own_mark s3 s2)
      have M4 := Lib.hid (bool_mark s3 s4)
      have hsz : w.heap.size ≤ wr.heap.size := s5.size
      clear s1 s2 s3 s4 hal
      go_wp2
      refine bodyPost_ret (v := .tuple #[.agg #[.int .i64 yc, .int .i64 yr, .float .f32 ys, .float .f32 yl, .float .f32 yt, .slice a3 lg.length c3], .slice (some ⟨b9, 0, none⟩) lines.length lines.length]) ?_ rfl (HP1 _ _ _ ?_ ?_ ?_).out
      · simp [results, Tryd.results12, go_sem, r0, r1, r2, r3, r4, r5]
      · exact S2.out.put6 M2.out _ _ _ _ _ _
      · exact (LB_put6 S4.out M4.out _ _ _ _ _ _).mono (by omega)
      · exact below6 s5 (by omega) _ _ _ _ _ _
end Go.Proofs.YtobpnoiienpipaaDoor
