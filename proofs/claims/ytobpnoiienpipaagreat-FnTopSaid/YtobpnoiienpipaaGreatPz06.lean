/-
  What is proved: the walks of the functions that make a cell of four samples, the program's and the model's.
  Conditions: those that each fact names.
-/
import Derived.Test.YtobpnoiienpipaaGreatPz03
import Derived.Test.YtobpnoiienpipaaGreatPz02
import Derived.RangeFuncNested
import Derived.RangeFuncBound
import Derived.RangeFuncCalls
import Derived.RangeFuncLeaves
import Derived.RangeFuncBox
import Derived.Shelf.Abstract
import Derived.Shelf.RegionOpen
import Derived.OwnWalkIn
import Derived.TacticsInMore
import Derived.LoopNIn
import Derived.LoopIn
import Derived.Maps.AppendAt
import Derived.Sort.QuietTacIn
import Derived.Stop.RegionWithIn
namespace Go.Proofs.YtobpnoiienpipaaGreat
set_option linter.unusedVariables false
open Go.RowKit
attribute [local go_sem] run_store_float run_store_complex unary_negf neg256

theorem drewN_addD (w : World) (a b : Nat) : (w.drewN a).drewN b = w.drewN (a + b) := by simp [World.drewN, Nat.add_assoc]
/-- A cell that four samples may tell. -/
def DecR (s t u v : Nat) (c : C3) : Prop :=
  (∃ r1 r2 r3, Res .add s t r1 ∧ Res .add r1 u r2 ∧ Res .add r2 v r3 ∧ Res .quo r3 1082130432 c.1) ∧ (∃ d, Res .sub s u d ∧ Res .quo d 1073741824 c.2.1) ∧ (∃ d, Res .sub v t d ∧ Res .quo d 1073741824 c.2.2) ∧ (c.1 < 2 ^ 32 ∧ c.2.1 < 2 ^ 32 ∧ c.2.2 < 2 ^ 32)
def CSame (c d : C3) : Prop := Sm c.1 d.1 ∧ Sm c.2.1 d.2.1 ∧ Sm c.2.2 d.2.2
theorem DecR.same {s t u v : Nat} {c d : C3} (h : DecR s t u v c) (h' : DecR s t u v d) : CSame c d := by
  obtain ⟨⟨r1, r2, r3, a1, a2, a3, a4⟩, ⟨d1, b1, b2⟩, ⟨d2, e1, e2⟩, _⟩ := h
  obtain ⟨⟨r1', r2', r3', a1', a2', a3', a4'⟩, ⟨d1', b1', b2'⟩, ⟨d2', e1', e2'⟩, _⟩ := h'
  have k1 := Res.same (Sm.refl _) (Sm.refl _) a1 a1'
  have k2 := Res.same k1 (Sm.refl _) a2 a2'
  have k3 := Res.same k2 (Sm.refl _) a3 a3'
  exact ⟨Res.same k3 (Sm.refl _) a4 a4', Res.same (Res.same (Sm.refl _) (Sm.refl _) b1 b1') (Sm.refl _) b2 b2', Res.same (Res.same (Sm.refl _) (Sm.refl _) e1 e1') (Sm.refl _) e2 e2'⟩
def CellR (R : C3 → Prop) (w : World) (e : Ending) (w' : World) : Prop := ∃ c : C3, e = .returned (.agg #[.float .f32 c.1, .complex .f32 c.2.1 c.2.2]) ∧ R c ∧ Below w.heap.size w w'
theorem CellR.mk {R : C3 → Prop} {w w' : World} {y u v : Nat} (h : R (y, u, v)) (hb : Below w.heap.size w w') : CellR R w (.returned (.agg #[.float .f32 y, .complex .f32 u v])) w' := ⟨(y, u, v), rfl, h, hb⟩
set_option maxHeartbeats 2000000 in
theorem decodedCell_any (s t u v : Nat) (w : World) :
    Calls Tryz.prog 178 #[.agg #[.float .f32 s, .float .f32 t, .float .f32 u, .float .f32 v]] w fun e w' => CellR (DecR s t u v) w e w' := by
  go_enter Tryz.func178, Tryz.ntmps178
  go_wp2
  go_quiet (fail)
  have hbel : Below w.heap.size w (((w.alloc (.cells #[.float .f32 s, .float .f32 t, .float .f32 u, .float .f32 v] 162)).alloc (.cells #[.float .f32 0, .complex .f32 0 0] 61)).drewN nq) := belowDN (((Below.refl _ _).alloc (Nat.le_refl _) _).alloc (by simp) _) nq
  have hnew : (((w.alloc (.cells #[.float .f32 s, .float .f32 t, .float .f32 u, .float .f32 v] 162)).alloc (.cells #[.float .f32 0, .complex .f32 0 0] 61)).drewN nq).heap[w.heap.size + 1]? = some (.cells #[.float .f32 0, .complex .f32 0 0] 61 (0, 0)) := by
    have := heap_alloc_new (w.alloc (.cells #[.float .f32 s, .float .f32 t, .float .f32 u, .float .f32 v] 162)) (.cells #[.float .f32 0, .complex .f32 0 0] 61)
    rw [World.size_alloc] at this
    exact this
  generalize (((w.alloc (.cells #[.float .f32 s, .float .f32 t, .float .f32 u, .float .f32 v] 162)).alloc (.cells #[.float .f32 0, .complex .f32 0 0] 61)).drewN nq) = w1 at *
  have c0 : w1.cell? ⟨w.heap.size + 1, 0, none⟩ = some (.float .f32 0) := by simp [World.cell?, hnew]
  have c1 : w1.cell? ⟨w.heap.size + 1, 1, none⟩ = some (.complex .f32 0 0) := by simp [World.cell?, hnew]
  have f0 : w1.frozen? ⟨w.heap.size + 1, 0, none⟩ = false := by simp [World.frozen?, hnew]
  have f1 : w1.frozen? ⟨w.heap.size + 1, 1, none⟩ = false := by simp [World.frozen?, hnew]
  have HNW := Lib.hid hnew
  have HBL := Lib.hid hbel
  clear hnew hbel
  obtain ⟨r1, n1, e1, R1, B1⟩ := run_res .add (.inl rfl) s t w1
  have HR1 := Lib.hid (And.intro R1 B1)
  clear R1 B1
  obtain ⟨r2, n2, e2, R2, B2⟩ := run_res .add (.inl rfl) r1 u (w1.drewN (n1))
  rw [drewN_addD] at e2
  have HR2 := Lib.hid (And.intro R2 B2)
  clear R2 B2
  obtain ⟨r3, n3, e3, R3, B3⟩ := run_res .add (.inl rfl) r2 v (w1.drewN (n1 + n2))
  rw [drewN_addD] at e3
  have HR3 := Lib.hid (And.intro R3 B3)
  clear R3 B3
  obtain ⟨y, n4, e4, R4, B4⟩ := run_res .quo (.inr (.inr (.inr rfl))) r3 1082130432 (w1.drewN (n1 + n2 + n3))
  rw [drewN_addD] at e4
  have HR4 := Lib.hid (And.intro R4 B4)
  clear R4 B4
  obtain ⟨d1, n5, e5, R5, B5⟩ := run_res .sub (.inr (.inl rfl)) s u (w1.drewN (n1 + n2 + n3 + n4))
  rw [drewN_addD] at e5
  have HR5 := Lib.hid (And.intro R5 B5)
  clear R5 B5
  obtain ⟨p, n6, e6, R6, B6⟩ := run_res .quo (.inr (.inr (.inr rfl))) d1 1073741824 (w1.drewN (n1 + n2 + n3 + n4 + n5))
  rw [drewN_addD] at e6
  have HR6 := Lib.hid (And.intro R6 B6)
  clear R6 B6
  obtain ⟨d2, n7, e7, R7, B7⟩ := run_res .sub (.inr (.inl rfl)) v t (w1.drewN (n1 + n2 + n3 + n4 + n5 + n6))
  rw [drewN_addD] at e7
  have HR7 := Lib.hid (And.intro R7 B7)
  clear R7 B7
  obtain ⟨q, n8, e8, R8, B8⟩ := run_res .quo (.inr (.inr (.inr rfl))) d2 1073741824 (w1.drewN (n1 + n2 + n3 + n4 + n5 + n6 + n7))
  rw [drewN_addD] at e8
  have HR8 := Lib.hid (And.intro R8 B8)
  clear R8 B8
  have hB2 := heap_put (i := 1) (v := .complex .f32 p q) (heap_put (i := 0) (v := .float .f32 y) (w := w1.drewN (n1 + n2 + n3 + n4 + n5 + n6 + n7 + n8)) HNW.out)
  have hz := ((belowDN HBL.out (n1 + n2 + n3 + n4 + n5 + n6 + n7 + n8)).setCell (p := ⟨w.heap.size + 1, 0, none⟩) (by simp) (.float .f32 y)).setCell (p := ⟨w.heap.size + 1, 1, none⟩) (by simp) (.complex .f32 p q)
  have HB2 := Lib.hid hB2
  have HZ := Lib.hid hz
  clear hB2 hz
  go_wp2
  generalize ((((w1.drewN (n1 + n2 + n3 + n4 + n5 + n6 + n7 + n8)).setCell ⟨w.heap.size + 1, 0, none⟩ (.float .f32 y)).setCell ⟨w.heap.size + 1, 1, none⟩ (.complex .f32 p q))) = wz at *
  have d0 : wz.cell? ⟨w.heap.size + 1, 0, none⟩ = some (.float .f32 y) := by have := HB2.out; simp [World.cell?, this]
  have d1' : wz.cell? ⟨w.heap.size + 1, 1, none⟩ = some (.complex .f32 p q) := by have := HB2.out; simp [World.cell?, this]
  refine bodyPost_ret (v := .agg #[.float .f32 y, .complex .f32 p q]) ?_ rfl (CellR.mk ⟨⟨r1, r2, r3, HR1.out.1, HR2.out.1, HR3.out.1, HR4.out.1⟩, ⟨d1, HR5.out.1, HR6.out.1⟩, ⟨d2, HR7.out.1, HR8.out.1⟩, HR4.out.2, HR6.out.2, HR8.out.2⟩ HZ.out)
  simp [results, Tryz.results178, go_sem, d0, d1']
end Go.Proofs.YtobpnoiienpipaaGreat

/-
  What is proved: the walk of the iterator over the fours of a list of samples.
  Conditions: the number of samples is a multiple of 4.
-/
namespace Go.Proofs.YtobpnoiienpipaaGreat
set_option linter.unusedVariables false
open Go.RowKit Go.Shelf
attribute [local go_sem] run_store_float run_store_complex unary_negf neg256 Oper.semAt_some

/-- Number q of m fours. -/
abbrev Ch (m : Nat) := { q : Nat // q < m }
def chv (g o q : Nat) : Value := .slice (some ⟨g, o + 4 * q, none⟩) 4 4
def idxF (m : Nat) : (k : Nat) → (k ≤ m) → List (Ch m)
  | 0, _ => []
  | k + 1, h => idxF m k (by omega) ++ [⟨k, by omega⟩]
theorem idxF_len (m : Nat) : ∀ k h, (idxF m k h).length = k
  | 0, _ => rfl
  | k + 1, h => by simp [idxF, idxF_len m k]
theorem idxF_pre (m : Nat) : ∀ (k j : Nat) (h : k ≤ m) (hj : j ≤ k), idxF m j (by omega) <+: idxF m k h
  | 0, j, h, hj => by
    obtain rfl : j = 0 := by omega
    exact List.prefix_refl _
  | k + 1, j, h, hj => by
    by_cases e : j = k + 1
    · subst e; exact List.prefix_refl _
    · exact (idxF_pre m k j (by omega) (by omega)).trans (List.prefix_append _ _)
theorem idxF_get (m : Nat) : ∀ (k : Nat) (h : k ≤ m) (i : Nat) (hi : i < (idxF m k h).length), ((idxF m k h)[i]).1 = i
  | 0, _, i, hi => by simp [idxF] at hi
  | k + 1, h, i, hi => by
    simp only [idxF] at hi ⊢
    by_cases e : i < (idxF m k (by omega)).length
    · rw [List.getElem_append_left e]; exact idxF_get m k _ i e
    · have hik : i = k := by rw [idxF_len] at e; simp [idxF_len] at hi; omega
      rw [List.getElem_append_right (by omega)]
      simp [hik]
/-- Two blocks stay. -/
def KeepB (Bs Bn : Nat) (A B : World) : Prop := B.heap[Bs]? = A.heap[Bs]? ∧ B.heap[Bn]? = A.heap[Bn]?
theorem KeepB.trans {Bs Bn : Nat} {A B C : World} (h : KeepB Bs Bn A B) (k : KeepB Bs Bn B C) : KeepB Bs Bn A C := ⟨k.1.trans h.1, k.2.trans h.2⟩
theorem KeepB.put {Bs Bn : Nat} {w : World} (h1 : Bs < w.heap.size) (h2 : Bn < w.heap.size) (W : World) (l : Nat) (o o' : Obj) (hl : w.heap.size ≤ l) (_ : W.heap[l]? = some o) (_ : o.isCells = false) (_ : o.isWalk = false) : KeepB Bs Bn W (W.putObj l o') :=
  ⟨World.putObj_heap_other (by omega), World.putObj_heap_other (by omega)⟩
theorem KeepB.of {Bs Bn : Nat} {A B : World} {row : Option Nat} (hg : A.grownBy B row) (h1 : Bs < A.heap.size) (h2 : Bn < A.heap.size) (r1 : some Bs ≠ row) (r2 : some Bn ≠ row) : KeepB Bs Bn A B := ⟨hg.block _ h1 r1, hg.block _ h2 r2⟩
set_option maxRecDepth 100000 in
set_option maxHeartbeats 2000000 in
theorem chunk1_in (n : Nat) (hn : 1 ≤ n) (w0 : World) (l Bs Bn g o cap L m : Nat) (ad : Option Addr) (had : 0 < L → ad = some ⟨g, o, none⟩ ∧ L ≤ cap) (hL : L = 4 * m) (hLm : L ≤ 1000000000) (J Jx : List (Ch m) → World → Prop) (B : Nat) (hJ : AbidesFrom B J)
    (hY : ∀ pre (x : Ch m) W, J pre W → pre.length < (idxF m m (Nat.le_refl m)).length → YieldAt Fence.wide (n - 1) Tryz.prog l #[chv g o x.1] W fun e W' =>
      (e = .returned (.bool true) ∧ J (pre ++ [x]) W' ∧ KeepB Bs Bn W W') ∨ (e = .returned (.bool false) ∧ Jx (pre ++ [x]) W'))
    (W : World) (hW : Below w0.heap.size w0 W) (hBs : w0.cell? ⟨Bs, 0, none⟩ = some (.slice ad L cap)) (hBn : w0.cell? ⟨Bn, 0, none⟩ = some (.int .i64 4)) (h0 : J [] W) :
    CallsIn Fence.wide n Tryz.prog 180 #[.func (.yield l) #[] #[], .pointer (some ⟨Bs, 0, none⟩), .pointer (some ⟨Bn, 0, none⟩)] W fun e W' => (∃ v, e = .returned v) ∧
      ((∃ ys, ys = idxF m m (Nat.le_refl m) ∧ J ys W') ∨ (∃ pre, pre <+: idxF m m (Nat.le_refl m) ∧ Jx pre W')) := by
  refine callsIn_of_wp Tryz.func180 rfl trivial ?_ rfl
  simp only [Tryz.ntmps180, List.size_toArray, List.length_cons, List.length_nil, Nat.reduceAdd, Nat.reduceSub, Array.replicate_succ, Array.replicate_zero, List.push_toArray, List.append_toArray, List.nil_append, List.cons_append]
  gi_wp2
  gi_loopw [4] (fun i wr => ∃ (k I : Nat) (hk : k ≤ m), i = .int .i64 (I : Int) ∧ I = 4 * k ∧ J (idxF m k hk) wr ∧ KeepB Bs Bn w0 wr) (fun i _ => L + 4 - (intOf i).toNat)
  case atStart => exact ⟨0, 0, Nat.zero_le _, rfl, rfl, h0, hW.block Bs (World.block_lt_of_cell? w0 _ hBs), hW.block Bn (World.block_lt_of_cell? w0 _ hBn)⟩
  case round =>
    obtain ⟨k, I, hk, rfl, hI, hJs, hb⟩ := hrel
    have hbs := (World.cell?_of_block (a := ⟨Bs, 0, none⟩) hb.1).trans hBs
    have hbn := (World.cell?_of_block (a := ⟨Bn, 0, none⟩) hb.2).trans hBn
    have HJ := Lib.hid hJs
    have HI := Lib.hid (And.intro hI hL)
    clear hJs
    by_cases hlt : I < L
    · have hkm : k < m := by omega
      obtain ⟨rfl, hcap⟩ := had (by omega)
      have hI4 : I + 4 ≤ L := by omega
      have hoI : o + I = o + 4 * k := by omega
      obtain ⟨fn, tmps, assign, body, hy, hR⟩ := hY (idxF m k hk) ⟨k, hkm⟩ wr.drew (hJ _ _ _ none HJ.out (grownN (World.grownBy.refl wr none) 1) (fun r e => by cases e)) (by rw [idxF_len, idxF_len]; exact hkm)
      have HR := Lib.hid hR
      unfold chv at hy
      simp only at hy
      rw [← hoI] at hy
      clear hI hoI hR hL
      gi_wp2
      gi_region_with (fail)
      all_goals
        gi_wp2
        refine HR.out.mono ?_
        rintro e W3 (⟨rfl, hJ3, hk3⟩ | ⟨rfl, hJx3⟩)
        · have hb3 : KeepB Bs Bn w0 W3 := hb.trans hk3
          have hbn3 := (World.cell?_of_block (a := ⟨Bn, 0, none⟩) hb3.2).trans hBn
          clear hbn hbs
          gi_wp2
          go_roundw
          case rel => exact ⟨k + 1, I + 4, by omega, by go_num, by have := HI.out.1; omega, hJ3, hb3⟩
          case measure => simp [intOf]; omega
        · gi_wp2
          refine bodyPost_ret (results_none rfl _ _ _) rfl ?_
          exact ⟨⟨_, rfl⟩, .inr ⟨idxF m (k + 1) (by omega), idxF_pre m m (k + 1) (Nat.le_refl m) (by omega), hJx3⟩⟩
    · have hkm : k = m := by omega
      subst hkm
      clear hI hL
      gi_wp2
      go_end0
      exact ⟨⟨_, rfl⟩, .inl ⟨_, rfl, HJ.out⟩⟩

/-- What the iterator hands out: the fours. -/
abbrev HandsF (n : Nat) (w0 : World) (Bs Bn g o m : Nat) (gf : Nat) (lb : Array Value) (w : World) : Prop :=
  SeqStopsK Fence.wide n Tryz.prog gf lb (fun x : Ch m => #[chv g o x.1]) (KeepB Bs Bn) (fun ys => ys = idxF m m (Nat.le_refl m)) (fun pre => pre <+: idxF m m (Nat.le_refl m)) (idxF m m (Nat.le_refl m)).length w
theorem chunk_hands (n : Nat) (hn : 1 ≤ n) (w0 : World) (Bs Bn g o cap L m : Nat) (ad : Option Addr) (had : 0 < L → ad = some ⟨g, o, none⟩ ∧ L ≤ cap) (hL : L = 4 * m) (hLm : L ≤ 1000000000)
    (hBs : w0.cell? ⟨Bs, 0, none⟩ = some (.slice ad L cap)) (hBn : w0.cell? ⟨Bn, 0, none⟩ = some (.int .i64 4)) :
    HandsF n w0 Bs Bn g o m 180 #[.pointer (some ⟨Bs, 0, none⟩), .pointer (some ⟨Bn, 0, none⟩)] w0 :=
  fun l J Jx W hW hJ _ hY h0 => chunk1_in n hn w0 l Bs Bn g o cap L m ad had hL hLm J Jx _ hJ hY W hW hBs hBn h0
theorem chunk_any (a : Option Addr) (m c : Nat) (w : World) :
    Calls Tryz.prog 177 #[.slice a m c, .int .i64 4] w fun e w' => e = .returned (.func (.func 180) #[] #[.pointer (some ⟨w.heap.size, 0, none⟩), .pointer (some ⟨w.heap.size + 1, 0, none⟩)]) ∧ w' = (w.alloc (.cells #[.slice a m c] 31)).alloc (.cells #[.int .i64 4] 3) := by
  go_enter Tryz.func177, Tryz.ntmps177
  go_wp2
  go_ret
  exact ⟨rfl, rfl⟩
end Go.Proofs.YtobpnoiienpipaaGreat
