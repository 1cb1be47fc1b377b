/-
  What is proved: the walk of the iterator over the fours of a list of samples.
  Conditions: the number of samples is a multiple of 4.
-/
import Derived.RangeFuncNested
import Derived.RangeFuncBound
import Derived.RangeFuncCalls
import Derived.RangeFuncLeaves
import Derived.RangeFuncBox
import Derived.Shelf.Abstract
import Derived.Shelf.RegionOpen
import Derived.OwnWalkIn
import Derived.TacticsInMore
import Derived.LoopNIn
import Derived.LoopIn
import Derived.Maps.AppendAt
import Derived.Sort.QuietTacIn
import Derived.Stop.RegionWithIn
import Derived.Test.YtobpnoiienpipaaGreatPz07
import Derived.Test.YtobpnoiienpipaaGreatPz03
namespace Go.Proofs.YtobpnoiienpipaaGreat
set_option linter.unusedVariables false
open Go.RowKit Go.Shelf
attribute [local go_sem] run_store_float run_store_complex unary_negf neg256 Oper.semAt_some

/-- Number q of m fours. -/
abbrev Ch (m : Nat) := { q : Nat // q < m }
def chv (g o q : Nat) : Value := .slice (some ⟨g, o + 4 * q, none⟩) 4 4
def idxF (m : Nat) : (k : Nat) → (k ≤ m) → List (Ch m)
  | 0, _ => []
  | k + 1, h => idxF m k (by omega) ++ [⟨k, by omega⟩]
theorem idxF_len (m : Nat) : ∀ k h, (idxF m k h).length = k
  | 0, _ => rfl
  | k + 1, h => by simp [idxF, idxF_len m k]
theorem idxF_pre (m : Nat) : ∀ (k j : Nat) (h : k ≤ m) (hj : j ≤ k), idxF m j (by omega) <+: idxF m k h
  | 0, j, h, hj => by
    obtain rfl : j = 0 := by omega
    exact List.prefix_refl _
  | k + 1, j, h, hj => by
    by_cases e : j = k + 1
    · subst e; exact List.prefix_refl _
    · exact (idxF_pre m k j (by omega) (by omega)).trans (List.prefix_append _ _)
theorem idxF_get (m : Nat) : ∀ (k : Nat) (h : k ≤ m) (i : Nat) (hi : i < (idxF m k h).length), ((idxF m k h)[i]).1 = i
  | 0, _, i, hi => by simp [idxF] at hi
  | k + 1, h, i, hi => by
    simp only [idxF] at hi ⊢
    by_cases e : i < (idxF m k (by omega)).length
    · rw [List.getElem_append_left e]; exact idxF_get m k _ i e
    · have hik : i = k := by rw [idxF_len] at e; simp [idxF_len] at hi; omega
      rw [List.getElem_append_right (by omega)]
      simp [hik]
/-- Two blocks stay. -/
def KeepB (Bs Bn : Nat) (A B : World) : Prop := B.heap[Bs]? = A.heap[Bs]? ∧ B.heap[Bn]? = A.heap[Bn]?
theorem KeepB.trans {Bs Bn : Nat} {A B C : World} (h : KeepB Bs Bn A B) (k : KeepB Bs Bn B C) : KeepB Bs Bn A C := ⟨k.1.trans h.1, k.2.trans h.2⟩
theorem KeepB.put {Bs Bn : Nat} {w : World} (h1 : Bs < w.heap.size) (h2 : Bn < w.heap.size) (W : World) (l : Nat) (o o' : Obj) (hl : w.heap.size ≤ l) (_ : W.heap[l]? = some o) (_ : o.isCells = false) (_ : o.isWalk = false) : KeepB Bs Bn W (W.putObj l o') :=
  ⟨World.putObj_heap_other (by omega), World.putObj_heap_other (by omega)⟩
theorem KeepB.of {Bs Bn : Nat} {A B : World} {row : Option Nat} (hg : A.grownBy B row) (h1 : Bs < A.heap.size) (h2 : Bn < A.heap.size) (r1 : some Bs ≠ row) (r2 : some Bn ≠ row) : KeepB Bs Bn A B := ⟨hg.block _ h1 r1, hg.block _ h2 r2⟩
set_option maxRecDepth 100000 in
set_option maxHeartbeats 2000000 in
theorem chunk1_in (n : Nat) (hn : 1 ≤ n) (w0 : World) (l Bs Bn g o cap L m : Nat) (ad : Option Addr) (had : 0 < L → ad = some ⟨g, o, none⟩ ∧ L ≤ cap) (hL : L = 4 * m) (hLm : L ≤ 1000000000) (J Jx : List (Ch m) → World → Prop) (B : Nat) (hJ : AbidesFrom B J)
    (hY : ∀ pre (x : Ch m) W, J pre W → pre.length < (idxF m m (Nat.le_refl m)).length → YieldAt Fence.wide (n - 1) Tryz.prog l #[chv g o x.1] W fun e W' =>
      (e = .returned (.bool true) ∧ J (pre ++ [x]) W' ∧ KeepB Bs Bn W W') ∨ (e = .returned (.bool false) ∧ Jx (pre ++ [x]) W'))
    (W : World) (hW : Below w0.heap.size w0 W) (hBs : w0.cell? ⟨Bs, 0, none⟩ = some (.slice ad L cap)) (hBn : w0.cell? ⟨Bn, 0, none⟩ = some (.int .i64 4)) (h0 : J [] W) :
    CallsIn Fence.wide n Tryz.prog 180 #[.func (.yield l) #[] #[], .pointer (some ⟨Bs, 0, none⟩), .pointer (some ⟨Bn, 0, none⟩)] W fun e W' => (∃ v, e = .returned v) ∧
      ((∃ ys, ys = idxF m m (Nat.le_refl m) ∧ J ys W') ∨ (∃ pre, pre <+: idxF m m (Nat.le_refl m) ∧ Jx pre W')) := by
  refine callsIn_of_wp Tryz.func180 rfl trivial ?_ rfl
  simp only [Tryz.ntmps180, List.size_toArray, List.length_cons, List.length_nil, Nat.reduceAdd, Nat.reduceSub, Array.replicate_succ, Array.replicate_zero, List.push_toArray, List.append_toArray, List.nil_append, List.cons_append]
  gi_wp2
  gi_loopw [4] (fun i wr => ∃ (k I : Nat) (hk : k ≤ m), i = .int .i64 (I : Int) ∧ I = 4 * k ∧ J (idxF m k hk) wr ∧ KeepB Bs Bn w0 wr) (fun i _ => L + 4 - (intOf i).toNat)
  case atStart => exact ⟨0, 0, Nat.zero_le _, rfl, rfl, h0, hW.block Bs (World.block_lt_of_cell? w0 _ hBs), hW.block Bn (World.block_lt_of_cell? w0 _ hBn)⟩
  case round =>
    obtain ⟨k, I, hk, rfl, hI, hJs, hb⟩ := hrel
    have hbs := (World.cell?_of_block (a := ⟨Bs, 0, none⟩) hb.1).trans hBs
    have hbn := (World.cell?_of_block (a := ⟨Bn, 0, none⟩) hb.2).trans hBn
    have HJ := Lib.hid hJs
    have HI := Lib.hid (And.intro hI hL)
    clear hJs
    by_cases hlt : I < L
    · have hkm : k < m := by omega
      obtain ⟨rfl, hcap⟩ := had (by omega)
      have hI4 : I + 4 ≤ L := by omega
      have hoI : o + I = o + 4 * k := by omega
      obtain ⟨fn, tmps, assign, body, hy, hR⟩ := hY (idxF m k hk) ⟨k, hkm⟩ wr.drew (hJ _ _ _ none HJ.out (grownN (World.grownBy.refl wr none) 1) (fun r e => by cases e)) (by rw [idxF_len, idxF_len]; exact hkm)
      have HR := Lib.hid hR
      unfold chv at hy
      simp only at hy
      rw [← hoI] at hy
      clear hI hoI hR hL
      gi_wp2
      gi_region_with (fail)
      all_goals
        gi_wp2
        refine HR.out.mono ?_
        rintro e W3 (⟨rfl, hJ3, hk3⟩ | ⟨rfl, hJx3⟩)
        · have hb3 : KeepB Bs Bn w0 W3 := hb.trans hk3
          have hbn3 := (World.cell?_of_block (a := ⟨Bn, 0, none⟩) hb3.2).trans hBn
          clear hbn hbs
          gi_wp2
          go_roundw
          case rel => exact ⟨k + 1, I + 4, by omega, by go_num, by have := HI.out.1; omega, hJ3, hb3⟩
          case measure => simp [intOf]; omega
        · gi_wp2
          refine bodyPost_ret (results_none rfl _ _ _) rfl ?_
          exact ⟨⟨_, rfl⟩, .inr ⟨idxF m (k + 1) (by omega), idxF_pre m m (k + 1) (Nat.le_refl m) (by omega), hJx3⟩⟩
    · have hkm : k = m := by omega
      subst hkm
      clear hI hL
      gi_wp2
      go_end0
      exact ⟨⟨_, rfl⟩, .inl ⟨_, rfl, HJ.out⟩⟩

/-- What the iterator hands out: the fours. -/
abbrev HandsF (n : Nat) (w0 : World) (Bs Bn g o m : Nat) (gf : Nat) (lb : Array Value) (w : World) : Prop :=
  SeqStopsK Fence.wide n Tryz.prog gf lb (fun x : Ch m => #[chv g o x.1]) (KeepB Bs Bn) (fun ys => ys = idxF m m (Nat.le_refl m)) (fun pre => pre <+: idxF m m (Nat.le_refl m)) (idxF m m (Nat.le_refl m)).length w
theorem chunk_hands (n : Nat) (hn : 1 ≤ n) (w0 : World) (Bs Bn g o cap L m : Nat) (ad : Option Addr) (had : 0 < L → ad = some ⟨g, o, none⟩ ∧ L ≤ cap) (hL : L = 4 * m) (hLm : L ≤ 1000000000)
    (hBs : w0.cell? ⟨Bs, 0, none⟩ = some (.slice ad L cap)) (hBn : w0.cell? ⟨Bn, 0, none⟩ = some (.int .i64 4)) :
    HandsF n w0 Bs Bn g o m 180 #[.pointer (some ⟨Bs, 0, none⟩), .pointer (some ⟨Bn, 0, none⟩)] w0 :=
  fun l J Jx W hW hJ _ hY h0 => chunk1_in n hn w0 l Bs Bn g o cap L m ad had hL hLm J Jx _ hJ hY W hW hBs hBn h0
theorem chunk_any (a : Option Addr) (m c : Nat) (w : World) :
    Calls Tryz.prog 177 #[.slice a m c, .int .i64 4] w fun e w' => e = .returned (.func (.func 180) #[] #[.pointer (some ⟨w.heap.size, 0, none⟩), .pointer (some ⟨w.heap.size + 1, 0, none⟩)]) ∧ w' = (w.alloc (.cells #[.slice a m c] 31)).alloc (.cells #[.int .i64 4] 3) := by
  go_enter Tryz.func177, Tryz.ntmps177
  go_wp2
  go_ret
  exact ⟨rfl, rfl⟩
end Go.Proofs.YtobpnoiienpipaaGreat
