/-
  What is proved: the walk of the iterator over the pairs of a list of lines.
  Conditions: the number of lines is even.
-/
import Derived.Test.YtobpnoiienpipaaGreatChunk
namespace Go.Proofs.YtobpnoiienpipaaGreat
set_option linter.unusedVariables false
open Go.RowKit Go.Shelf
attribute [local go_sem] run_store_float run_store_complex unary_negf neg256 Oper.semAt_some

def chL (g o q : Nat) : Value := .slice (some ⟨g, o + 2 * q, none⟩) 2 2
set_option maxRecDepth 100000 in
set_option maxHeartbeats 2000000 in
theorem chunkL_in (n : Nat) (hn : 1 ≤ n) (w0 : World) (l Bs Bn g o cap L m : Nat) (ad : Option Addr) (had : 0 < L → ad = some ⟨g, o, none⟩ ∧ L ≤ cap) (hL : L = 2 * m) (hLm : L ≤ 1000000000) (J Jx : List (Ch m) → World → Prop) (B : Nat) (hJ : AbidesFrom B J)
    (hY : ∀ pre (x : Ch m) W, J pre W → pre.length < (idxF m m (Nat.le_refl m)).length → YieldAt Fence.wide (n - 1) Tryz.prog l #[chL g o x.1] W fun e W' =>
      (e = .returned (.bool true) ∧ J (pre ++ [x]) W' ∧ KeepB Bs Bn W W') ∨ (e = .returned (.bool false) ∧ Jx (pre ++ [x]) W'))
    (W : World) (hW : Below w0.heap.size w0 W) (hBs : w0.cell? ⟨Bs, 0, none⟩ = some (.slice ad L cap)) (hBn : w0.cell? ⟨Bn, 0, none⟩ = some (.int .i64 2)) (h0 : J [] W) :
    CallsIn Fence.wide n Tryz.prog 96 #[.func (.yield l) #[] #[], .pointer (some ⟨Bs, 0, none⟩), .pointer (some ⟨Bn, 0, none⟩)] W fun e W' => (∃ v, e = .returned v) ∧
      ((∃ ys, ys = idxF m m (Nat.le_refl m) ∧ J ys W') ∨ (∃ pre, pre <+: idxF m m (Nat.le_refl m) ∧ Jx pre W')) := by
  refine callsIn_of_wp Tryz.func96 rfl trivial ?_ rfl
  simp only [Tryz.ntmps96, List.size_toArray, List.length_cons, List.length_nil, Nat.reduceAdd, Nat.reduceSub, Array.replicate_succ, Array.replicate_zero, List.push_toArray, List.append_toArray, List.nil_append, List.cons_append]
  gi_wp2
  gi_loopw [4] (fun i wr => ∃ (k I : Nat) (hk : k ≤ m), i = .int .i64 (I : Int) ∧ I = 2 * k ∧ J (idxF m k hk) wr ∧ KeepB Bs Bn w0 wr) (fun i _ => L + 2 - (intOf i).toNat)
  case atStart => exact ⟨0, 0, Nat.zero_le _, rfl, rfl, h0, hW.block Bs (World.block_lt_of_cell? w0 _ hBs), hW.block Bn (World.block_lt_of_cell? w0 _ hBn)⟩
  case round =>
    obtain ⟨k, I, hk, rfl, hI, hJs, hb⟩ := hrel
    have hbs := (World.cell?_of_block (a := ⟨Bs, 0, none⟩) hb.1).trans hBs
    have hbn := (World.cell?_of_block (a := ⟨Bn, 0, none⟩) hb.2).trans hBn
    have HJ := Lib.hid hJs
    have HI := Lib.hid (And.intro hI hL)
    clear hJs
    by_cases hlt : I < L
    · have hkm : k < m := by omega
      obtain ⟨rfl, hcap⟩ := had (by omega)
      have hI2 : I + 2 ≤ L := by omega
      have hoI : o + I = o + 2 * k := by omega
      obtain ⟨fn, tmps, assign, body, hy, hR⟩ := hY (idxF m k hk) ⟨k, hkm⟩ wr.drew (hJ _ _ _ none HJ.out (grownN (World.grownBy.refl wr none) 1) (fun r e => by cases e)) (by rw [idxF_len, idxF_len]; exact hkm)
      have HR := Lib.hid hR
      unfold chL at hy
      simp only at hy
      rw [← hoI] at hy
      clear hI hoI hR hL
      gi_wp2
      gi_region_with (fail)
      all_goals
        gi_wp2
        refine HR.out.mono ?_
        rintro e W3 (⟨rfl, hJ3, hk3⟩ | ⟨rfl, hJx3⟩)
        · have hb3 : KeepB Bs Bn w0 W3 := hb.trans hk3
          have hbn3 := (World.cell?_of_block (a := ⟨Bn, 0, none⟩) hb3.2).trans hBn
          clear hbn hbs
          gi_wp2
          go_roundw
          case rel => exact ⟨k + 1, I + 2, by omega, by go_num, by have := HI.out.1; omega, hJ3, hb3⟩
          case measure => simp [intOf]; omega
        · gi_wp2
          refine bodyPost_ret (results_none rfl _ _ _) rfl ?_
          exact ⟨⟨_, rfl⟩, .inr ⟨idxF m (k + 1) (by omega), idxF_pre m m (k + 1) (Nat.le_refl m) (by omega), hJx3⟩⟩
    · have hkm : k = m := by omega
      subst hkm
      clear hI hL
      gi_wp2
      go_end0
      exact ⟨⟨_, rfl⟩, .inl ⟨_, rfl, HJ.out⟩⟩

/-- What the iterator hands out: the fours. -/
abbrev HandsL (n : Nat) (w0 : World) (Bs Bn g o m : Nat) (gf : Nat) (lb : Array Value) (w : World) : Prop :=
  SeqStopsK Fence.wide n Tryz.prog gf lb (fun x : Ch m => #[chL g o x.1]) (KeepB Bs Bn) (fun ys => ys = idxF m m (Nat.le_refl m)) (fun pre => pre <+: idxF m m (Nat.le_refl m)) (idxF m m (Nat.le_refl m)).length w
theorem chunkL_hands (n : Nat) (hn : 1 ≤ n) (w0 : World) (Bs Bn g o cap L m : Nat) (ad : Option Addr) (had : 0 < L → ad = some ⟨g, o, none⟩ ∧ L ≤ cap) (hL : L = 2 * m) (hLm : L ≤ 1000000000)
    (hBs : w0.cell? ⟨Bs, 0, none⟩ = some (.slice ad L cap)) (hBn : w0.cell? ⟨Bn, 0, none⟩ = some (.int .i64 2)) :
    HandsL n w0 Bs Bn g o m 96 #[.pointer (some ⟨Bs, 0, none⟩), .pointer (some ⟨Bn, 0, none⟩)] w0 :=
  fun l J Jx W hW hJ _ hY h0 => chunkL_in n hn w0 l Bs Bn g o cap L m ad had hL hLm J Jx _ hJ hY W hW hBs hBn h0
theorem chunkL_any (a : Option Addr) (m c : Nat) (w : World) :
    Calls Tryz.prog 65 #[.slice a m c, .int .i64 2] w fun e w' => e = .returned (.func (.func 96) #[] #[.pointer (some ⟨w.heap.size, 0, none⟩), .pointer (some ⟨w.heap.size + 1, 0, none⟩)]) ∧ w' = (w.alloc (.cells #[.slice a m c] 65)).alloc (.cells #[.int .i64 2] 3) := by
  go_enter Tryz.func65, Tryz.ntmps65
  go_wp2
  go_ret
  exact ⟨rfl, rfl⟩
end Go.Proofs.YtobpnoiienpipaaGreat
