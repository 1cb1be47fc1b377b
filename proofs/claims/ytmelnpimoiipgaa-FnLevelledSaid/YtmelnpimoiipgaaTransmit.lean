/-
  What is proved: the walk of the program's Transmit, at channels of small numbers.
  Conditions: the samples can be read; the channel is valid, and its numbers are bounded.
-/
import Derived.Test.YtmelnpimoiipgaaCellBy
import Derived.Test.YtmelnpimoiipgaaGated
namespace Go.Proofs.Ytmelnpimoiipgaa
set_option linter.unusedVariables false
open Go.RowKit
open Flt (Mag sumv subv mulv quov Q)
attribute [local go_sem] run_store_float run_store_complex unary_negf neg256

theorem txs_len (h : Chn) : ∀ (m : Nat) (xs : List Nat), xs.length = 4 * m → (txs h xs).length = xs.length := by
  intro m xs hx
  rw [txs_cells h m xs hx, enc_len, List.length_map, List.length_range]
  omega
set_option maxHeartbeats 2000000 in
set_option maxRecDepth 100000 in
theorem gainOn_any (A O X Y : Nat) (v : Value) (xs : List Nat) (w : World) (h : FRow w v xs) (hl : xs.length ≤ 4000000) (hok : ChOk ⟨A, O, X, Y⟩) (hh : MagH ⟨A, O, X, Y⟩) (hs : sampOk xs = true) :
    Calls Try.prog 140 #[.agg #[.float .f32 A, .float .f32 O, .complex .f32 X Y], v] w fun e w' => OnB (fun ys ok => ys = txs ⟨A, O, X, Y⟩ xs ∧ ok = true) w e w' := by
  obtain ⟨a, c, rfl⟩ := h.lenv
  have hmf : ∀ (fn : Fn) (first cap : Array Value) (w : World), (Instr.makeFunc fn first cap).run Try.prog w = .ok (.func fn first cap) w := fun _ _ _ _ => rfl
  have hb0 := (Below.refl w.heap.size w).alloc (Nat.le_refl _) (.cells #[.float .f32 A, .float .f32 O, .complex .f32 X Y] 101)
  have hE := heap_alloc_new w (.cells #[.float .f32 A, .float .f32 O, .complex .f32 X Y] 101)
  have HO := fun W => Lib.hid (channelOk_any A O X Y W hok)
  have HC := fun W hr => Lib.hid (cellBy_any A O X Y (.slice a xs.length c) xs W hr (sampOk_len hs).1 hl hh (fun x hx => fin1_mag (sampOk_all hs x hx)))
  have c0 : (w.alloc (.cells #[.float .f32 A, .float .f32 O, .complex .f32 X Y] 101)).cell? ⟨w.heap.size, 0, none⟩ = some (.float .f32 A) := (cell_of_row _ _ 0 _ _ _ hE).trans rfl
  have c1 : (w.alloc (.cells #[.float .f32 A, .float .f32 O, .complex .f32 X Y] 101)).cell? ⟨w.heap.size, 1, none⟩ = some (.float .f32 O) := (cell_of_row _ _ 1 _ _ _ hE).trans rfl
  have c2 : (w.alloc (.cells #[.float .f32 A, .float .f32 O, .complex .f32 X Y] 101)).cell? ⟨w.heap.size, 2, none⟩ = some (.complex .f32 X Y) := (cell_of_row _ _ 2 _ _ _ hE).trans rfl
  have HR := Lib.hid (h.below hb0)
  clear h hE hok hh hs
  go_enter Try.func140, Try.ntmps140
  go_wp2_with fail
  generalize w.alloc (.cells #[.float .f32 A, .float .f32 O, .complex .f32 X Y] 101) = wA at *
  refine (HO _).out.mono ?_
  rintro e w1 ⟨rfl, hb1⟩
  have k0 := (grown_of hb1).cell c0 (by simp)
  have k1 := (grown_of hb1).cell c1 (by simp)
  have k2 := (grown_of hb1).cell c2 (by simp)
  have HR1 := Lib.hid (HR.out.below hb1)
  have hb01 := below_trans hb0 hb1 hb0.size
  clear c0 c1 c2 HR hb1
  go_wp2_with fail
  refine (HC _ HR1.out).out.mono ?_
  rintro e w2 ⟨v2, rfl, hn2, hb2⟩
  have HN := Lib.hid (hn2.mono hb01.size)
  have hb02 := below_trans hb01 hb2 hb01.size
  clear hn2 hb2
  go_wp2
  go_ret2
  exact ⟨v2, _, true, rfl, ⟨rfl, rfl⟩, HN.out, hb02⟩
/-- A channel of small numbers, and samples that it takes to valid ones. -/
theorem transmit_any (A O X Y : Nat) (v : Value) (xs : List Nat) (w : World) (h : FRow w v xs) (hok : ChOk ⟨A, O, X, Y⟩) (hh : MagH ⟨A, O, X, Y⟩) (hs : sampOk xs = true) (ht : sampOk (txs ⟨A, O, X, Y⟩ xs) = true) :
    Calls Try.prog 27 #[.agg #[.float .f32 A, .float .f32 O, .complex .f32 X Y], v] w fun e w' => Ans true (fun ys => ys = txs ⟨A, O, X, Y⟩ xs) w e w' := by
  have hl := sampOk_len hs
  have hl2 := sampOk_len ht
  refine (transmitBy_any (fun ys ok => ys = txs ⟨A, O, X, Y⟩ xs ∧ ok = true) A O X Y v xs w h (by omega) (fun ys ok h => by rw [h.1]; omega) (fun _ W hr => Lib.hid (gainOn_any A O X Y v xs W hr (by omega) hok hh hs))).mono ?_
  rintro e w' ⟨v2, ys, ok, rfl, ⟨r, o, hi, hr⟩, hn, hb⟩
  unfold InR at hi
  rw [if_pos hs] at hi
  obtain ⟨rfl, rfl⟩ := hi
  rcases hr with ⟨_, _, rfl, rfl⟩ | ⟨s1, _, _⟩
  · exact ⟨v2, _, rfl, rfl, hn, hb⟩
  · rcases s1 with s1 | s1
    · cases s1
    · rw [ht] at s1; cases s1
/-- Samples that are not valid are refused. -/
theorem transmitNo_any (A O X Y : Nat) (v : Value) (xs : List Nat) (w : World) (h : FRow w v xs) (hl : xs.length ≤ 4000000) (hs : sampOk xs = false) :
    Calls Try.prog 27 #[.agg #[.float .f32 A, .float .f32 O, .complex .f32 X Y], v] w fun e w' => Ans false (fun ys => ys = []) w e w' := by
  refine (transmitBy_any (fun ys ok => ys = []) A O X Y v xs w h hl (fun ys ok h => by rw [h]; exact Nat.zero_le _) (fun h => by rw [hs] at h; cases h)).mono ?_
  rintro e w' ⟨v2, ys, ok, rfl, ⟨r, o, hi, hr⟩, hn, hb⟩
  unfold InR at hi
  rw [hs] at hi
  obtain ⟨rfl, rfl⟩ := hi
  rcases hr with ⟨h, _⟩ | ⟨_, rfl, rfl⟩
  · cases h
  · exact ⟨v2, _, rfl, rfl, hn, hb⟩
end Go.Proofs.Ytmelnpimoiipgaa
