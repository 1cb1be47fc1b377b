/-
  What is proved: the walks of PulseOf, BurstOf and CellsOf, the program's and the model's.
  Conditions: the list can be read, and has at most 4000000 numbers.
-/
import Derived.Test.YtjccnmnhgahlfaaLine
namespace Go.Proofs.Ytjccnmnhgahlfaa
set_option linter.unusedVariables false
open Go.RowKit
attribute [local go_sem] run_store_float run_store_complex unary_negf neg256

/-- The samples of a list from place i on, m of them. -/
def part (xs : List Nat) (i m : Nat) : List Nat := (xs.drop i).take m
theorem part_len (xs : List Nat) (i m : Nat) (h : i + m ≤ xs.length) : (part xs i m).length = m := by simp [part]; omega
theorem part_get (xs : List Nat) (i m k : Nat) (h : k < (part xs i m).length) (h' : i + k < xs.length) : (part xs i m)[k] = xs[i + k] := by simp [part]
def GotF (ys : List Nat) (w : World) (e : Ending) (w' : World) : Prop := ∃ v', e = .returned v' ∧ FNew w' w.heap.size v' ys ∧ Below w.heap.size w w'
theorem GotF.mk {ys : List Nat} {w w' : World} {v' : Value} (h : FNew w' w.heap.size v' ys) (hb : Below w.heap.size w w') : GotF ys w (.returned v') w' := ⟨v', rfl, h, hb⟩
theorem GotF.own {ys : List Nat} {w w' : World} {g n cap : Nat} (hn : ys.length = n) (h : OwnF w' w.heap.size (.slice (some ⟨g, 0, none⟩) n cap) ys) (hb : Below w.heap.size w w') : GotF ys w (.returned (.slice (some ⟨g, 0, none⟩) n cap)) w' := ⟨_, rfl, h.new, hb⟩
theorem FRow.part {w : World} {xs : List Nat} {g o n cap : Nat} (h : FRow w (.slice (some ⟨g, o, none⟩) n cap) xs) (hn : xs.length = n) (i m c : Nat) (hi : i + m ≤ n) (hc : m ≤ c) (h0 : 0 < m) : FRow w (.slice (some ⟨g, o + i, none⟩) m c) (part xs i m) := by
  have hm := part_len xs i m (by omega)
  rcases h with ⟨⟨a, c', e⟩, h1⟩ | ⟨g', o', cap', e, hcap, hcell⟩
  · subst h1; simp at hn; omega
  · cases e
    refine .inr ⟨g, o + i, c, by rw [hm], by omega, fun k hk => ?_⟩
    rw [part_get xs i m k hk (by omega), Nat.add_assoc]
    exact hcell (i + k) (by omega)

theorem eql_nil (w : World) (a : Option Addr) (l c : Nat) : (binOp .eql 24 (.slice a l c) (.slice none 0 0)).run Try.prog w = .ok (.bool a.isNone) w := by
  simp only [binOp]
  simp [run_equal_slice_nil w 24 52 a l c Try.underlying24]
set_option maxHeartbeats 1000000 in
set_option maxRecDepth 100000 in
theorem clone_any (v : Value) (xs : List Nat) (w : World) (h : FRow w v xs) (h0 : 0 < xs.length) (hl : xs.length ≤ 4000000) :
    Calls Try.prog 65 #[v] w fun e w' => GotF xs w e w' := by
  rcases h with ⟨_, h1⟩ | ⟨g, o, cap, rfl, hcap, hcell⟩
  · subst h1; simp at h0
  · have HO := Lib.hid (OwnF.made0 w)
    have HB := Lib.hid ((Below.refl w.heap.size w).alloc (Nat.le_refl _) (.cells #[] 52))
    have HC := Lib.hid (fun i (hi : i < xs.length) => (show (w.alloc (.cells #[] 52)).cell? ⟨g, o + i, none⟩ = some (.float .f32 xs[i]) from (grown_of HB.out).cell (hcell i hi) (by simp)))
    have hnil : ∀ W, (binOp .eql 24 (.slice (some ⟨g, o, none⟩) xs.length cap) (.slice none 0 0)).run Try.prog W = .ok (.bool false) W := fun W => eql_nil W (some ⟨g, o, none⟩) xs.length cap
    clear hcell
    go_enter Try.func65, Try.ntmps65
    go_wp2_with (at_builtin; refine ownF_append rfl (.tmp 5) (.tmp 6) rfl w.heap.size _ [] xs rfl HO.out _ _ _ rfl HC.out h0 (by simp; omega) (by simp) ?_; intro g6 cap6 w6 ho6 hg6 hor6 hlt6)
    have HO6 := Lib.hid (show OwnF w6 w.heap.size (.slice (some ⟨g6, 0, none⟩) xs.length cap6) xs by simpa using ho6)
    have HB6 := Lib.hid (HB.out.grown hg6 HB.out.size (fun k hk => (HO.out.lt k hk).1))
    clear ho6 hg6 hor6
    go_wp2
    go_ret
    exact GotF.own rfl HO6.out HB6.out

theorem pulse_any (g o n cap : Nat) (w : World) (hn : 8 ≤ n) (hc : n ≤ cap) (hl : n ≤ 4000000) :
    Calls Try.prog 41 #[.slice (some ⟨g, o, none⟩) n cap] w fun e w' => e = .returned (.slice (some ⟨g, o, none⟩) 8 8) ∧ w = w' := by
  go_enter Try.func41, Try.ntmps41
  go_wp2
  go_ret
  exact ⟨rfl, rfl⟩
theorem burst_any (g o n cap : Nat) (w : World) (hn : 24 ≤ n) (hc : n ≤ cap) (hl : n ≤ 4000000) :
    Calls Try.prog 42 #[.slice (some ⟨g, o, none⟩) n cap] w fun e w' => e = .returned (.slice (some ⟨g, o + 8, none⟩) 16 16) ∧ w = w' := by
  go_enter Try.func42, Try.ntmps42
  go_wp2
  go_ret
  exact ⟨rfl, rfl⟩
theorem cells_any (g o n cap : Nat) (w : World) (hn : 28 ≤ n) (hc : n ≤ cap) (hl : n ≤ 4000000) :
    Calls Try.prog 43 #[.slice (some ⟨g, o, none⟩) n cap] w fun e w' => e = .returned (.slice (some ⟨g, o + 24, none⟩) (n - 24) (n - 24)) ∧ w = w' := by
  go_enter Try.func43, Try.ntmps43
  go_wp2
  go_ret
  exact ⟨rfl, rfl⟩
/-- The part of a line that a walk answers: nothing, if the line is not valid. -/
def lpart (xs : List Nat) (i m : Nat) : List Nat := if lineOk xs = true then part xs i m else []
theorem lpart_yes {xs : List Nat} (h : lineOk xs = true) (i m : Nat) : lpart xs i m = part xs i m := if_pos h
theorem lpart_no {xs : List Nat} (h : lineOk xs = false) (i m : Nat) : lpart xs i m = [] := if_neg (by rw [h]; decide)
theorem lpart_le (xs : List Nat) (i m : Nat) : (lpart xs i m).length ≤ xs.length := by
  unfold lpart part
  split
  · simp; omega
  · simp
/-- What a walk that cuts a line answers. -/
def CutsF (k : FuncId) (i : Nat) (m : Nat → Nat) : Prop := ∀ (g o n cap : Nat) (W : World), 28 ≤ n → n ≤ cap → n ≤ 4000000 →
  Calls Try.prog k #[.slice (some ⟨g, o, none⟩) n cap] W fun e w' => e = .returned (.slice (some ⟨g, o + i, none⟩) (m n) (m n)) ∧ W = w'
theorem pulse_cuts : CutsF 41 0 (fun _ => 8) := fun g o n cap W hn hc hl => pulse_any g o n cap W (by omega) hc hl
set_option maxHeartbeats 1000000 in
set_option maxRecDepth 100000 in
theorem partOf_pulse (v : Value) (xs : List Nat) (w : World) (h : FRow w v xs) (hl : xs.length ≤ 4000000) :
    Calls Try.prog 40 #[v, .func (.func 41) #[] #[]] w fun e w' => GotF (lpart xs 0 8) w e w' := by
  have HO := Lib.hid (lineOk_any v xs w h hl)
  cases ho : lineOk xs with
  | false =>
    rw [ho] at HO
    rw [lpart_no ho]
    clear h ho
    go_enter Try.func40, Try.ntmps40
    go_wp2_with fail
    refine HO.out.mono ?_
    rintro e w1 ⟨rfl, rfl⟩
    go_wp2
    go_ret
    exact GotF.mk (FNew.nil _ _) (Below.refl _ _)
  | true =>
    rw [ho] at HO
    rw [lpart_yes ho]
    have hlen := lineOk_len ho
    rcases h with ⟨_, h1⟩ | ⟨g, o, cap, rfl, hcap, hcell⟩
    · subst h1; simp at hlen
    · have hpos : 0 + 8 ≤ xs.length ∧ 0 < 8 := by have := hlen.2.1; constructor <;> omega
      have HR := Lib.hid (FRow.part (.inr ⟨g, o, cap, rfl, hcap, hcell⟩) rfl 0 8 8 hpos.1 (Nat.le_refl _) hpos.2)
      have hpl := part_len xs 0 8 hpos.1
      have HCL := fun hr => Lib.hid (clone_any (.slice (some ⟨g, o + 0, none⟩) 8 8) (part xs 0 8) w hr (by omega) (by omega))
      have HK := Lib.hid (pulse_cuts g o xs.length cap w hlen.2.1 hcap hl)
      clear hcell ho hpos hpl hlen
      go_enter Try.func40, Try.ntmps40
      go_wp2_with fail
      refine HO.out.mono ?_
      rintro e w1 ⟨rfl, rfl⟩
      go_wp2_with fail
      refine HK.out.mono ?_
      rintro e w1 ⟨rfl, rfl⟩
      go_wp2_with fail
      refine (HCL HR.out).out.mono ?_
      rintro e w1 ⟨v', rfl, hn', hb'⟩
      have HN := Lib.hid hn'
      clear hn'
      go_wp2
      go_ret
      exact GotF.mk HN.out hb'
set_option maxRecDepth 100000 in
theorem pulseOf_any (v : Value) (xs : List Nat) (w : World) (h : FRow w v xs) (hl : xs.length ≤ 4000000) :
    Calls Try.prog 15 #[v] w fun e w' => GotF (lpart xs 0 8) w e w' := by
  have HP := Lib.hid (partOf_pulse v xs w h hl)
  go_enter Try.func15, Try.ntmps15
  go_wp2_with fail
  refine HP.out.mono ?_
  rintro e w1 ⟨v', rfl, hn', hb'⟩
  have HN := Lib.hid hn'
  clear hn'
  go_wp2
  go_ret
  exact GotF.mk HN.out hb'
theorem burst_cuts : CutsF 42 8 (fun _ => 16) := fun g o n cap W hn hc hl => burst_any g o n cap W (by omega) hc hl
set_option maxHeartbeats 1000000 in
set_option maxRecDepth 100000 in
theorem partOf_burst (v : Value) (xs : List Nat) (w : World) (h : FRow w v xs) (hl : xs.length ≤ 4000000) :
    Calls Try.prog 40 #[v, .func (.func 42) #[] #[]] w fun e w' => GotF (lpart xs 8 16) w e w' := by
  have HO := Lib.hid (lineOk_any v xs w h hl)
  cases ho : lineOk xs with
  | false =>
    rw [ho] at HO
    rw [lpart_no ho]
    clear h ho
    go_enter Try.func40, Try.ntmps40
    go_wp2_with fail
    refine HO.out.mono ?_
    rintro e w1 ⟨rfl, rfl⟩
    go_wp2
    go_ret
    exact GotF.mk (FNew.nil _ _) (Below.refl _ _)
  | true =>
    rw [ho] at HO
    rw [lpart_yes ho]
    have hlen := lineOk_len ho
    rcases h with ⟨_, h1⟩ | ⟨g, o, cap, rfl, hcap, hcell⟩
    · subst h1; simp at hlen
    · have hpos : 8 + 16 ≤ xs.length ∧ 0 < 16 := by have := hlen.2.1; constructor <;> omega
      have HR := Lib.hid (FRow.part (.inr ⟨g, o, cap, rfl, hcap, hcell⟩) rfl 8 16 16 hpos.1 (Nat.le_refl _) hpos.2)
      have hpl := part_len xs 8 16 hpos.1
      have HCL := fun hr => Lib.hid (clone_any (.slice (some ⟨g, o + 8, none⟩) 16 16) (part xs 8 16) w hr (by omega) (by omega))
      have HK := Lib.hid (burst_cuts g o xs.length cap w hlen.2.1 hcap hl)
      clear hcell ho hpos hpl hlen
      go_enter Try.func40, Try.ntmps40
      go_wp2_with fail
      refine HO.out.mono ?_
      rintro e w1 ⟨rfl, rfl⟩
      go_wp2_with fail
      refine HK.out.mono ?_
      rintro e w1 ⟨rfl, rfl⟩
      go_wp2_with fail
      refine (HCL HR.out).out.mono ?_
      rintro e w1 ⟨v', rfl, hn', hb'⟩
      have HN := Lib.hid hn'
      clear hn'
      go_wp2
      go_ret
      exact GotF.mk HN.out hb'
set_option maxRecDepth 100000 in
theorem burstOf_any (v : Value) (xs : List Nat) (w : World) (h : FRow w v xs) (hl : xs.length ≤ 4000000) :
    Calls Try.prog 16 #[v] w fun e w' => GotF (lpart xs 8 16) w e w' := by
  have HP := Lib.hid (partOf_burst v xs w h hl)
  go_enter Try.func16, Try.ntmps16
  go_wp2_with fail
  refine HP.out.mono ?_
  rintro e w1 ⟨v', rfl, hn', hb'⟩
  have HN := Lib.hid hn'
  clear hn'
  go_wp2
  go_ret
  exact GotF.mk HN.out hb'
theorem cells_cuts : CutsF 43 24 (fun n => n - 24) := fun g o n cap W hn hc hl => cells_any g o n cap W (by omega) hc hl
set_option maxHeartbeats 1000000 in
set_option maxRecDepth 100000 in
theorem partOf_cells (v : Value) (xs : List Nat) (w : World) (h : FRow w v xs) (hl : xs.length ≤ 4000000) :
    Calls Try.prog 40 #[v, .func (.func 43) #[] #[]] w fun e w' => GotF (lpart xs 24 (xs.length - 24)) w e w' := by
  have HO := Lib.hid (lineOk_any v xs w h hl)
  cases ho : lineOk xs with
  | false =>
    rw [ho] at HO
    rw [lpart_no ho]
    clear h ho
    go_enter Try.func40, Try.ntmps40
    go_wp2_with fail
    refine HO.out.mono ?_
    rintro e w1 ⟨rfl, rfl⟩
    go_wp2
    go_ret
    exact GotF.mk (FNew.nil _ _) (Below.refl _ _)
  | true =>
    rw [ho] at HO
    rw [lpart_yes ho]
    have hlen := lineOk_len ho
    rcases h with ⟨_, h1⟩ | ⟨g, o, cap, rfl, hcap, hcell⟩
    · subst h1; simp at hlen
    · have hpos : 24 + (xs.length - 24) ≤ xs.length ∧ 0 < (xs.length - 24) := by have := hlen.2.1; constructor <;> omega
      have HR := Lib.hid (FRow.part (.inr ⟨g, o, cap, rfl, hcap, hcell⟩) rfl 24 (xs.length - 24) (xs.length - 24) hpos.1 (Nat.le_refl _) hpos.2)
      have hpl := part_len xs 24 (xs.length - 24) hpos.1
      have HCL := fun hr => Lib.hid (clone_any (.slice (some ⟨g, o + 24, none⟩) (xs.length - 24) (xs.length - 24)) (part xs 24 (xs.length - 24)) w hr (by omega) (by omega))
      have HK := Lib.hid (cells_cuts g o xs.length cap w hlen.2.1 hcap hl)
      clear hcell ho hpos hpl hlen
      go_enter Try.func40, Try.ntmps40
      go_wp2_with fail
      refine HO.out.mono ?_
      rintro e w1 ⟨rfl, rfl⟩
      go_wp2_with fail
      refine HK.out.mono ?_
      rintro e w1 ⟨rfl, rfl⟩
      go_wp2_with fail
      refine (HCL HR.out).out.mono ?_
      rintro e w1 ⟨v', rfl, hn', hb'⟩
      have HN := Lib.hid hn'
      clear hn'
      go_wp2
      go_ret
      exact GotF.mk HN.out hb'
set_option maxRecDepth 100000 in
theorem cellsOf_any (v : Value) (xs : List Nat) (w : World) (h : FRow w v xs) (hl : xs.length ≤ 4000000) :
    Calls Try.prog 17 #[v] w fun e w' => GotF (lpart xs 24 (xs.length - 24)) w e w' := by
  have HP := Lib.hid (partOf_cells v xs w h hl)
  go_enter Try.func17, Try.ntmps17
  go_wp2_with fail
  refine HP.out.mono ?_
  rintro e w1 ⟨v', rfl, hn', hb'⟩
  have HN := Lib.hid hn'
  clear hn'
  go_wp2
  go_ret
  exact GotF.mk HN.out hb'
set_option maxHeartbeats 1000000 in
set_option maxRecDepth 100000 in
theorem specPart_any (i m : Nat) (v : Value) (xs : List Nat) (w : World) (h : FRow w v xs) (hl : xs.length ≤ 4000000) (hm : 28 ≤ xs.length → i + m ≤ xs.length ∧ 0 < m) :
    Calls Try.prog 58 #[v, .int .i64 (i : Int), .int .i64 ((i + m : Nat) : Int)] w fun e w' => GotF (lpart xs i m) w e w' := by
  have HO := Lib.hid (specLineOk_any v xs w h hl)
  have HOW := Lib.hid (OwnF.made0 w)
  have HB := Lib.hid ((Below.refl w.heap.size w).alloc (Nat.le_refl _) (.cells #[] 52))
  cases ho : lineOk xs with
  | false =>
    rw [ho] at HO
    rw [lpart_no ho]
    clear h ho hm
    go_enter Try.func58, Try.ntmps58
    go_wp2_with fail
    refine HO.out.mono ?_
    rintro e w1 ⟨rfl, rfl⟩
    go_wp2
    go_ret
    exact GotF.own rfl HOW.out HB.out
  | true =>
    rw [ho] at HO
    rw [lpart_yes ho]
    have hlen := lineOk_len ho
    rcases h with ⟨_, h1⟩ | ⟨g, o, cap, rfl, hcap, hcell⟩
    · subst h1; simp at hlen
    · obtain ⟨hp1, hp2⟩ := hm hlen.2.1
      have HPL := Lib.hid (part_len xs i m hp1)
      have HC := Lib.hid (fun j (hj : j < (part xs i m).length) => (show (w.alloc (.cells #[] 52)).cell? ⟨g, o + i + j, none⟩ = some (.float .f32 (part xs i m)[j]) from by
        rw [part_get xs i m j hj (by have := HPL.out; omega), Nat.add_assoc]
        exact (grown_of HB.out).cell (hcell (i + j) (by have := HPL.out; omega)) (by simp)))
      clear hcell hm ho hlen
      generalize part xs i m = ys at *
      go_enter Try.func58, Try.ntmps58
      go_wp2_with fail
      refine HO.out.mono ?_
      rintro e w1 ⟨rfl, rfl⟩
      go_wp2_with (at_builtin; refine ownF_append rfl (.tmp 11) (.tmp 15) rfl w.heap.size _ [] ys rfl HOW.out g (o + i) (cap - i) (by rw [HPL.out]; show Value.slice _ (i + m - i) _ = _; rw [Nat.add_sub_cancel_left]) HC.out (by have := HPL.out; omega) (by have := HPL.out; simp; omega) (by simp) ?_; intro g6 cap6 w6 ho6 hg6 hor6 hlt6)
      have HO6 := Lib.hid (show OwnF w6 w.heap.size (.slice (some ⟨g6, 0, none⟩) ys.length cap6) ys by simpa using ho6)
      have HB6 := Lib.hid (HB.out.grown hg6 HB.out.size (fun k hk => (HOW.out.lt k hk).1))
      clear ho6 hg6 hor6
      go_wp2
      go_ret
      exact GotF.own rfl HO6.out HB6.out
theorem specPartNo_any (i j : Int) (v : Value) (xs : List Nat) (w : World) (h : FRow w v xs) (hl : xs.length ≤ 4000000) (ho : lineOk xs = false) :
    Calls Try.prog 58 #[v, .int .i64 i, .int .i64 j] w fun e w' => GotF [] w e w' := by
  have HO := Lib.hid (specLineOk_any v xs w h hl)
  have HOW := Lib.hid (OwnF.made0 w)
  have HB := Lib.hid ((Below.refl w.heap.size w).alloc (Nat.le_refl _) (.cells #[] 52))
  rw [ho] at HO
  clear h ho
  go_enter Try.func58, Try.ntmps58
  go_wp2_with fail
  refine HO.out.mono ?_
  rintro e w1 ⟨rfl, rfl⟩
  go_wp2
  go_ret
  exact GotF.own rfl HOW.out HB.out
theorem specPulse_any (v : Value) (xs : List Nat) (w : World) (h : FRow w v xs) (hl : xs.length ≤ 4000000) :
    Calls Try.prog 29 #[v] w fun e w' => GotF (lpart xs 0 8) w e w' := by
  have HP := Lib.hid (specPart_any 0 8 v xs w h hl (by omega))
  go_enter Try.func29, Try.ntmps29
  go_wp2_with fail
  refine HP.out.mono ?_
  rintro e w1 ⟨v', rfl, hn', hb'⟩
  have HN := Lib.hid hn'
  clear hn'
  go_wp2
  go_ret
  exact GotF.mk HN.out hb'
theorem specBurst_any (v : Value) (xs : List Nat) (w : World) (h : FRow w v xs) (hl : xs.length ≤ 4000000) :
    Calls Try.prog 32 #[v] w fun e w' => GotF (lpart xs 8 16) w e w' := by
  have HP := Lib.hid (specPart_any 8 16 v xs w h hl (by omega))
  have HH := fun W => Lib.hid (l04Head_any W)
  go_enter Try.func32, Try.ntmps32
  go_wp2_with fail
  refine (HH _).out.mono ?_
  rintro e w1 ⟨rfl, rfl⟩
  go_wp2_with fail
  refine HP.out.mono ?_
  rintro e w1 ⟨v', rfl, hn', hb'⟩
  have HN := Lib.hid hn'
  clear hn'
  go_wp2
  go_ret
  exact GotF.mk HN.out hb'
theorem specCells_any (v : Value) (xs : List Nat) (w : World) (h : FRow w v xs) (hl : xs.length ≤ 4000000) :
    Calls Try.prog 33 #[v] w fun e w' => GotF (lpart xs 24 (xs.length - 24)) w e w' := by
  by_cases h28 : 28 ≤ xs.length
  · have HP := Lib.hid (specPart_any 24 (xs.length - 24) v xs w h hl (by omega))
    rw [show ((24 + (xs.length - 24) : Nat) : Int) = (xs.length : Int) by omega] at HP
    have HH := fun W => Lib.hid (l04Head_any W)
    obtain ⟨a, c, rfl⟩ := h.lenv
    clear h
    go_enter Try.func33, Try.ntmps33
    go_wp2_with fail
    refine (HH _).out.mono ?_
    rintro e w1 ⟨rfl, rfl⟩
    go_wp2_with fail
    refine HP.out.mono ?_
    rintro e w1 ⟨v', rfl, hn', hb'⟩
    have HN := Lib.hid hn'
    clear hn'
    go_wp2
    go_ret
    exact GotF.mk HN.out hb'
  · have ho : lineOk xs = false := lineOk_no (lineLen_no (by omega))
    have HP := Lib.hid (specPartNo_any 24 xs.length v xs w h hl ho)
    rw [lpart_no ho]
    have HH := fun W => Lib.hid (l04Head_any W)
    obtain ⟨a, c, rfl⟩ := h.lenv
    clear h
    go_enter Try.func33, Try.ntmps33
    go_wp2_with fail
    refine (HH _).out.mono ?_
    rintro e w1 ⟨rfl, rfl⟩
    go_wp2_with fail
    refine HP.out.mono ?_
    rintro e w1 ⟨v', rfl, hn', hb'⟩
    have HN := Lib.hid hn'
    clear hn'
    go_wp2
    go_ret
    exact GotF.mk HN.out hb'
end Go.Proofs.Ytjccnmnhgahlfaa
