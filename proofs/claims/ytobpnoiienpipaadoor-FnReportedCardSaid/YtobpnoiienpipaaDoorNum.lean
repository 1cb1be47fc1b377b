/-
  What is proved: the walks of the functions of chapter 1 that write and read whole numbers.
  Conditions: the arguments are numbers of 64 bits, or strings of at most 1048576 bytes.
-/
import Derived.Test.YtobpnoiienpipaaDoorRows
import Derived.WalkKit
import Derived.WalkSpells
import Derived.WalkLawsBesides
import Derived.Lib.ItoaNum
import Derived.Lib.ItoaLen
namespace Go.Proofs.YtobpnoiienpipaaDoor
set_option linter.unusedVariables false
open Go.RowKit

theorem ret_int {k : IntKind} {a b : Int} (h : a = b) : Ending.returned (.int k a) = .returned (.int k b) := by rw [h]
theorem ret_str {a b : List UInt8} (h : a = b) : Ending.returned (.string ⟨a.toArray⟩) = .returned (.string ⟨b.toArray⟩) := by rw [h]

theorem l01Figure_any (x : Int) (w : World) (h0 : 0 ≤ x) (h1 : x ≤ 9) :
    Calls Tryd.prog 95 #[.int .i64 x] w fun e w' => e = .returned (.int .u8 (48 + x)) ∧ w = w' := by
  have hx : x < 10 := by omega
  go_enter Tryd.func95, Tryd.ntmps95
  go_wp2
  go_ret
  exact ⟨ret_int (by simp), rfl⟩

/-- A slice of one byte, just made, as a string. -/
@[go_sem] theorem conv_one (wx : World) (z : Int) : (convert 22 9 (.slice (some ⟨wx.heap.size, 0, none⟩) 1 1)).run Tryd.prog (wx.alloc (.cells #[.int .u8 z] 5)) = .ok (.string ⟨[UInt8.ofNat z.toNat].toArray⟩) (wx.alloc (.cells #[.int .u8 z] 5)) :=
  run_convert_bytes_arg _ _ _ Tryd.underlying22 Tryd.underlying5 _ 0 1 1 [z] rfl (fun i hi => by
    obtain rfl : i = 0 := by omega
    exact World.cell?_alloc_mark _ _ _ _ _) _ Tryd.underlying9
/-- The digits that are still to come of m. -/
def pre (m : Int) : List UInt8 := if m = 0 then [] else Lib.decDigits m.natAbs
def FR (n m : Int) (l : List UInt8) : Prop := Lib.decDigits n.natAbs = pre m ++ l
theorem decDigits_step (u : Nat) (h : u ≠ 0) : Lib.decDigits u = (if u / 10 = 0 then [] else Lib.decDigits (u / 10)) ++ [UInt8.ofNat (48 + u % 10)] := by
  rw [Lib.decDigits]
  by_cases h10 : u < 10
  · rw [dif_pos h10, if_pos (by omega), Nat.mod_eq_of_lt h10]; rfl
  · rw [dif_neg h10, if_neg (by omega)]
theorem bcat (a b : List UInt8) : (⟨a.toArray⟩ : ByteArray) ++ ⟨b.toArray⟩ = ⟨(a ++ b).toArray⟩ := by
  apply ByteArray.ext; simp [ByteArray.data_append]
theorem tdiv_abs (m : Int) : (m.tdiv 10).natAbs = m.natAbs / 10 := by rw [Int.natAbs_tdiv]; rfl
theorem tmod_abs (m : Int) : (m.tmod 10).natAbs = m.natAbs % 10 := by rw [Int.natAbs_tmod]; rfl
theorem dig_neg {m : Int} (h : m.tmod 10 < 0) : (48 + -m.tmod 10).toNat = 48 + m.natAbs % 10 := by have := tmod_abs m; omega
theorem dig_pos {m : Int} (h : 0 ≤ m.tmod 10) : (48 + m.tmod 10).toNat = 48 + m.natAbs % 10 := by have := tmod_abs m; omega
theorem FR.start (n : Int) (h : ¬ n = 0) : FR n n [] := by unfold FR pre; rw [if_neg h]; simp
theorem FR.step {n m : Int} {l : List UInt8} (h : FR n m l) (hm : ¬ m = 0) : FR n (m.tdiv 10) (UInt8.ofNat (48 + m.natAbs % 10) :: l) := by
  unfold FR at h ⊢
  rw [h]
  have e : (m.tdiv 10).natAbs = m.natAbs / 10 := by rw [Int.natAbs_tdiv]; rfl
  have hz : (m.tdiv 10 = 0) ↔ (m.natAbs / 10 = 0) := by omega
  unfold pre
  rw [if_neg hm, decDigits_step _ (by omega), e]
  by_cases hq : m.natAbs / 10 = 0
  · rw [if_pos hq, if_pos (hz.2 hq)]; simp
  · rw [if_neg hq, if_neg (fun h => hq (hz.1 h))]; simp
theorem FR.len {n m : Int} {l : List UInt8} (h : FR n m l) (h0 : -9223372036854775808 ≤ n) (h1 : n ≤ 9223372036854775807) : l.length ≤ 20 := by
  have h2 : (Lib.decDigits n.natAbs).length ≤ 20 := by rw [Lib.decDigits_length]; exact Lib.nDigits_le20 _ (by omega)
  unfold FR at h
  rw [h, List.length_append] at h2
  omega
theorem FR.done {n : Int} {l : List UInt8} (h : FR n 0 l) : l = Lib.decDigits n.natAbs := by
  unfold FR pre at h; rw [if_pos rfl] at h; simpa using h.symm
theorem itoa_neg {n : Int} (h : n < 0) : Lib.itoa n = 45 :: Lib.decDigits n.natAbs := by unfold Lib.itoa; rw [if_pos h]
theorem itoa_pos {n : Int} (h : ¬ n < 0) : Lib.itoa n = Lib.decDigits n.natAbs := by unfold Lib.itoa; rw [if_neg h]; congr 1; omega

set_option maxHeartbeats 400000 in
theorem specFormatInt_any (n : Int) (w : World) (h0 : -9223372036854775808 ≤ n) (h1 : n ≤ 9223372036854775807) :
    Calls Tryd.prog 68 #[.int .i64 n] w fun e w' => e = .returned (.string ⟨(Lib.itoa n).toArray⟩) ∧ Below w.heap.size w w' := by
  by_cases hn : n = 0
  · subst hn
    go_enter Tryd.func68, Tryd.ntmps68
    go_wp2
    go_ret
    exact ⟨ret_str (by decide +kernel), Below.refl _ _⟩
  · have hnb : (n == 0) = false := by simpa using hn
    have hs := FR.start n hn
    go_enter Tryd.func68, Tryd.ntmps68
    go_wp2
    go_loopw [0, 4, 5] (fun a s d wr => ∃ (m : Int) (l : List UInt8), -9223372036854775808 ≤ m ∧ m ≤ 9223372036854775807 ∧ FR n m l ∧ a = .int .i64 m ∧ s = .string ⟨l.toArray⟩ ∧ Below w.heap.size w wr) (fun a _ _ _ => (intOf a).natAbs)
    case atStart => exact ⟨n, [], h0, h1, hs, rfl, rfl, Below.refl _ _⟩
    case round =>
      obtain ⟨m, l, hm0, hm1, hfr, rfl, rfl, hb⟩ := hrel
      have hl := hfr.len h0 h1
      by_cases hm : m = 0
      · subst hm
        have hd := hfr.done
        have HD := Lib.hid hd
        clear hd hs hfr
        by_cases hneg : n < 0
        · go_wp2
          go_ret
          exact ⟨by rw [HD.out, itoa_neg hneg]; exact congrArg (fun x => Ending.returned (Value.string x)) (bcat [45] _), hb⟩
        · go_wp2
          go_ret
          exact ⟨by rw [itoa_pos (by omega), ← HD.out]; rfl, hb⟩
      · have hmb : (m != 0) = true := by simpa using hm
        have hst := hfr.step hm
        have ha0 : -9 ≤ m.tmod 10 := by have := Int.lt_tmod_of_pos m (show (0:Int) < 10 by decide); omega
        have ha1 : m.tmod 10 ≤ 9 := by have := Int.tmod_lt_of_pos m (show (0:Int) < 10 by decide); omega
        have hq := tdiv_abs m
        clear hfr
        go_wp2_with (go_at_call 95; refine (l01Figure_any _ _ (by omega) (by omega)).mono ?_; rintro e w' ⟨rfl, rfl⟩)
        all_goals
          refine ⟨⟨m.tdiv 10, _, by omega, by omega, hst, rfl, ?_, hb.alloc hb.size _⟩, by simp only [intOf]; omega⟩
        · rw [dig_neg (by assumption)]; exact congrArg Value.string (bcat [_] _)
        · rw [dig_pos (by assumption)]; exact congrArg Value.string (bcat [_] _)
end Go.Proofs.YtobpnoiienpipaaDoor
