/-
  What is proved: the walk of the law FnAlone.
  Conditions: none beyond the arguments' own.
-/
import Derived.Test.YtgecclccmmcdoaaLawTaken
import Derived.Test.YtgecclccmmcdoaaLawBursts
import Derived.Test.YtgecclccmmcdoaaImplAlone
namespace Go.Proofs.Ytgecclccmmcdoaa
set_option linter.unusedVariables false
open Go.RowKit
attribute [local go_sem] run_store_float run_store_complex unary_negf neg256

theorem lineL_cells (cs : List C3) (odd : Bool) : part (lineL cs odd) 24 ((lineL cs odd).length - 24) = enc (oddRow cs odd) := by
  have hb : (List.replicate 8 3263168512 ++ enc (oddRow (bcells 4) odd)).length = 24 := by
    rw [List.length_append, List.length_replicate, enc_len, oddRow_len, bcells_len]
  unfold part
  rw [List.take_of_length_le (by rw [List.length_drop]; exact Nat.le_refl _)]
  show List.drop 24 ((List.replicate 8 3263168512 ++ enc (oddRow (bcells 4) odd)) ++ enc (oddRow cs odd)) = _
  rw [List.drop_append_of_le_length (by omega), List.drop_of_length_le (by omega), List.nil_append]
/-- A plain line, decoded alone, is the row of which it was made. -/
theorem alone_line {cs l : List C3} {odd ok : Bool} (hp : PlainR cs) (h1 : 1 ≤ cs.length) (h6 : cs.length ≤ 6) (h : AloneRR (lineL cs odd) odd l ok) : ok = true ∧ l.length = cs.length ∧ Alike l cs := by
  have ho := lineL_ok hp h1 (by omega) odd
  rcases h with ⟨_, hd⟩ | ⟨h2, _⟩
  · rw [lpart_yes ho, lineL_cells] at hd
    obtain ⟨ds, e1, _, _, rfl, rfl⟩ := hd
    have hel : (enc (oddRow cs odd)).length % 4 = 0 := by rw [enc_len]; omega
    obtain ⟨t1, t2, t3⟩ := taken odd hp h1 h6 (e1 hel)
    rw [t1]
    exact ⟨rfl, by cases odd <;> simp [t2], by simpa using t3⟩
  · rw [ho] at h2; cases h2
set_option maxHeartbeats 4000000 in
theorem walk_FnAlone (a0 : Option Addr) (len0 cap0 : Nat) (z0 : List Int) (w : World) (w0 : IsRow .u8 w a0 len0 cap0 z0) :
    Calls Try.prog 4 #[.slice a0 len0 cap0] w fun e w' => e = .returned (.bool true) ∧ Below w.heap.size w w' := by
  by_cases hbig : 1048576 < len0
  · have hbb : decide ((1048576 : Int) < len0) = true := by simp; omega
    have HB := Lib.hid (big_any a0 len0 cap0 w)
    rw [hbb] at HB
    clear hbb
    go_enter Try.func4, Try.ntmps4
    go_wp2_with fail
    refine HB.out.mono ?_
    rintro e w1 ⟨rfl, rfl⟩
    go_wp2
    go_ret
    exact ⟨rfl, Below.refl _ _⟩
  · have hbb : decide ((1048576 : Int) < len0) = false := by simp; omega
    have HB := Lib.hid (big_any a0 len0 cap0 w)
    rw [hbb] at HB
    have HD := Lib.hid (drawPlain_any a0 len0 cap0 w (w0.src (by omega)))
    clear hbb w0
    go_enter Try.func4, Try.ntmps4
    go_wp2_with fail
    refine HB.out.mono ?_
    rintro e w1 ⟨rfl, rfl⟩
    go_wp2_with fail
    refine HD.out.mono ?_
    rintro e w1 ⟨v, cs, ⟨hl1, hl6⟩, hp, rfl, hr, hb1⟩
    obtain ⟨av, cv, rfl⟩ := RowV.lenv hr
    have HP := Lib.hid hp
    have hlit := heap_alloc_new w1 (.cells #[.bool false, .bool true] 4)
    have l0 : (w1.alloc (.cells #[.bool false, .bool true] 4)).cell? ⟨w1.heap.size, 0, none⟩ = some (.bool false) := (cell_of_row _ _ 0 _ _ _ hlit).trans rfl
    have l1 : (w1.alloc (.cells #[.bool false, .bool true] 4)).cell? ⟨w1.heap.size, 1, none⟩ = some (.bool true) := (cell_of_row _ _ 1 _ _ _ hlit).trans rfl
    have hbA := hb1.alloc hb1.size (.cells #[.bool false, .bool true] 4)
    have HRA := Lib.hid (hr.below ((Below.refl w1.heap.size w1).alloc (Nat.le_refl _) (.cells #[.bool false, .bool true] 4)))
    have HL0 := Lib.hid l0
    have HL1 := Lib.hid l1
    clear hr hp HD HB hlit l0 l1
    go_wp2
    generalize w1.alloc (.cells #[.bool false, .bool true] 4) = w2 at *
    go_loopw [14] (fun i wr => ∃ k : Nat, k ≤ 2 ∧ i = .int .i64 (k : Int) ∧ Below w2.heap.size w2 wr) (fun i _ => 2 - (intOf i).toNat)
    case atStart => exact ⟨0, Nat.zero_le _, rfl, Below.refl _ _⟩
    case round =>
      obtain ⟨k, hk, rfl, hb⟩ := hrel
      by_cases hlt : k < 2
      · obtain ⟨odd, hodd⟩ : ∃ odd : Bool, wr.cell? ⟨w1.heap.size, k, none⟩ = some (.bool odd) := by
          rcases (by omega : k = 0 ∨ k = 1) with rfl | rfl
          · exact ⟨false, (grown_of hb).cell HL0.out (by simp)⟩
          · exact ⟨true, (grown_of hb).cell HL1.out (by simp)⟩
        have HE := Lib.hid (makeLine_any _ cs odd wr (HRA.out.below hb) HP.out.fit (HP.out.rok hl1 (by omega)))
        have HLL := Lib.hid (show (lineL cs odd).length ≤ 4000000 by rw [lineL_len]; omega)
        go_wp2_with fail
        refine HE.out.mono ?_
        rintro e w3 ⟨v3, rfl, hn3, hb3⟩
        obtain ⟨a3, c3, hv3⟩ := hn3.row.lenv
        have HAL := Lib.hid (alone_any v3 (lineL cs odd) odd w3 hn3.row HLL.out)
        have hb03 := below_trans hb hb3 hb.size
        clear hn3 HE
        subst hv3
        go_wp2_with fail
        refine HAL.out.mono ?_
        rintro e w4 ⟨v4, l, ok, rfl, hal, hn4, hb4⟩
        obtain ⟨rfl, hll, hak⟩ := alone_line HP.out hl1 hl6 hal
        have hb04 := below_trans hb03 hb4 hb03.size
        have HEQ := Lib.hid (equalRow_any v4 (.slice av cs.length cv) l cs w4 hn4.row (HRA.out.below hb04) (by omega) hak)
        obtain ⟨a4, c4, hv4⟩ := RowV.lenv hn4.row
        subst hv4
        clear hal hn4 hak HAL hll
        go_wp2_with fail
        refine HEQ.out.mono ?_
        rintro e w5 ⟨rfl, hb5⟩
        have hb05 := below_trans hb04 hb5 hb04.size
        clear hb3 hb4 hb5 hb03 hb04 HEQ
        go_wp2
        go_roundw
        case rel => exact ⟨k + 1, by omega, by go_num, hb05⟩
        case measure => simp [intOf]; omega
      · go_wp2
        go_ret
        exact ⟨rfl, below_trans hbA hb hbA.size⟩
end Go.Proofs.Ytgecclccmmcdoaa
