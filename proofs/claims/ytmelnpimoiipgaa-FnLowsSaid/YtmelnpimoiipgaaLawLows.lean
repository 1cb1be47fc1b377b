/-
  What is proved: the walk of the law FnLows.
  Conditions: none beyond the argument's own.
-/
import Derived.Test.YtmelnpimoiipgaaDraw6
import Derived.Test.YtmelnpimoiipgaaPkStarts
import Derived.Test.YtmelnpimoiipgaaImplLows
namespace Go.Proofs.Ytmelnpimoiipgaa
set_option linter.unusedVariables false
open Go.RowKit
attribute [local go_sem] run_store_float run_store_complex unary_negf neg256

theorem lit5 (W : World) : FRow (W.alloc (.cells #[.float .f32 3239051264, .float .f32 3239051264, .float .f32 3239051264, .float .f32 3239051264, .float .f32 3239051264] 25)) (.slice (some ⟨W.heap.size, 0, none⟩) 5 5) [3239051264, 3239051264, 3239051264, 3239051264, 3239051264] :=
  .inr ⟨_, 0, 5, rfl, Nat.le_refl _, fun i hi => by
    have h5 : i = 0 ∨ i = 1 ∨ i = 2 ∨ i = 3 ∨ i = 4 := by have : i < 5 := hi; omega
    have hn := heap_alloc_new W (.cells #[.float .f32 3239051264, .float .f32 3239051264, .float .f32 3239051264, .float .f32 3239051264, .float .f32 3239051264] 25)
    rcases h5 with rfl | rfl | rfl | rfl | rfl <;> exact (cell_of_row _ _ _ _ _ _ hn).trans rfl⟩
theorem lows5 : (lows [3239051264, 3239051264, 3239051264, 3239051264, 3239051264] 3231711232).length = 1 := by decide +kernel
theorem run_box {W : World} {b l : Nat} : (W.alloc (.cells #[.int .i64 (b : Int), .int .i64 (l : Int)] 31)).cell? ⟨W.heap.size, 0, none⟩ = some (.int .i64 (b : Int)) ∧ (W.alloc (.cells #[.int .i64 (b : Int), .int .i64 (l : Int)] 31)).cell? ⟨W.heap.size, 1, none⟩ = some (.int .i64 (l : Int)) := by
  have hn := heap_alloc_new W (.cells #[.int .i64 (b : Int), .int .i64 (l : Int)] 31)
  exact ⟨(cell_of_row _ _ _ _ _ _ hn).trans rfl, (cell_of_row _ _ _ _ _ _ hn).trans rfl⟩
theorem thawed {W : World} {x : Nat} {c : Array Value} {t : TypeId} (h : W.heap[x]? = some (.cells c t (0, 0))) (j : Nat) : W.frozen? ⟨x, j, none⟩ = false := by simp [World.frozen?, h]
theorem run_box0 (W : World) : (W.alloc (.cells #[.int .i64 0, .int .i64 0] 31)).cell? ⟨W.heap.size, 0, none⟩ = some (.int .i64 0) ∧ (W.alloc (.cells #[.int .i64 0, .int .i64 0] 31)).cell? ⟨W.heap.size, 1, none⟩ = some (.int .i64 0) ∧ (W.alloc (.cells #[.int .i64 0, .int .i64 0] 31)).frozen? ⟨W.heap.size, 0, none⟩ = false ∧ (W.alloc (.cells #[.int .i64 0, .int .i64 0] 31)).frozen? ⟨W.heap.size, 1, none⟩ = false := by
  have hn := heap_alloc_new W (.cells #[.int .i64 0, .int .i64 0] 31)
  exact ⟨(cell_of_row _ _ _ _ _ _ hn).trans rfl, (cell_of_row _ _ _ _ _ _ hn).trans rfl, thawed hn 0, thawed hn 1⟩
set_option maxHeartbeats 8000000 in
set_option maxRecDepth 100000 in
theorem walk_FnLows (a0 : Option Addr) (len0 cap0 : Nat) (z0 : List Int) (w : World) (w0 : IsRow .u8 w a0 len0 cap0 z0) :
    Calls Try.prog 3 #[.slice a0 len0 cap0] w fun e w' => e = .returned (.bool true) ∧ Below w.heap.size w w' := by
  by_cases hbig : 1048576 < len0
  · have hbb : decide ((1048576 : Int) < len0) = true := by simp; omega
    have HB := Lib.hid (big_any a0 len0 cap0 w)
    rw [hbb] at HB
    clear hbb
    go_enter Try.func3, Try.ntmps3
    go_wp2_with fail
    refine HB.out.mono ?_
    rintro e w1 ⟨rfl, rfl⟩
    go_wp2
    go_ret
    exact ⟨rfl, Below.refl _ _⟩
  · have hbb : decide ((1048576 : Int) < len0) = false := by simp; omega
    have HB := Lib.hid (big_any a0 len0 cap0 w)
    rw [hbb] at HB
    have HD := Lib.hid (drawLows_any a0 len0 cap0 w (w0.src (by omega)))
    clear hbb w0
    go_enter Try.func3, Try.ntmps3
    go_wp2_with fail
    refine HB.out.mono ?_
    rintro e w1 ⟨rfl, rfl⟩
    go_wp2_with fail
    refine HD.out.mono ?_
    rintro e w1 ⟨v, xs, s, hl, rfl, hr, hb1⟩
    have HL := Lib.hid (lows_any v xs s w1 hr (by omega))
    have HR := Lib.hid hr
    obtain ⟨av, cv, hav⟩ := hr.lenv
    subst hav
    clear hr HD HB
    go_wp2_with fail
    refine HL.out.mono ?_
    rintro e w2 ⟨v2, rfl, ho2, hb2⟩
    have hb12 := below_trans hb1 hb2 hb1.size
    obtain ⟨ta, tc, hvs, hcs⟩ := (HR.out.below hb2).any
    cases hvs
    obtain ⟨a2, c2, rfl, hcr⟩ := runs_any ho2.row
    have HCS := Lib.hid hcs
    have HCR := Lib.hid hcr
    have HOK := Lib.hid (lows_ok (xs := xs) (s := s))
    have HEND := Lib.hid (lows_end (xs := xs) (s := s))
    have HEK := Lib.hid (fun k h => endK_lt (xs := xs) (s := s) (k := k) h)
    have HEB := Lib.hid (fun k (h : k < (lows xs s).length) => endK_succ (rs := lows xs s) h)
    have hRL := lows_len xs s
    clear hcs hcr ho2 HL HR hb1 hb2
    generalize lows xs s = R at HCR HOK HEND HEK HEB hRL ⊢
    go_wp2
    go_loopw [6, 7] (fun endv kv wr => ∃ k : Nat, k ≤ R.length ∧ kv = .int .i64 (k : Int) ∧ endv = .int .i64 (endK R k) ∧ Below w.heap.size w wr ∧ Below w2.heap.size w2 wr) (fun _ kv _ => R.length - (intOf kv).toNat)
    case atStart => exact ⟨0, Nat.zero_le _, rfl, rfl, hb12, Below.refl _ _⟩
    case round =>
      obtain ⟨k, hk, rfl, rfl, hb, hb2⟩ := hrel
      by_cases hlt : k < R.length
      · obtain ⟨g2, o2, rfl, hcap2, hq0, hq1⟩ := HCR.out k hlt
        have hc0 := (grown_of hb2).cell hq0 (by simp)
        have hc1 := (grown_of hb2).cell hq1 (by simp)
        have hok := HOK.out R[k] (List.getElem_mem hlt)
        have hfit := (HEND.out R[k] (List.getElem_mem hlt)).2
        have hfive := (HEND.out R[k] (List.getElem_mem hlt)).1
        have hek := HEK.out k hlt
        have HEQ := Lib.hid (HEB.out k hlt)
        clear hq0 hq1
        generalize R[k] = r at *
        obtain ⟨b, l⟩ := r
        simp only at hok hfit hfive hek hc0 hc1 HEQ
        have HOKR := Lib.hid hok
        obtain ⟨z0, z1, f0, f1⟩ := run_box0 wr
        obtain ⟨d0, d1⟩ := run_box (W := wr) (b := b) (l := l)
        have HSC := Lib.hid (fun i (hi : i < xs.length) => HCS.out i hi)
        have hbN := hb.alloc hb.size (.cells #[.int .i64 (b : Int), .int .i64 (l : Int)] 31)
        have hbN2 := hb2.alloc hb2.size (.cells #[.int .i64 (b : Int), .int .i64 (l : Int)] 31)
        have hfb : decide ((b : Int) ≤ endK R k) = false := decide_eq_false (by omega)
        clear hok hek
        go_wp2
        generalize wr.alloc (.cells #[.int .i64 (b : Int), .int .i64 (l : Int)] 31) = wx at *
        go_loop [9] (fun iv => ∃ i : Nat, b ≤ i ∧ i ≤ b + l ∧ iv = .int .i64 (i : Int)) (fun iv => b + l - (intOf iv).toNat)
        case atStart => exact ⟨b, Nat.le_refl _, by omega, rfl⟩
        case round =>
          obtain ⟨i, hi1, hi2, rfl⟩ := hrel
          by_cases hil : i < b + l
          · have hix : i < xs.length := by omega
            obtain ⟨g1, o1, rfl, hcap1, hs0⟩ := HSC.out i hix
            have hs1 := (grown_of hbN2).cell hs0 (by simp)
            have hlow := HOKR.out.all i hi1 hil
            rw [low_leb hix] at hlow
            clear hs0
            generalize xs[i] = z at *
            have hq : (FloatKind.f32.format.order z s == some .lt || FloatKind.f32.format.order z s == some .eq) = true := hlow
            clear hlow
            go_wp2
            go_round
            case rel => exact ⟨i + 1, by omega, by omega, by go_num⟩
            case measure => simp [intOf]; omega
          · have hie : i = b + l := by omega
            have HEK2 := Lib.hid (show endK R (k + 1) = (b : Int) + (l : Int) from HEQ.out)
            clear hi1 hi2 hie
            by_cases hb0 : 0 < b
            · have hbx : b - 1 < xs.length := by omega
              obtain ⟨g1, o1, rfl, hcap1, hs0⟩ := HSC.out (b - 1) hbx
              have hs1 := (grown_of hbN2).cell hs0 (by simp)
              have hl1 := HOKR.out.before hb0
              rw [show ((b, l) : R2).1 - 1 = b - 1 from rfl, low_leb hbx] at hl1
              clear hs0
              generalize xs[b - 1] = z1 at *
              have hq1 : (FloatKind.f32.format.order z1 s == some .lt || FloatKind.f32.format.order z1 s == some .eq) = false := hl1
              have hb1 : decide ((0 : Int) < (b : Int)) = true := decide_eq_true (by omega)
              have hn1 : ((b : Int) - 1).toNat = b - 1 := by omega
              have hi0 : (0 : Int) ≤ (b : Int) - 1 := by omega
              have hi1 : (b : Int) - 1 < (xs.length : Int) := by omega
              clear hl1
              by_cases hbe : b + l < xs.length
              · obtain ⟨g3, o3, e3, hcap3, hs3⟩ := HSC.out (b + l) hbe
                cases e3
                have hs3' := (grown_of hbN2).cell hs3 (by simp)
                have hl3 := HOKR.out.behind
                rw [show ((b, l) : R2).1 + ((b, l) : R2).2 = b + l from rfl, low_leb hbe] at hl3
                clear hs3
                generalize xs[b + l] = z3 at *
                have hq3 : (FloatKind.f32.format.order z3 s == some .lt || FloatKind.f32.format.order z3 s == some .eq) = false := hl3
                have hb3 : decide ((b : Int) + (l : Int) < (xs.length : Int)) = true := decide_eq_true (by omega)
                have hn3 : ((b : Int) + (l : Int)).toNat = b + l := by omega
                clear hl3
                go_wp2
                go_roundw
                case rel => exact ⟨k + 1, by omega, by go_num, by rw [HEK2.out], hbN, hbN2⟩
                case measure => simp [intOf]; omega
              · have hb3 : decide ((b : Int) + (l : Int) < (xs.length : Int)) = false := decide_eq_false (by omega)
                go_wp2
                go_roundw
                case rel => exact ⟨k + 1, by omega, by go_num, by rw [HEK2.out], hbN, hbN2⟩
                case measure => simp [intOf]; omega
            · have hb1 : decide ((0 : Int) < (b : Int)) = false := decide_eq_false (by omega)
              by_cases hbe : b + l < xs.length
              · obtain ⟨g3, o3, rfl, hcap3, hs3⟩ := HSC.out (b + l) hbe
                have hs3' := (grown_of hbN2).cell hs3 (by simp)
                have hl3 := HOKR.out.behind
                rw [show ((b, l) : R2).1 + ((b, l) : R2).2 = b + l from rfl, low_leb hbe] at hl3
                clear hs3
                generalize xs[b + l] = z3 at *
                have hq3 : (FloatKind.f32.format.order z3 s == some .lt || FloatKind.f32.format.order z3 s == some .eq) = false := hl3
                have hb3 : decide ((b : Int) + (l : Int) < (xs.length : Int)) = true := decide_eq_true (by omega)
                have hn3 : ((b : Int) + (l : Int)).toNat = b + l := by omega
                clear hl3
                go_wp2
                go_roundw
                case rel => exact ⟨k + 1, by omega, by go_num, by rw [HEK2.out], hbN, hbN2⟩
                case measure => simp [intOf]; omega
              · have hb3 : decide ((b : Int) + (l : Int) < (xs.length : Int)) = false := decide_eq_false (by omega)
                go_wp2
                go_roundw
                case rel => exact ⟨k + 1, by omega, by go_num, by rw [HEK2.out], hbN, hbN2⟩
                case measure => simp [intOf]; omega
      · have HL5 := Lib.hid (lit5 wr)
        have HLW := fun W h => Lib.hid (lows_any (.slice (some ⟨wr.heap.size, 0, none⟩) 5 5) [3239051264, 3239051264, 3239051264, 3239051264, 3239051264] 3231711232 W h (by decide))
        go_wp2_with fail
        refine (HLW _ HL5.out).out.mono ?_
        rintro e w7 ⟨v7, rfl, ho7, hb7⟩
        obtain ⟨a7, c7, hv7, _⟩ := runs_any ho7.row
        rw [lows5] at hv7
        subst hv7
        have hb8 := below_trans (hb.alloc hb.size _) hb7 (by have := hb.size; simp; omega)
        clear ho7 hb7
        go_wp2
        go_ret
        exact ⟨rfl, hb8⟩
end Go.Proofs.Ytmelnpimoiipgaa
