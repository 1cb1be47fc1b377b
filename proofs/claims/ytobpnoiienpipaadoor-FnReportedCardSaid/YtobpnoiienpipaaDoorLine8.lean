/-
  What is proved: a drawn command is a short text.
  Conditions: the cursor lies.
-/
import Derived.Test.YtobpnoiienpipaaDoorPkDrS
import Derived.Test.YtobpnoiienpipaaDoorPkDec
import Derived.Test.YtobpnoiienpipaaDoorSplit
namespace Go.Proofs.YtobpnoiienpipaaDoor
set_option linter.unusedVariables false
open Go.RowKit

theorem cur_below {w w' : World} {b : Nat} (hc : Cur w b) (hb : Below w.heap.size w w') : Cur w' b := hc.grown (row := none) ⟨hb.os, hb.tape, hb.output, hb.size, fun k hk _ => hb.block k hk⟩ (fun _ h => by cases h)
theorem grown_below {w w1 w' : World} {b : Nat} (hg : w.grownBy w1 (some b)) (hb : Below w1.heap.size w1 w') : w.grownBy w' (some b) := hg.trans ⟨hb.os, hb.tape, hb.output, hb.size, fun k hk _ => hb.block k hk⟩
theorem itoa_short {n : Int} (h0 : 0 ≤ n) (h1 : n ≤ 1000000) : (Lib.itoa n).length ≤ 20 := by
  obtain ⟨m, rfl⟩ := Int.eq_ofNat_of_zero_le h0
  rw [itoa_nat]
  rw [Lib.decDigits_length]
  exact Lib.nDigits_le20 _ (by omega)
set_option maxRecDepth 100000 in
set_option maxHeartbeats 2000000 in
theorem l08Line_any (b : Nat) (w : World) (hc : Cur w b) :
    Calls Tryd.prog 44 #[.pointer (some ⟨b, 0, none⟩)] w fun e w' => TextPost (fun s => s.size ≤ 400) b w e w' := by
  have hcl := hc.lt
  have HB := fun W hc n h0 h1 => Lib.hid (l01Below_any b n W hc h0 h1)
  have HF := fun (n : Int) W (h0 : -9223372036854775808 ≤ n) (h1 : n ≤ 9223372036854775807) => Lib.hid (specFormatFixed_any n W h0 h1)
  have HI := fun (n : Int) W (h0 : -9223372036854775808 ≤ n) (h1 : n ≤ 9223372036854775807) => Lib.hid (specFormatInt_any n W h0 h1)
  go_enter Tryd.func44, Tryd.ntmps44
  go_wp2_with fail
  refine (HB w hc 8 (by decide) (by decide)).out.mono ?_
  rintro e w1 ⟨x, hx, _, rfl, hc1, hg1⟩
  have hx := hx (by decide)
  rcases (by omega : x = 0 ∨ x = 1 ∨ x = 2 ∨ x = 3 ∨ x = 4 ∨ x = 5 ∨ x = 6 ∨ x = 7) with rfl | rfl | rfl | rfl | rfl | rfl | rfl | rfl
  · go_wp2_with fail
    refine (HB w1 hc1 20 (by decide) (by decide)).out.mono ?_
    rintro e w2 ⟨y, hy, _, rfl, hc2, hg2⟩
    have hy := hy (by decide)
    have hl := ffx_len (125 * (y : Int))
    go_wp2_with fail
    refine (HF (125 * (y : Int)) _ (by omega) (by omega)).out.mono ?_
    rintro e w3 ⟨rfl, hb3⟩
    have hc3 := cur_below hc2 hb3
    have hg3 := grown_below (hg1.trans hg2) hb3
    generalize ffx (125 * (y : Int)) = t at *
    clear hb3 hx hy
    go_wp2
    go_ret
    exact TextPost.mk (by rw [ByteArray.size_append]; show 11 + t.toArray.size ≤ _; simp; omega) hc3 hg3
  · go_wp2_with fail
    refine (HB w1 hc1 20 (by decide) (by decide)).out.mono ?_
    rintro e w2 ⟨y, hy, _, rfl, hc2, hg2⟩
    have hy := hy (by decide)
    have hl := ffx_len (125 * (y : Int))
    go_wp2_with fail
    refine (HF (125 * (y : Int)) _ (by omega) (by omega)).out.mono ?_
    rintro e w3 ⟨rfl, hb3⟩
    have hc3 := cur_below hc2 hb3
    have hg3 := grown_below (hg1.trans hg2) hb3
    generalize ffx (125 * (y : Int)) = t at *
    clear hb3 hx hy
    go_wp2
    go_ret
    exact TextPost.mk (by rw [ByteArray.size_append]; show 11 + t.toArray.size ≤ _; simp; omega) hc3 hg3
  · go_wp2_with fail
    refine (HB w1 hc1 60 (by decide) (by decide)).out.mono ?_
    rintro e w2 ⟨y, hy, _, rfl, hc2, hg2⟩
    have hy := hy (by decide)
    have hl := ffx_len (-1000 * (y : Int))
    go_wp2_with fail
    refine (HF (-1000 * (y : Int)) _ (by omega) (by omega)).out.mono ?_
    rintro e w3 ⟨rfl, hb3⟩
    have hc3 := cur_below hc2 hb3
    have hg3 := grown_below (hg1.trans hg2) hb3
    generalize ffx (-1000 * (y : Int)) = t at *
    clear hb3 hx hy
    go_wp2
    go_ret
    exact TextPost.mk (by rw [ByteArray.size_append]; show 6 + t.toArray.size ≤ _; simp; omega) hc3 hg3
  · go_wp2_with fail
    refine (HB w1 hc1 12 (by decide) (by decide)).out.mono ?_
    rintro e w2 ⟨y, hy, _, rfl, hc2, hg2⟩
    have hy := hy (by decide)
    have hl := ffx_len (100 * (y : Int))
    go_wp2_with fail
    refine (HF (100 * (y : Int)) _ (by omega) (by omega)).out.mono ?_
    rintro e w3 ⟨rfl, hb3⟩
    have hc3 := cur_below hc2 hb3
    have hg3 := grown_below (hg1.trans hg2) hb3
    generalize ffx (100 * (y : Int)) = t at *
    clear hb3 hx hy
    go_wp2
    go_ret
    exact TextPost.mk (by rw [ByteArray.size_append]; show 8 + t.toArray.size ≤ _; simp; omega) hc3 hg3
  · go_wp2_with fail
    refine (HB w1 hc1 66 (by decide) (by decide)).out.mono ?_
    rintro e w2 ⟨y, hy, _, rfl, hc2, hg2⟩
    have hy := hy (by decide)
    have hl := itoa_short (n := (y : Int)) (by omega) (by omega)
    go_wp2_with fail
    refine (HI (y : Int) _ (by omega) (by omega)).out.mono ?_
    rintro e w3 ⟨rfl, hb3⟩
    have hc3 := cur_below hc2 hb3
    have hg3 := grown_below (hg1.trans hg2) hb3
    generalize Lib.itoa (y : Int) = t at *
    clear hb3
    go_wp2_with fail
    refine (HB w3 hc3 18 (by decide) (by decide)).out.mono ?_
    rintro e w4 ⟨z, hz, _, rfl, hc4, hg4⟩
    have hz := hz (by decide)
    have hl2 := itoa_short (n := 4 * (z : Int)) (by omega) (by omega)
    go_wp2_with fail
    refine (HI (4 * (z : Int)) _ (by omega) (by omega)).out.mono ?_
    rintro e w5 ⟨rfl, hb5⟩
    have hc5 := cur_below hc4 hb5
    have hg5 := grown_below (hg3.trans hg4) hb5
    generalize Lib.itoa (4 * (z : Int)) = t2 at *
    clear hb5 hx hy hz
    go_wp2
    go_ret
    exact TextPost.mk (by simp only [ByteArray.size_append]; show 5 + t.toArray.size + 1 + t2.toArray.size ≤ _; simp; omega) hc5 hg5
  · have HS := Lib.hid (Strs.lit (P := fun z => z.size ≤ 400) w1 9 [⟨#[]⟩, ⟨#[115, 105, 122, 101, 32, 52]⟩, ⟨#[115, 105, 122, 101, 32, 52, 32, 53]⟩, ⟨#[115, 108, 105, 99, 101]⟩, ⟨#[115, 108, 105, 99, 101, 32, 49, 48, 50, 53, 46, 48, 48, 48]⟩, ⟨#[107, 105, 108, 108, 101, 114, 32, 45, 48, 46, 48, 48, 49]⟩, ⟨#[115, 97, 116, 117, 114, 97, 116, 105, 111, 110, 32, 49, 54, 46, 48, 48, 49]⟩, ⟨#[104, 117, 101, 32, 49, 46, 48, 48, 48]⟩, ⟨#[32, 115, 108, 105, 99, 101, 32, 45, 49, 46, 48, 48, 48, 32]⟩, ⟨#[107, 105, 108, 108, 101, 114, 32, 49]⟩, ⟨#[115, 105, 122, 101, 32, 48, 52, 32, 52]⟩] (by decide))
    go_wp2_with fail
    refine (l01Pick_any (fun z => z.size ≤ 400) b _ 11 11 _ (hc1.alloc _) (by decide) (by decide) (by have := hg1.size; omega) (by decide) HS.out).mono ?_
    rintro e w5 ⟨z, hz, rfl, hc5, hg5⟩
    go_wp2
    go_ret
    exact TextPost.mk hz hc5 (hg1.trans ((World.grownBy_alloc w1 _ _).trans hg5))
  · go_wp2_with fail
    refine (HB w1 hc1 17000 (by decide) (by decide)).out.mono ?_
    rintro e w2 ⟨y, hy, _, rfl, hc2, hg2⟩
    have hy := hy (by decide)
    have hl := ffx_len ((y : Int))
    go_wp2_with fail
    refine (HF ((y : Int)) _ (by omega) (by omega)).out.mono ?_
    rintro e w3 ⟨rfl, hb3⟩
    have hc3 := cur_below hc2 hb3
    have hg3 := grown_below (hg1.trans hg2) hb3
    generalize ffx ((y : Int)) = t at *
    clear hb3 hx hy
    go_wp2
    go_ret
    exact TextPost.mk (by rw [ByteArray.size_append]; show 11 + t.toArray.size ≤ _; simp; omega) hc3 hg3
  · go_wp2_with fail
    refine (HB w1 hc1 17000 (by decide) (by decide)).out.mono ?_
    rintro e w2 ⟨y, hy, _, rfl, hc2, hg2⟩
    have hy := hy (by decide)
    have hl := ffx_len ((y : Int))
    go_wp2_with fail
    refine (HF ((y : Int)) _ (by omega) (by omega)).out.mono ?_
    rintro e w3 ⟨rfl, hb3⟩
    have hc3 := cur_below hc2 hb3
    have hg3 := grown_below (hg1.trans hg2) hb3
    generalize ffx ((y : Int)) = t at *
    clear hb3 hx hy
    go_wp2
    go_ret
    exact TextPost.mk (by rw [ByteArray.size_append]; show 11 + t.toArray.size ≤ _; simp; omega) hc3 hg3
end Go.Proofs.YtobpnoiienpipaaDoor
