/-
  What is proved: what the drawing function of lines answers.
  Conditions: the bytes that it draws from can be read.
-/
import Derived.Test.YtakephomkapmjaaDoorDrawS
import Derived.Deep.Cut
namespace Go.Proofs.YtakephomkapmjaaDoor
set_option linter.unusedVariables false
open Go.RowKit

theorem l01Long_int (n x : Int) (w : World) (h0 : 0 ≤ n) (h1 : n ≤ 1000000) (hx0 : 0 ≤ x) (hx : x ≤ 255) :
    Calls Tryd.prog 33 #[.int .i64 n, .int .u8 x] w fun e w' => LongPost n.toNat w e w' := by
  obtain ⟨m, rfl⟩ := Int.eq_ofNat_of_zero_le h0
  obtain ⟨y, rfl⟩ := Int.eq_ofNat_of_zero_le hx0
  exact l01Long_any m y w (by omega) (by omega)
theorem mul_small (x y : Nat) (hx : x < 2) (hy : y < 3) : 0 ≤ (x : Int) * (y : Int) ∧ (x : Int) * (y : Int) ≤ 2 := by
  rcases (by omega : x = 0 ∨ x = 1) with rfl | rfl
  · simp
  · simp; omega
theorem sz_app (a b : ByteArray) : (a ++ b).size = a.size + b.size := ByteArray.size_append

set_option maxHeartbeats 4000000 in
set_option maxRecDepth 100000 in
theorem drawSplitFields_any (a : Option Addr) (len cap : Nat) (w : World) (hs : Src w w.heap.size a len cap) :
    Calls Tryd.prog 18 #[.slice a len cap] w fun e w' => DrawS 10000 w e w' := by
  have HN := Lib.hid (l01New_any a len cap w hs)
  clear hs
  go_enter Tryd.func18, Tryd.ntmps18
  go_wp2_with fail
  refine HN.out.mono ?_
  rintro e w1 ⟨rfl, hc1, hg1⟩
  have HG1 := Lib.hid hg1
  clear hg1 HN
  go_wp2_with fail
  refine (l01Below_any _ _ _ hc1 (by decide) (by decide)).mono ?_
  rintro e w2 ⟨n0, hn0, _, rfl, hc2, hg2⟩
  have hn0 := hn0 (by decide)
  go_wp2_with fail
  refine (l01Once_any _ _ _ hc2 (by decide) (by decide)).mono ?_
  rintro e w3 ⟨t, rfl, hc3, hg3⟩
  have hgA := hg2.trans hg3
  clear hg2 hg3 hc1 hc2
  -- how many fields: some number up to 25
  cases t
  case' false =>
    go_wp2
    generalize hN : (n0 : Int) = N
    have hN0 : 0 ≤ N := by omega
    have hN1 : N ≤ 25 := by omega
    clear hN hn0
  case' true =>
    go_wp2_with fail
    refine (l01Below_any _ _ _ hc3 (by decide) (by decide)).mono ?_
    rintro e w3 ⟨n1, hn1, _, rfl, hc3, hg4⟩
    have hn1 := hn1 (by decide)
    have hgA := hgA.trans hg4
    go_wp2
    generalize hN : 24 + (n1 : Int) = N
    have hN0 : 0 ≤ N := by omega
    have hN1 : N ≤ 25 := by omega
    clear hN hn1 hg4 hn0
  all_goals
    go_loopw [5, 6] (fun s i wr => ∃ (j : Nat) (x : ByteArray), (j : Int) ≤ N ∧ i = .int .i64 (j : Int) ∧ s = .string x ∧ x.size ≤ 8 * j ∧ Cur wr w.heap.size ∧ w1.grownBy wr (some w.heap.size)) (fun _ i _ => (N - intOf i).toNat)
    case atStart => exact ⟨0, ⟨#[]⟩, by omega, rfl, rfl, by show 0 ≤ _; omega, hc3, hgA⟩
    case round =>
      obtain ⟨j, x, hj, rfl, rfl, hx, hcr, hgr⟩ := hrel
      have hx2 : x.size ≤ 300 := by omega
      by_cases hlt : (j : Int) < N
      · by_cases hj0 : j = 0
        · have hjd : decide (0 < (j : Int)) = false := by simp; omega
          go_wp2_with fail
          refine (l01Once_any _ _ _ hcr (by decide) (by decide)).mono ?_
          rintro e wr ⟨t, rfl, hcr, hgt⟩
          have hgr := hgr.trans hgt
          cases t
          · have hx : x.size ≤ 8 * j + 3 := by omega
            go_wp2
            go_loopw [5, 7] (fun s i wr => ∃ (k : Nat) (z : ByteArray), k ≤ 5 ∧ i = .int .i64 (k : Int) ∧ s = .string z ∧ z.size ≤ 8 * j + 3 + k ∧ Cur wr w.heap.size ∧ w1.grownBy wr (some w.heap.size)) (fun _ i _ => 5 - (intOf i).toNat)
            case atStart => exact ⟨0, x, by omega, rfl, rfl, hx, hcr, hgr⟩
            case round =>
              obtain ⟨k, z, hk, rfl, rfl, hz, hcr, hgr⟩ := hrel
              have hz3 : z.size ≤ 400 := by omega
              go_wp2_with fail
              refine (l01Below_any _ _ _ hcr (by decide) (by decide)).mono ?_
              rintro e wr ⟨y, hy, _, rfl, hcr, hgy⟩
              have hy := hy (by decide)
              have hgr := hgr.trans hgy
              by_cases hky : k ≤ y
              · go_wp2_with fail
                refine (l01Below_any _ _ _ hcr (by decide) (by decide)).mono ?_
                rintro e wr ⟨y2, hy2, _, rfl, hcr, hgy2⟩
                have hy2 := hy2 (by decide)
                have hgr := hgr.trans hgy2
                go_wp2
                go_roundw
                case rel => exact ⟨k + 1, _, by omega, by go_num, rfl, by rw [sz_app]; show z.size + 1 ≤ _; omega, hcr.alloc _, hgr.trans (World.grownBy_alloc _ _ _)⟩
                case measure => simp [intOf]; omega
              · go_wp2
                go_roundw
                case rel => exact ⟨j + 1, z, by omega, by go_num, rfl, by omega, hcr, hgr⟩
                case measure => simp [intOf]; omega
          · go_wp2_with fail
            refine (l01Below_any _ _ _ hcr (by decide) (by decide)).mono ?_
            rintro e wr ⟨y1, hy1, _, rfl, hcr, hgy1⟩
            have hy1 := hy1 (by decide)
            have hgr := hgr.trans hgy1
            go_wp2_with fail
            refine (l01Below_any _ _ _ hcr (by decide) (by decide)).mono ?_
            rintro e wr ⟨y2, hy2, _, rfl, hcr, hgy2⟩
            have hy2 := hy2 (by decide)
            have hgr := hgr.trans hgy2
            obtain ⟨hm0, hm1⟩ := mul_small y1 y2 (by omega) (by omega)
            go_wp2_with fail
            refine (l01Long_int _ _ _ (by omega) (by omega) (by decide) (by decide)).mono ?_
            rintro e wr ⟨s2, hs2, rfl, hgl⟩
            have hcr := hcr.grown hgl (fun _ h => by cases h)
            have hgr := hgr.trans (hgl.but _)
            have hs2 : s2.size ≤ 3 := by omega
            have hx := (show (x ++ s2).size ≤ 8 * j + 3 by rw [sz_app]; omega)
            clear hm0 hm1
            go_upto_region 11 with (fail)
            generalize x ++ s2 = x at *
            go_wp2
            go_loopw [5, 7] (fun s i wr => ∃ (k : Nat) (z : ByteArray), k ≤ 5 ∧ i = .int .i64 (k : Int) ∧ s = .string z ∧ z.size ≤ 8 * j + 3 + k ∧ Cur wr w.heap.size ∧ w1.grownBy wr (some w.heap.size)) (fun _ i _ => 5 - (intOf i).toNat)
            case atStart => exact ⟨0, x, by omega, rfl, rfl, hx, hcr, hgr⟩
            case round =>
              obtain ⟨k, z, hk, rfl, rfl, hz, hcr, hgr⟩ := hrel
              have hz3 : z.size ≤ 400 := by omega
              go_wp2_with fail
              refine (l01Below_any _ _ _ hcr (by decide) (by decide)).mono ?_
              rintro e wr ⟨y, hy, _, rfl, hcr, hgy⟩
              have hy := hy (by decide)
              have hgr := hgr.trans hgy
              by_cases hky : k ≤ y
              · go_wp2_with fail
                refine (l01Below_any _ _ _ hcr (by decide) (by decide)).mono ?_
                rintro e wr ⟨y2, hy2, _, rfl, hcr, hgy2⟩
                have hy2 := hy2 (by decide)
                have hgr := hgr.trans hgy2
                go_wp2
                go_roundw
                case rel => exact ⟨k + 1, _, by omega, by go_num, rfl, by rw [sz_app]; show z.size + 1 ≤ _; omega, hcr.alloc _, hgr.trans (World.grownBy_alloc _ _ _)⟩
                case measure => simp [intOf]; omega
              · go_wp2
                go_roundw
                case rel => exact ⟨j + 1, z, by omega, by go_num, rfl, by omega, hcr, hgr⟩
                case measure => simp [intOf]; omega
        · have hjd : decide (0 < (j : Int)) = true := by simp; omega
          go_wp2_with fail
          refine (l01Below_any _ _ _ hcr (by decide) (by decide)).mono ?_
          rintro e wr ⟨y1, hy1, _, rfl, hcr, hgy1⟩
          have hy1 := hy1 (by decide)
          have hgr := hgr.trans hgy1
          go_wp2_with fail
          refine (l01Below_any _ _ _ hcr (by decide) (by decide)).mono ?_
          rintro e wr ⟨y2, hy2, _, rfl, hcr, hgy2⟩
          have hy2 := hy2 (by decide)
          have hgr := hgr.trans hgy2
          obtain ⟨hm0, hm1⟩ := mul_small y1 y2 (by omega) (by omega)
          go_wp2_with fail
          refine (l01Long_int _ _ _ (by omega) (by omega) (by decide) (by decide)).mono ?_
          rintro e wr ⟨s2, hs2, rfl, hgl⟩
          have hcr := hcr.grown hgl (fun _ h => by cases h)
          have hgr := hgr.trans (hgl.but _)
          have hs2 : s2.size ≤ 3 := by omega
          have hx := (show (x ++ s2).size ≤ 8 * j + 3 by rw [sz_app]; omega)
          clear hm0 hm1
          go_upto_region 11 with (fail)
          generalize x ++ s2 = x at *
          go_wp2
          go_loopw [5, 7] (fun s i wr => ∃ (k : Nat) (z : ByteArray), k ≤ 5 ∧ i = .int .i64 (k : Int) ∧ s = .string z ∧ z.size ≤ 8 * j + 3 + k ∧ Cur wr w.heap.size ∧ w1.grownBy wr (some w.heap.size)) (fun _ i _ => 5 - (intOf i).toNat)
          case atStart => exact ⟨0, x, by omega, rfl, rfl, hx, hcr, hgr⟩
          case round =>
            obtain ⟨k, z, hk, rfl, rfl, hz, hcr, hgr⟩ := hrel
            have hz3 : z.size ≤ 400 := by omega
            go_wp2_with fail
            refine (l01Below_any _ _ _ hcr (by decide) (by decide)).mono ?_
            rintro e wr ⟨y, hy, _, rfl, hcr, hgy⟩
            have hy := hy (by decide)
            have hgr := hgr.trans hgy
            by_cases hky : k ≤ y
            · go_wp2_with fail
              refine (l01Below_any _ _ _ hcr (by decide) (by decide)).mono ?_
              rintro e wr ⟨y2, hy2, _, rfl, hcr, hgy2⟩
              have hy2 := hy2 (by decide)
              have hgr := hgr.trans hgy2
              go_wp2
              go_roundw
              case rel => exact ⟨k + 1, _, by omega, by go_num, rfl, by rw [sz_app]; show z.size + 1 ≤ _; omega, hcr.alloc _, hgr.trans (World.grownBy_alloc _ _ _)⟩
              case measure => simp [intOf]; omega
            · go_wp2
              go_roundw
              case rel => exact ⟨j + 1, z, by omega, by go_num, rfl, by omega, hcr, hgr⟩
              case measure => simp [intOf]; omega
      · go_wp2_with fail
        refine (l01Below_any _ _ _ hcr (by decide) (by decide)).mono ?_
        rintro e wr ⟨y, hy, _, rfl, hcr, hgy⟩
        have hgr := hgr.trans hgy
        clear hy
        by_cases h0 : y = 0
        · subst h0
          have HS := Lib.hid (Strs.lit (P := fun z => z.size ≤ 10) wr 9 [⟨#[32]⟩, ⟨#[32, 32]⟩, ⟨#[9]⟩, ⟨#[10]⟩, ⟨#[127]⟩, ⟨#[233]⟩] (by decide))
          go_wp2_with fail
          refine (l01Pick_any (fun z => z.size ≤ 10) _ _ 6 6 _ (hcr.alloc _) (by decide) (by decide) (by have := hcr.lt; omega) (by decide) HS.out).mono ?_
          rintro e wz ⟨z, hz, rfl, hc5, hg5⟩
          have hgr := hgr.trans ((World.grownBy_alloc wr _ _).trans hg5)
          go_wp2
          go_ret
          exact DrawS.mk (by rw [sz_app]; omega) (drawn HG1.out hgr)
        · have hb0 : ((y : Int) == 0) = false := by simp; omega
          by_cases h1 : y = 1
          · subst h1
            by_cases h6 : x.size < 600
            · go_wp2_with fail
              refine (l01Below_any _ _ _ hcr (by decide) (by decide)).mono ?_
              rintro e wr ⟨y2, hy2, _, rfl, hcr, hgy2⟩
              have hy2 := hy2 (by decide)
              have hgr := hgr.trans hgy2
              go_wp2_with fail
              refine (l01Long_int _ _ _ (by omega) (by omega) (by decide) (by decide)).mono ?_
              rintro e wr ⟨s2, hs2, rfl, hgl⟩
              have hgr := hgr.trans (hgl.but _)
              have hs2 : s2.size ≤ 601 := by omega
              go_wp2
              go_ret
              exact DrawS.mk (by rw [sz_app]; omega) (drawn HG1.out hgr)
            · exfalso; omega
          · have hb1 : ((y : Int) == 1) = false := by simp; omega
            clear h0 h1
            go_wp2
            go_ret
            exact DrawS.mk (by omega) (drawn HG1.out hgr)
end Go.Proofs.YtakephomkapmjaaDoor
