/-
  What is proved: the walk of the law FnChained.
  Conditions: none beyond the argument's own.
-/
import Derived.Test.YtnedmhhodmmddaaLawPlainChannel
import Derived.Test.YtnedmhhodmmddaaChainC
namespace Go.Proofs.Ytnedmhhodmmddaa
set_option linter.unusedVariables false
open Go.RowKit
open Flt (Mag sumv subv mulv quov Q)
attribute [local go_sem] run_store_float run_store_complex unary_negf neg256

theorem leb_e {e x y : Nat} {a b : Int} (hx : Q e x a) (hy : Q e y b) (h : a ≤ b) : leb x y = true :=
  leb_q hx hy (by
    have h0 : (0 : Int) ≤ 2 ^ e := by rw [Flt.pow_cast]; exact Int.natCast_nonneg _
    exact Int.mul_le_mul_of_nonneg_right h h0)
theorem q_16 : Q 149 1098907648 16 := Flt.q_word (by decide) (show Ieee.single.read 1098907648 = .number false 8388608 (-19) by decide +kernel) (by decide +kernel)
theorem q_n16 : Q 149 3246391296 (-16) := Flt.q_word (by decide) (show Ieee.single.read 3246391296 = .number true 8388608 (-19) by decide +kernel) (by decide +kernel)
theorem q_c64 : Q 149 1115684864 64 := Flt.q_word (by decide) (show Ieee.single.read 1115684864 = .number false 8388608 (-17) by decide +kernel) (by decide +kernel)
theorem q_cn64 : Q 149 3263168512 (-64) := Flt.q_word (by decide) (show Ieee.single.read 3263168512 = .number true 8388608 (-17) by decide +kernel) (by decide +kernel)
theorem q_magn {e k x : Nat} {a : Int} (h : Q e x a) (hl : a.natAbs * 2 ^ e ≤ 2 ^ k) : Mag (k + 1) x := by
  obtain ⟨_, s, u, hx, ha⟩ := h
  exact Flt.mag_num hx (by rw [Flt.q_abs ha]; exact hl)
theorem mul_lim {n m e k : Nat} (h : n ≤ m) (hm : m * 2 ^ e ≤ 2 ^ k) : n * 2 ^ e ≤ 2 ^ k := Nat.le_trans (Nat.mul_le_mul_right _ h) hm
theorem pos_q {e x : Nat} {a : Int} (h : Q e x a) (h1 : 1 ≤ a) : Ieee.single.order 0 x = some .lt := by
  rw [(Q.zero e).order h, Flt.cmp_lt (by omega)]
theorem plain_valid {h : Chn} {α ω ξ η : Int} (hp : PlainH h α ω ξ η) : ChOk h ∧ MagH h := by
  obtain ⟨⟨qA, qO, qX, qY⟩, ⟨a1, a2⟩, hω, hξ, hη⟩ := hp
  have s1 := q_16.lift 2 (by decide)
  have s2 := q_n16.lift 2 (by decide)
  have s3 := q_c64.lift 3 (by decide)
  have s4 := q_cn64.lift 3 (by decide)
  exact ⟨⟨pos_q qA a1, leb_e qA s1 (by omega), leb_e s4 qO (by omega), leb_e qO s3 (by omega), leb_e s2 qX (by omega), leb_e qX s1 (by omega), leb_e s2 qY (by omega), leb_e qY s1 (by omega)⟩,
    ⟨(q_magn (k := 150) qA (mul_lim (m := 8) (by omega) (by decide +kernel))).mono (by decide), (q_magn (k := 151) qO (mul_lim (m := 32) (by omega) (by decide +kernel))).mono (by decide), (q_magn (k := 150) qX (mul_lim (m := 8) (by omega) (by decide +kernel))).mono (by decide), (q_magn (k := 150) qY (mul_lim (m := 8) (by omega) (by decide +kernel))).mono (by decide)⟩⟩
theorem chain_valid {h : Chn} {α ω ξ η : Int} (hq : QH 145 144 h α ω ξ η) (hα : 1 ≤ α ∧ α ≤ 64) (hω : ω.natAbs ≤ 384) (hξ : ξ.natAbs ≤ 128) (hη : η.natAbs ≤ 128) : ChOk h ∧ MagH h := by
  obtain ⟨qA, qO, qX, qY⟩ := hq
  obtain ⟨a1, a2⟩ := hα
  have s1 := q_16.lift 4 (by decide)
  have s2 := q_n16.lift 4 (by decide)
  have s3 := q_c64.lift 5 (by decide)
  have s4 := q_cn64.lift 5 (by decide)
  exact ⟨⟨pos_q qA a1, leb_e qA s1 (by omega), leb_e s4 qO (by omega), leb_e qO s3 (by omega), leb_e s2 qX (by omega), leb_e qX s1 (by omega), leb_e s2 qY (by omega), leb_e qY s1 (by omega)⟩,
    ⟨(q_magn (k := 151) qA (mul_lim (m := 64) (by omega) (by decide +kernel))).mono (by decide), (q_magn (k := 153) qO (mul_lim (m := 512) (by omega) (by decide +kernel))).mono (by decide), (q_magn (k := 152) qX (mul_lim (m := 128) (by omega) (by decide +kernel))).mono (by decide), (q_magn (k := 152) qY (mul_lim (m := 128) (by omega) (by decide +kernel))).mono (by decide)⟩⟩
theorem chainPlain_any {h k : Chn} {α ω ξ η α' ω' ξ' η' : Int} (hh : PlainH h α ω ξ η) (hk : PlainH k α' ω' ξ' η') (w : World) :
    Calls Try.prog 16 #[.agg #[.float .f32 h.A, .float .f32 h.O, .complex .f32 h.X h.Y], .agg #[.float .f32 k.A, .float .f32 k.O, .complex .f32 k.X k.Y]] w fun e w' => ChanA (fun c => c = chainH h k) w e w' := by
  obtain ⟨c1, m1⟩ := plain_valid hh
  obtain ⟨c2, m2⟩ := plain_valid hk
  obtain ⟨hq, hA, hO, hX, hY⟩ := chain_q hh hk
  obtain ⟨c3, m3⟩ := chain_valid hq hA hO hX hY
  have e1 := m1.a.mul m2.a (by decide) (by decide)
  have e2 := m2.a.mul m1.o (by decide) (by decide)
  have e3 := e2.2.add (m2.o.mono (by decide)) (by decide)
  exact chain_any h.A h.O h.X h.Y k.A k.O k.X k.Y _ _ _ _ _ w c1 c2 e1.1 e2.1 e3.1 (fun re im ht => TimesR.is m1.x m1.y m2.x m2.y (by decide) (by decide) ht) c3
theorem Src.half {w : World} {b len cap : Nat} {a : Option Addr} (h : Src w b a len cap) (c : Nat) : Src w b a (len - len / 2) c := by
  refine ⟨by have := h.1; omega, fun i hi => h.2 i (by omega)⟩
theorem Src.half2 {w : World} {b len cap : Nat} {a : Option Addr} (h : Src w b a len cap) (c : Nat) : Src w b (Option.map (fun x => x.add (len / 2)) a) (len - len / 2) c := by
  refine ⟨by have := h.1; omega, fun i hi => ?_⟩
  obtain ⟨g, off, z, h1, h2, h3, h4⟩ := h.2 (len / 2 + i) (by omega)
  refine ⟨g, off + len / 2, z, ?_, h2, h3, by rw [Nat.add_assoc]; exact h4⟩
  rw [h1]
  show some (Addr.add ⟨g, off, none⟩ (len / 2)) = _
  unfold Addr.add
  split <;> simp_all
theorem Src.cap {w : World} {b len cap : Nat} {a : Option Addr} (h : Src w b a len cap) (c : Nat) : Src w b a len c := h
set_option maxHeartbeats 4000000 in
set_option maxRecDepth 100000 in
theorem walk_FnChained (a0 : Option Addr) (len0 cap0 : Nat) (z0 : List Int) (w : World) (w0 : IsRow .u8 w a0 len0 cap0 z0) :
    Calls Try.prog 4 #[.slice a0 len0 cap0] w fun e w' => e = .returned (.bool true) ∧ Below w.heap.size w w' := by
  by_cases hbig : 1048576 < len0
  · have hbb : decide ((1048576 : Int) < len0) = true := by simp; omega
    have HB := Lib.hid (big_any a0 len0 cap0 w)
    rw [hbb] at HB
    clear hbb
    go_enter Try.func4, Try.ntmps4
    go_wp2_with fail
    refine HB.out.mono ?_
    rintro e w1 ⟨rfl, rfl⟩
    go_wp2
    go_ret
    exact ⟨rfl, Below.refl _ _⟩
  · have hbb : decide ((1048576 : Int) < len0) = false := by simp; omega
    have HB := Lib.hid (big_any a0 len0 cap0 w)
    rw [hbb] at HB
    have hs := w0.src (by omega)
    have HD := Lib.hid (drawCh_any a0 len0 cap0 w hs)
    have HS := Lib.hid hs
    clear hbb w0 hs
    go_enter Try.func4, Try.ntmps4
    go_wp2_with fail
    refine HB.out.mono ?_
    rintro e w1 ⟨rfl, rfl⟩
    go_wp2_with fail
    refine HD.out.mono ?_
    rintro e w1 ⟨A, O, X, Y, hp, rfl, hb1⟩
    have HP := Lib.hid hp
    clear hp HD HB
    have hA1 := LieC.new w1 A O X Y
    have hbA := hb1.alloc hb1.size (.cells #[.float .f32 A, .float .f32 O, .complex .f32 X Y] 33)
    have hS1 := HS.out.below hbA hbA.size
    have HS1 := Lib.hid (hS1.half 0)
    have HS2 := Lib.hid (hS1.half2 (cap0 - len0 / 2))
    have HA1 := Lib.hid hA1
    clear hA1 hS1
    go_wp2_with fail
    all_goals
      obtain ⟨xa, hxa⟩ : ∃ xa, w1.heap.size = xa := ⟨_, rfl⟩
      rw [hxa] at HA1
      try rw [hxa]
      generalize w1.alloc (.cells #[.float .f32 A, .float .f32 O, .complex .f32 X Y] 33) = wA at *
      first
      | refine (drawCh_any _ _ _ _ HS1.out).mono ?_
      | refine (drawCh_any _ _ _ _ HS2.out).mono ?_
      rintro e w2 ⟨A', O', X', Y', hp2, rfl, hb2⟩
      have HP2 := Lib.hid hp2
      have hbB := (Below.refl _ w2).alloc (Nat.le_refl _) (.cells #[.float .f32 A', .float .f32 O', .complex .f32 X' Y'] 33)
      have HA3 := Lib.hid ((HA1.out.below hb2).below hbB)
      have HB3 := Lib.hid (LieC.new w2 A' O' X' Y')
      have hb3 := below_trans (below_trans hbA hb2 hbA.size) hbB (below_trans hbA hb2 hbA.size).size
      have HDR := fun c => Lib.hid (drawPlain_any a0 len0 c _ ((HS.out.below hb3 hb3.size).cap c))
      clear HS1 HS2 hp2 HA1 hb2 hbB hbA hb1
      obtain ⟨xb, hxb⟩ : ∃ xb, w2.heap.size = xb := ⟨_, rfl⟩
      rw [hxb] at HB3
      go_wp2_with fail
      generalize w2.alloc (.cells #[.float .f32 A', .float .f32 O', .complex .f32 X' Y'] 33) = wB at *
      refine (HDR _).out.mono ?_
      rintro e w3 ⟨v, cs, ⟨hl1, hl2⟩, hpr, rfl, hr, hb4⟩
      have hb4' := below_trans hb3 hb4 hb3.size
      have HA4 := Lib.hid (HA3.out.below hb4)
      have HB4 := Lib.hid (HB3.out.below hb4)
      have HE := Lib.hid (encode_odd v cs w3 hr hpr.fit (by omega))
      rw [if_pos (hpr.rok hl1 (by omega))] at HE
      have HPR := Lib.hid hpr.cj
      have hcl : (cs.map cj).length = cs.length := List.length_map _
      clear HDR hpr hr HA3 HB3 hb4 hb3
      go_wp2_with fail
      refine HE.out.mono ?_
      rintro e w4 ⟨v4, rfl, hn4, hb5⟩
      have hb5' := below_trans hb4' hb5 hb4'.size
      have HA5 := Lib.hid (HA4.out.below hb5)
      have HB5 := Lib.hid (HB4.out.below hb5)
      obtain ⟨α, ω, ξ, η, ha, _⟩ := HP.out
      obtain ⟨α', ω', ξ', η', hbq, _⟩ := HP2.out
      obtain ⟨t1, t2, t3, t4⟩ := chained ha hbq HPR.out
      have hso := plain_ok HPR.out (by omega) (by omega)
      have hlen : (enc (cs.map cj)).length = 4 * cs.length := by rw [enc_len, hcl]
      obtain ⟨xs, hxs⟩ : ∃ xs, enc (cs.map cj) = xs := ⟨_, rfl⟩
      rw [hxs] at hn4 hso t1 t2 t3 t4 hlen
      have l1 := txs_len ⟨A, O, X, Y⟩ cs.length xs hlen
      have l2 := txs_len ⟨A', O', X', Y'⟩ cs.length (txs ⟨A, O, X, Y⟩ xs) (by rw [l1]; exact hlen)
      have l3 := txs_len (chainH ⟨A, O, X, Y⟩ ⟨A', O', X', Y'⟩) cs.length xs hlen
      have so1 : sampOk (txs ⟨A, O, X, Y⟩ xs) = true := sampOk_mk (by rw [l1]; omega) t1
      have so2 : sampOk (txs ⟨A', O', X', Y'⟩ (txs ⟨A, O, X, Y⟩ xs)) = true := sampOk_mk (by rw [l2, l1]; omega) t2
      have so3 : sampOk (txs (chainH ⟨A, O, X, Y⟩ ⟨A', O', X', Y'⟩) xs) = true := sampOk_mk (by rw [l3]; omega) t3
      obtain ⟨c1, m1⟩ := plain_valid ha
      obtain ⟨c2, m2⟩ := plain_valid hbq
      obtain ⟨hq, hqA, hqO, hqX, hqY⟩ := chain_q ha hbq
      obtain ⟨c3, m3⟩ := chain_valid hq hqA hqO hqX hqY
      have hcn := fun W => chainPlain_any ha hbq W
      obtain ⟨⟨da, dO, dx, dy⟩, hd⟩ : ∃ d, chainH ⟨A, O, X, Y⟩ ⟨A', O', X', Y'⟩ = d := ⟨_, rfl⟩
      rw [hd] at t4 so3 c3 m3
      simp only [hd] at hcn
      have HT1 := fun W hr => Lib.hid (transmit_any A O X Y v4 xs W hr c1 m1 hso so1)
      have HT2 := fun v W hr => Lib.hid (transmit_any A' O' X' Y' v (txs ⟨A, O, X, Y⟩ xs) W hr c2 m2 so1 so2)
      have HT3 := fun W hr => Lib.hid (transmit_any da dO dx dy v4 xs W hr c3 m3 hso so3)
      have HCN := fun W => Lib.hid (hcn W)
      have HEQ := Lib.hid t4
      have HL := Lib.hid (show (txs ⟨A', O', X', Y'⟩ (txs ⟨A, O, X, Y⟩ xs)).length ≤ 100 by rw [l2, l1]; omega)
      have HR4 := Lib.hid hn4.row
      clear hn4 hso t1 t2 t3 t4 hlen l1 l2 l3 so1 so2 so3 c1 m1 c2 m2 c3 m3 hq hqA hqO hqX hqY hxs hcl hcn hd HA4 HB4 HE hb5 hb4' ha hbq HPR
      obtain ⟨p0, p1, p2, _, _, _⟩ := HA5.out.all
      go_wp2_with fail
      refine (HT1 _ HR4.out).out.mono ?_
      rintro e w5 ⟨v5, y5, rfl, hy5, hn5, hb6⟩
      subst hy5
      have hb6' := below_trans hb5' hb6 hb5'.size
      have HA6 := Lib.hid (HA5.out.below hb6)
      have HB6 := Lib.hid (HB5.out.below hb6)
      have HR6 := Lib.hid (HR4.out.below hb6)
      have HX6 := Lib.hid hn5.row
      clear p0 p1 p2 HA5 HB5 HR4 hn5 hb6 hb5' HT1
      obtain ⟨q0, q1, q2, _, _, _⟩ := HB6.out.all
      go_wp2_with fail
      refine (HT2 _ _ HX6.out).out.mono ?_
      rintro e w6 ⟨v6, y6, rfl, hy6, hn6, hb7⟩
      subst hy6
      have hb7' := below_trans hb6' hb7 hb6'.size
      have HA7 := Lib.hid (HA6.out.below hb7)
      have HB7 := Lib.hid (HB6.out.below hb7)
      have HR7 := Lib.hid (HR6.out.below hb7)
      have HY7 := Lib.hid hn6.row
      clear q0 q1 q2 HA6 HB6 HR6 hn6 hb7 hb6' HT2 HX6
      obtain ⟨p0, p1, p2, _, _, _⟩ := HA7.out.all
      obtain ⟨q0, q1, q2, _, _, _⟩ := HB7.out.all
      go_wp2_with fail
      refine (HCN _).out.mono ?_
      rintro e w7 ⟨a7, o7, x7, y7, h7, rfl, hb8⟩
      obtain ⟨rfl, rfl, rfl, rfl⟩ : a7 = da ∧ o7 = dO ∧ x7 = dx ∧ y7 = dy := by simpa using h7
      have hbD := (Below.refl _ w7).alloc (Nat.le_refl _) (.cells #[.float .f32 a7, .float .f32 o7, .complex .f32 x7 y7] 33)
      have hb8a := below_trans hb7' hb8 hb7'.size
      have hb8' := below_trans hb8a hbD hb8a.size
      have HR8 := Lib.hid ((HR7.out.below hb8).below hbD)
      have HY8 := Lib.hid ((HY7.out.below hb8).below hbD)
      obtain ⟨r0, r1, r2, _, _, _⟩ := (LieC.new w7 a7 o7 x7 y7).all
      clear p0 p1 p2 q0 q1 q2 HA7 HB7 HR7 HY7 hb8 hb8a hbD hb7' HCN h7
      go_wp2_with fail
      generalize w7.alloc (.cells #[.float .f32 a7, .float .f32 o7, .complex .f32 x7 y7] 33) = w8 at *
      refine (HT3 _ HR8.out).out.mono ?_
      rintro e w9 ⟨v9, y9, rfl, hy9, hn9, hb9⟩
      have hb9' := below_trans hb8' hb9 hb8'.size
      have HY9 := Lib.hid (HY8.out.below hb9)
      have HZ9 := Lib.hid (show FRow w9 v9 (txs ⟨a7, o7, x7, y7⟩ xs) from (show y9 = _ from hy9) ▸ hn9.row)
      have HQ := Lib.hid (equals_any v6 v9 _ _ w9 HY9.out HZ9.out HEQ.out.1 HEQ.out.2 (by have := HL.out; omega))
      clear hy9 hn9 HT3 HR8 HY8 hb9 hb8' r0 r1 r2
      go_wp2_with fail
      refine HQ.out.mono ?_
      rintro e w10 ⟨rfl, q10, rfl⟩
      go_wp2
      go_ret
      exact ⟨rfl, belowDN hb9' _⟩
end Go.Proofs.Ytnedmhhodmmddaa
