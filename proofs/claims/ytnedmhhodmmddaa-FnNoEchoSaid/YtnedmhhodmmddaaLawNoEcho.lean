/-
  What is proved: the walk of the law FnNoEcho.
  Conditions: none beyond the argument's own.
-/
import Derived.Test.YtnedmhhodmmddaaEchoW
import Derived.Test.YtnedmhhodmmddaaEchoM
import Derived.Test.YtnedmhhodmmddaaSpecEcho
import Derived.Test.YtnedmhhodmmddaaEquals
namespace Go.Proofs.Ytnedmhhodmmddaa
set_option linter.unusedVariables false
open Go.RowKit
open Flt (Mag sumv subv mulv quov)
attribute [local go_sem] run_store_float run_store_complex unary_negf neg256

/-- A sample and itself once more. -/
theorem twice_one {x m r : Nat} (hx : fin1 x = true) (hm : Res .mul 1065353216 x m) (hr : Res .add x m r) : ∃ t, floatBits .add .f32 x x = some t ∧ FloatKind.f32.format.order r t = some .eq := by
  have hlim : ∃ s u, Flt.Num Ieee.single x s u ∧ u ≤ 2 ^ 159 := by
    unfold fin1 lo1 hi1 at hx
    simp only [Bool.and_eq_true] at hx
    exact lim_of (s := false) (u := 0) num_k2 num_nk2 hx.1 hx.2
  obtain ⟨s, u, h1, hu⟩ := hlim
  have h2 := Flt.rep_num h1
  obtain ⟨C, hC, hC2⟩ : ∃ C, Flt.cap Ieee.single = C ∧ C = 277 := ⟨_, rfl, Flt.cap32⟩
  have h3 : u < 2 ^ Flt.cap Ieee.single := by
    rw [hC]
    exact Nat.lt_of_le_of_lt hu (Nat.pow_lt_pow_right (by decide) (by omega))
  obtain ⟨m', em, hn⟩ := Flt.mul_num Flt.fine32 h1 Flt.num_one u (by rw [Flt.unit32]) h2 h3
  have em' : floatBits .mul .f32 x 1065353216 = some m' := em
  obtain rfl := res_some hm.mul_comm em'
  rw [Bool.xor_false] at hn
  have e2 : (Flt.sg s u + Flt.sg s u).natAbs = u * 2 ^ 1 := by unfold Flt.sg; cases s <;> simp <;> omega
  have r2 : Flt.Rep Ieee.single (Flt.sg s u + Flt.sg s u).natAbs := by rw [e2]; exact Flt.rep_mul h2 1
  have c2 : (Flt.sg s u + Flt.sg s u).natAbs < 2 ^ Flt.cap Ieee.single := by
    rw [e2, hC]
    have : u * 2 ^ 1 ≤ 2 ^ 159 * 2 ^ 1 := Nat.mul_le_mul_right _ hu
    rw [← Nat.pow_add] at this
    exact Nat.lt_of_le_of_lt this (Nat.pow_lt_pow_right (by decide) (by omega))
  obtain ⟨a, ea, na⟩ := Flt.add_num Flt.fine32 h1 hn r2 c2
  obtain ⟨t, et, nt⟩ := Flt.add_num Flt.fine32 h1 h1 r2 c2
  have ea' : floatBits .add .f32 x m = some a := ea
  have et' : floatBits .add .f32 x x = some t := et
  obtain rfl := res_some hr ea'
  refine ⟨t, et', ?_⟩
  show Ieee.single.order r t = some .eq
  rw [Flt.order_num na nt, Flt.cmp_eq rfl]
theorem sampOk_get {xs : List Nat} (h : sampOk xs = true) (i : Nat) (hi : i < xs.length) : fin1 xs[i] = true := sampOk_all h _ (List.getElem_mem hi)
theorem delayed_fin {xs : List Nat} (h : sampOk xs = true) (c i : Nat) (hi : i < (delayed xs c).length) : fin1 (delayed xs c)[i] = true := by
  rw [delayed_get]
  split
  · decide +kernel
  · rw [delayed_len] at hi
    rw [List.getD_eq_getElem?_getD, List.getElem?_eq_getElem (show i - 4 * c < xs.length by omega)]
    exact sampOk_get h _ _
/-- An echo of nothing. -/
theorem out_zero {xs ys : List Nat} {n : Int} {ok : Bool} (h : OutR (InR (EchoR xs n 0) xs) ys ok) (hs : sampOk xs = true) : ok = delayOk n ∧ (ok = true → ys.length = xs.length ∧ ∀ i (h : i < ys.length) (h' : i < xs.length), FloatKind.f32.format.order ys[i] xs[i] = some .eq) := by
  obtain ⟨r, o, hi, hr⟩ := h
  unfold InR at hi
  rw [if_pos hs] at hi
  rcases hi with ⟨d, rfl, hl, he⟩ | ⟨d, rfl, rfl⟩
  · have heq : ∀ i (h : i < r.length) (h' : i < xs.length), Ieee.single.order r[i] xs[i] = some .eq := by
      intro i h1 h2
      obtain ⟨m, hm, ha⟩ := he.2.2 i h1 h2 (by rw [delayed_len]; exact h2)
      exact echo_zero (sampOk_get hs i h2) (delayed_fin hs _ i _) hm ha
    have hso : sampOk r = true := by
      have hl2 := sampOk_len hs
      refine sampOk_mk (by omega) fun y hy => ?_
      obtain ⟨i, hi, rfl⟩ := List.mem_iff_getElem.1 hy
      exact fin1_eq (sampOk_get hs i (by omega)) (heq i hi (by omega))
    rcases hr with ⟨_, _, rfl, rfl⟩ | ⟨s1, rfl, rfl⟩
    · exact ⟨d.symm, fun _ => ⟨hl, heq⟩⟩
    · rcases s1 with s1 | s1
      · cases s1
      · rw [hso] at s1; cases s1
  · rcases hr with ⟨h, _⟩ | ⟨_, rfl, rfl⟩
    · cases h
    · exact ⟨d.symm, fun h => by cases h⟩
/-- An echo of all, at once. -/
theorem out_one {xs ys : List Nat} {ok : Bool} (h : OutR (InR (EchoR xs 0 1065353216) xs) ys ok) (hs : sampOk xs = true) (ht : ok = true) : ys.length = xs.length ∧ ∀ i (h : i < ys.length) (h' : i < xs.length), ∃ t, floatBits .add .f32 xs[i] xs[i] = some t ∧ FloatKind.f32.format.order ys[i] t = some .eq := by
  obtain ⟨r, o, hi, hr⟩ := h
  unfold InR at hi
  rw [if_pos hs] at hi
  rcases hi with ⟨d, rfl, hl, he⟩ | ⟨d, _, _⟩
  · rcases hr with ⟨_, _, rfl, rfl⟩ | ⟨_, _, rfl⟩
    · refine ⟨hl, fun i h1 h2 => ?_⟩
      have he2 := he.2.2 i h1 h2 (by rw [delayed_len]; exact h2)
      have hz : (delayed xs (0 : Int).toNat) = xs := delayed_zero0 xs
      obtain ⟨m, hm, ha⟩ : AddK 1065353216 xs[i] xs[i] ys[i] := by simpa only [hz] using he2
      exact twice_one (sampOk_get hs i h2) hm ha
    · cases ht
  · cases d
theorem out_no {xs ys : List Nat} {n : Int} {k : Nat} {ok : Bool} (h : OutR (InR (EchoR xs n k) xs) ys ok) (hs : sampOk xs = false) : ok = false := by
  obtain ⟨r, o, hi, hr⟩ := h
  unfold InR at hi
  rw [hs] at hi
  obtain ⟨_, rfl⟩ := hi
  rcases hr with ⟨h, _⟩ | ⟨_, _, rfl⟩
  · cases h
  · rfl
set_option maxHeartbeats 4000000 in
set_option maxRecDepth 100000 in
theorem walk_FnNoEcho (a0 : Option Addr) (len0 cap0 : Nat) (z0 : List Int) (w : World) (w0 : IsRow .u8 w a0 len0 cap0 z0) :
    Calls Try.prog 7 #[.slice a0 len0 cap0] w fun e w' => e = .returned (.bool true) ∧ Below w.heap.size w w' := by
  by_cases hbig : 1048576 < len0
  · have hbb : decide ((1048576 : Int) < len0) = true := by simp; omega
    have HB := Lib.hid (big_any a0 len0 cap0 w)
    rw [hbb] at HB
    clear hbb
    go_enter Try.func7, Try.ntmps7
    go_wp2_with fail
    refine HB.out.mono ?_
    rintro e w1 ⟨rfl, rfl⟩
    go_wp2
    go_ret
    exact ⟨rfl, Below.refl _ _⟩
  · have hbb : decide ((1048576 : Int) < len0) = false := by simp; omega
    have HB := Lib.hid (big_any a0 len0 cap0 w)
    rw [hbb] at HB
    have HD := Lib.hid (drawEcho_any a0 len0 cap0 w (w0.src (by omega)))
    clear hbb w0
    go_enter Try.func7, Try.ntmps7
    go_wp2_with fail
    refine HB.out.mono ?_
    rintro e w1 ⟨rfl, rfl⟩
    go_wp2_with fail
    refine HD.out.mono ?_
    rintro e w1 ⟨v, xs, n, kk, ⟨hxl, hn, _⟩, rfl, hr, hb1⟩
    have HR1 := Lib.hid hr
    have HI := Lib.hid hn
    clear hr hn HD HB
    go_wp2_with fail
    refine (echo_any n 0 v xs w1 HR1.out HI.out (by omega)).mono ?_
    rintro e w2 ⟨va, ys1, ok, rfl, ha, hna, hb2⟩
    have hb12 := below_trans hb1 hb2 hb1.size
    have HR2 := Lib.hid (HR1.out.below hb2)
    have HA := Lib.hid ha
    have NA := Lib.hid hna.row
    clear ha hna HR1 hb2 hb1
    go_wp2_with fail
    refine (echo_any 0 1065353216 v xs w2 HR2.out (by unfold I64; decide) (by omega)).mono ?_
    rintro e w3 ⟨vb, ys2, fine, rfl, hbb, hnb, hb3⟩
    have hb13 := below_trans hb12 hb3 hb12.size
    have HR3 := Lib.hid (HR2.out.below hb3)
    have NA3 := Lib.hid (NA.out.below hb3)
    have HBS := Lib.hid hbb
    have NB := Lib.hid hnb.row
    clear hbb hnb HR2 hb3 hb12 NA
    have HSO := Lib.hid (specSamplesOk_any v xs w3 HR3.out (by omega))
    cases hso : sampOk xs with
    | false =>
      rw [hso] at HSO
      obtain rfl := out_no HA.out hso
      obtain rfl := out_no HBS.out hso
      clear hso
      go_wp2_with fail
      refine HSO.out.mono ?_
      rintro e w4 ⟨rfl, rfl⟩
      go_wp2
      go_ret
      exact ⟨rfl, hb13⟩
    | true =>
      rw [hso] at HSO
      obtain ⟨hok, hae⟩ := out_zero HA.out hso
      have HBE := Lib.hid (out_one HBS.out hso)
      subst hok
      clear hso HA HBS
      obtain ⟨sa, sc, rfl, hcell⟩ := HR3.out.any
      have HC := Lib.hid hcell
      clear hcell
      rcases (by omega : n < 0 ∨ 64 < n ∨ (0 ≤ n ∧ n ≤ 64)) with hn0 | hn0 | ⟨hn0, hn1⟩
      · have hdo : delayOk n = false := by unfold delayOk; simp; omega
        rw [hdo] at hae ⊢
        clear hae hdo NA3 HR3
        go_wp2_with fail
        refine HSO.out.mono ?_
        rintro e w4 ⟨rfl, rfl⟩
        cases fine with
        | false =>
          clear HBE NB
          go_wp2
          go_loopw [10] (fun i wr => ∃ k q : Nat, k ≤ xs.length ∧ i = .int .i64 (k : Int) ∧ wr = w3.drewN q) (fun i _ => xs.length - (intOf i).toNat)
          case atStart => exact ⟨0, 0, Nat.zero_le _, rfl, rfl⟩
          case round =>
            obtain ⟨k, q, hk, rfl, rfl⟩ := hrel
            by_cases hlt : k < xs.length
            · go_wp2
              go_quiet (fail)
              go_wp2
              go_roundw
              case rel => exact ⟨k + 1, _, by omega, by go_num, rfl⟩
              case measure => simp [intOf]; omega
            · go_wp2
              go_ret
              exact ⟨rfl, belowDN hb13 _⟩
        | true =>
          obtain ⟨hl2, hbe⟩ := HBE.out rfl
          obtain ⟨ba, bc, rfl, hcb⟩ := NB.out.any
          have HL2 := Lib.hid hl2
          have HB2 := Lib.hid hbe
          have HCB := Lib.hid hcb
          rw [hl2]
          clear HBE NB hl2 hbe hcb
          go_wp2
          go_loopw [10] (fun i wr => ∃ k q : Nat, k ≤ xs.length ∧ i = .int .i64 (k : Int) ∧ wr = w3.drewN q) (fun i _ => xs.length - (intOf i).toNat)
          case atStart => exact ⟨0, 0, Nat.zero_le _, rfl, rfl⟩
          case round =>
            obtain ⟨k, q, hk, rfl, rfl⟩ := hrel
            by_cases hlt : k < xs.length
            · have hlt2 : k < ys2.length := by have := HL2.out; omega
              obtain ⟨g, o, rfl, hcap, hc0⟩ := HC.out k hlt
              obtain ⟨g', o', rfl, hcap', hc0'⟩ := HCB.out k hlt2
              rw [HL2.out] at hcap'
              obtain ⟨tt, et, ht⟩ := HB2.out k hlt2 hlt
              have qt := fun W => run_float_arith (P := Try.prog) W .add 30 .f32 _ _ _ et
              generalize xs[k] = x at *
              generalize ys2[k] = y at *
              clear hlt2 et
              go_wp2
              go_quiet (fail)
              go_wp2
              go_roundw
              case rel => exact ⟨k + 1, _, by omega, by go_num, rfl⟩
              case measure => simp [intOf]; omega
            · go_wp2
              go_ret
              exact ⟨rfl, belowDN hb13 _⟩
      · have hdo : delayOk n = false := by unfold delayOk; simp; omega
        rw [hdo] at hae ⊢
        clear hae hdo NA3 HR3
        go_wp2_with fail
        refine HSO.out.mono ?_
        rintro e w4 ⟨rfl, rfl⟩
        cases fine with
        | false =>
          clear HBE NB
          go_wp2
          go_loopw [10] (fun i wr => ∃ k q : Nat, k ≤ xs.length ∧ i = .int .i64 (k : Int) ∧ wr = w3.drewN q) (fun i _ => xs.length - (intOf i).toNat)
          case atStart => exact ⟨0, 0, Nat.zero_le _, rfl, rfl⟩
          case round =>
            obtain ⟨k, q, hk, rfl, rfl⟩ := hrel
            by_cases hlt : k < xs.length
            · go_wp2
              go_quiet (fail)
              go_wp2
              go_roundw
              case rel => exact ⟨k + 1, _, by omega, by go_num, rfl⟩
              case measure => simp [intOf]; omega
            · go_wp2
              go_ret
              exact ⟨rfl, belowDN hb13 _⟩
        | true =>
          obtain ⟨hl2, hbe⟩ := HBE.out rfl
          obtain ⟨ba, bc, rfl, hcb⟩ := NB.out.any
          have HL2 := Lib.hid hl2
          have HB2 := Lib.hid hbe
          have HCB := Lib.hid hcb
          rw [hl2]
          clear HBE NB hl2 hbe hcb
          go_wp2
          go_loopw [10] (fun i wr => ∃ k q : Nat, k ≤ xs.length ∧ i = .int .i64 (k : Int) ∧ wr = w3.drewN q) (fun i _ => xs.length - (intOf i).toNat)
          case atStart => exact ⟨0, 0, Nat.zero_le _, rfl, rfl⟩
          case round =>
            obtain ⟨k, q, hk, rfl, rfl⟩ := hrel
            by_cases hlt : k < xs.length
            · have hlt2 : k < ys2.length := by have := HL2.out; omega
              obtain ⟨g, o, rfl, hcap, hc0⟩ := HC.out k hlt
              obtain ⟨g', o', rfl, hcap', hc0'⟩ := HCB.out k hlt2
              rw [HL2.out] at hcap'
              obtain ⟨tt, et, ht⟩ := HB2.out k hlt2 hlt
              have qt := fun W => run_float_arith (P := Try.prog) W .add 30 .f32 _ _ _ et
              generalize xs[k] = x at *
              generalize ys2[k] = y at *
              clear hlt2 et
              go_wp2
              go_quiet (fail)
              go_wp2
              go_roundw
              case rel => exact ⟨k + 1, _, by omega, by go_num, rfl⟩
              case measure => simp [intOf]; omega
            · go_wp2
              go_ret
              exact ⟨rfl, belowDN hb13 _⟩
      · have hdo : delayOk n = true := by unfold delayOk; simp; omega
        rw [hdo] at hae ⊢
        obtain ⟨hl1, hae⟩ := hae rfl
        have HEQ := Lib.hid (equals_any va (.slice sa xs.length sc) ys1 xs w3 NA3.out HR3.out hl1 hae (by omega))
        clear hae hdo NA3 HR3 hl1
        go_wp2_with fail
        refine HSO.out.mono ?_
        rintro e w4 ⟨rfl, rfl⟩
        go_wp2_with fail
        refine HEQ.out.mono ?_
        rintro e w4 ⟨rfl, q4, rfl⟩
        cases fine with
        | false =>
          clear HBE NB
          go_wp2
          go_loopw [10] (fun i wr => ∃ k q : Nat, k ≤ xs.length ∧ i = .int .i64 (k : Int) ∧ wr = w3.drewN q) (fun i _ => xs.length - (intOf i).toNat)
          case atStart => exact ⟨0, _, Nat.zero_le _, rfl, rfl⟩
          case round =>
            obtain ⟨k, q, hk, rfl, rfl⟩ := hrel
            by_cases hlt : k < xs.length
            · go_wp2
              go_quiet (fail)
              go_wp2
              go_roundw
              case rel => exact ⟨k + 1, _, by omega, by go_num, rfl⟩
              case measure => simp [intOf]; omega
            · go_wp2
              go_ret
              exact ⟨rfl, belowDN hb13 _⟩
        | true =>
          obtain ⟨hl2, hbe⟩ := HBE.out rfl
          obtain ⟨ba, bc, rfl, hcb⟩ := NB.out.any
          have HL2 := Lib.hid hl2
          have HB2 := Lib.hid hbe
          have HCB := Lib.hid hcb
          rw [hl2]
          clear HBE NB hl2 hbe hcb
          go_wp2
          go_loopw [10] (fun i wr => ∃ k q : Nat, k ≤ xs.length ∧ i = .int .i64 (k : Int) ∧ wr = w3.drewN q) (fun i _ => xs.length - (intOf i).toNat)
          case atStart => exact ⟨0, _, Nat.zero_le _, rfl, rfl⟩
          case round =>
            obtain ⟨k, q, hk, rfl, rfl⟩ := hrel
            by_cases hlt : k < xs.length
            · have hlt2 : k < ys2.length := by have := HL2.out; omega
              obtain ⟨g, o, rfl, hcap, hc0⟩ := HC.out k hlt
              obtain ⟨g', o', rfl, hcap', hc0'⟩ := HCB.out k hlt2
              rw [HL2.out] at hcap'
              obtain ⟨tt, et, ht⟩ := HB2.out k hlt2 hlt
              have qt := fun W => run_float_arith (P := Try.prog) W .add 30 .f32 _ _ _ et
              generalize xs[k] = x at *
              generalize ys2[k] = y at *
              clear hlt2 et
              go_wp2
              go_quiet (fail)
              go_wp2
              go_roundw
              case rel => exact ⟨k + 1, _, by omega, by go_num, rfl⟩
              case measure => simp [intOf]; omega
            · go_wp2
              go_ret
              exact ⟨rfl, belowDN hb13 _⟩
end Go.Proofs.Ytnedmhhodmmddaa
