/-
  What is proved: the law's comparing of floats, colours and rows that are alike answers true.
  Conditions: no number is NaN or above 256.
-/
import Derived.Test.YtlbepmiomcmcnaaRowOk
namespace Go.Proofs.Ytlbepmiomcmcnaa
set_option linter.unusedVariables false
open Go.RowKit

theorem qt_add {P : Program} {f : FuncId} {args : Array Value} {w : World} {a n : Nat} {v : Value} (h : Calls P f args (w.drewN (a + n)) fun e w' => e = .returned v ∧ w.drewN (a + n) = w') :
    Calls P f args (w.drewN (a + n)) fun e w'' => e = .returned v ∧ ∃ m, w'' = w.drewN (a + m) := h.mono fun _ _ hh => ⟨hh.1, n, hh.2.symm⟩
theorem qt_one {P : Program} {f : FuncId} {args : Array Value} {w : World} {n : Nat} {v : Value} (h : Calls P f args (w.drewN n) fun e w' => e = .returned v ∧ w.drewN n = w') :
    Calls P f args (w.drewN n) fun e w'' => e = .returned v ∧ ∃ m, w'' = w.drewN m := h.mono fun _ _ hh => ⟨hh.1, n, hh.2.symm⟩
theorem belowDN {B : Nat} {a w : World} (h : Below B a w) (n : Nat) : Below B a (w.drewN n) := ⟨h.os, h.tape, h.output, h.size, h.block⟩
theorem rd0 : Ieee.double.read 0 = .number false 0 (-1074) := by decide +kernel
theorem rd1 : Ieee.double.read 4607182418800017408 = .number false 4503599627370496 (-52) := by decide +kernel
set_option maxHeartbeats 400000 in
theorem same64_self (a : Nat) (w : World) (ha : (Ieee.double.read a).isNaN = false) :
    Calls Try.prog 54 #[.float .f64 a, .float .f64 a] w fun e w' => e = .returned (.bool true) ∧ w = w' := by
  have hs : (FloatKind.f64.format.order a a) = some .eq := Flt.order_self ha
  cases hz : FloatKind.f64.format.order a 0 == some .eq
  · have hz' : (FloatKind.f64.format.order a 0 != some .eq) = true := by unfold bne; rw [hz]; rfl
    go_enter Try.func54, Try.ntmps54
    go_wp2
    go_ret
    exact ⟨rfl, rfl⟩
  · obtain ⟨s, i, he⟩ := Flt.eq_zero rd0 (eq_of_beq hz)
    obtain ⟨r, hr⟩ := Flt.div_zero rd1 (by decide) he
    have hrn : (Ieee.double.read r).isNaN = false := by
      unfold Ieee.Format.div at hr
      rw [rd1, he] at hr
      simp only [Ieee.Datum.quotient, if_true, show (4503599627370496 : Nat) ≠ 0 by decide, if_false, Option.map_some, Option.some.injEq] at hr
      rw [← hr]
      cases s <;> decide +kernel
    have hrs : (FloatKind.f64.format.order r r) = some .eq := Flt.order_self hrn
    have hz' : (FloatKind.f64.format.order a 0 != some .eq) = false := by unfold bne; rw [hz]; rfl
    have hd := fun wx => run_float_arith (P := Try.prog) wx .quo 76 .f64 _ _ r (show floatBits .quo .f64 _ _ = _ from hr)
    clear he hr hrn
    go_enter Try.func54, Try.ntmps54
    go_wp2
    go_ret
    exact ⟨by simp, rfl⟩
theorem same32_self (x : Nat) (w : World) (hx : Flt.fin x = true) :
    Calls Try.prog 31 #[.float .f32 x, .float .f32 x] w fun e w' => e = .returned (.bool true) ∧ w = w' := by
  obtain ⟨r, hr, hn⟩ := Flt.conv_fin hx
  have HS := fun W => Lib.hid (same64_self r W hn)
  have hc := fun W => run_convert_float_float (P := Try.prog) W 41 76 .f32 .f64 x r (by kernel_rfl) Try.underlying76 hr
  clear hr hn hx
  go_enter Try.func31, Try.ntmps31
  go_wp2_with fail
  refine (HS _).out.mono ?_
  rintro e w1 ⟨rfl, rfl⟩
  go_wp2
  go_ret
  exact ⟨rfl, rfl⟩
theorem sameColour_self (u v : Nat) (w : World) (hu : Flt.fin u = true) (hv : Flt.fin v = true) :
    Calls Try.prog 32 #[.complex .f32 u v, .complex .f32 u v] w fun e w' => e = .returned (.bool true) ∧ w = w' := by
  have HU := fun W => Lib.hid (same32_self u W hu)
  have HV := fun W => Lib.hid (same32_self v W hv)
  go_enter Try.func32, Try.ntmps32
  go_wp2_with fail
  refine (HU _).out.mono ?_
  rintro e w1 ⟨rfl, rfl⟩
  go_wp2_with fail
  refine (HV _).out.mono ?_
  rintro e w1 ⟨rfl, rfl⟩
  go_wp2
  go_ret
  exact ⟨rfl, rfl⟩

set_option maxHeartbeats 2000000 in
theorem sameRow_self (v v' : Value) (cs : List C3) (w : World) (h : RowV w v cs) (h' : RowV w v' cs) (hl : cs.length ≤ 1000000) (hf : (cs.all fun c => okc c.1 c.2.1 c.2.2) = true) :
    Calls Try.prog 12 #[v, v'] w fun e w' => e = .returned (.bool true) ∧ Below w.heap.size w w' := by
  by_cases h0 : cs = []
  · subst h0
    rcases h with ⟨rfl, _⟩ | ⟨g, o, cap, rfl, hcap, hcell⟩ <;> rcases h' with ⟨rfl, _⟩ | ⟨g', o', cap', rfl, hcap', hcell'⟩
    all_goals
      clear hl hf
      go_enter Try.func12, Try.ntmps12
      go_wp2
      go_loop [5] (fun i => i = .int .i64 0) (fun _ => 0)
      case atStart => exact rfl
      case round =>
        obtain rfl := hrel
        go_wp2
        go_ret
        exact ⟨rfl, Below.refl _ _⟩
  · rcases h with ⟨_, h1⟩ | ⟨g, o, cap, rfl, hcap, hcell⟩
    · exact absurd h1 h0
    · rcases h' with ⟨_, h1⟩ | ⟨g', o', cap', rfl, hcap', hcell'⟩
      · exact absurd h1 h0
      · have HC := Lib.hid hcell
        have HC' := Lib.hid hcell'
        have HF := Lib.hid (fun k (hk : k < cs.length) => List.all_eq_true.1 hf cs[k] (List.getElem_mem hk))
        clear hcell hcell' hf h0
        go_enter Try.func12, Try.ntmps12
        go_wp2
        go_loopw [5] (fun i wr => ∃ k q : Nat, k ≤ cs.length ∧ i = .int .i64 (k : Int) ∧ wr = w.drewN q) (fun i _ => cs.length - (intOf i).toNat)
        case atStart => exact ⟨0, 0, Nat.zero_le _, rfl, rfl⟩
        case round =>
          obtain ⟨k, q, hk, rfl, rfl⟩ := hrel
          by_cases hlt : k < cs.length
          · obtain ⟨hc0, hc1⟩ := HC.out k hlt
            obtain ⟨hc0', hc1'⟩ := HC'.out k hlt
            have hpk := HF.out k hlt
            generalize cs[k] = c at *
            obtain ⟨y, u, v⟩ := c
            unfold okc at hpk
            simp only [Bool.and_eq_true] at hpk
            have HY := fun W => Lib.hid (same32_self y W hpk.1)
            have HV := fun W => Lib.hid (sameColour_self u v W hpk.2.1 hpk.2.2)
            clear hpk
            go_wp2
            go_quiet (first | (go_at_call 31; exact qt_add (HY _).out) | (go_at_call 32; exact qt_add (HV _).out))
            go_wp2
            go_roundw
            case rel => exact ⟨k + 1, _, by omega, by go_num, rfl⟩
            case measure => simp [intOf]; omega
          · go_wp2
            go_ret
            exact ⟨rfl, belowDN (Below.refl _ _) _⟩
end Go.Proofs.Ytlbepmiomcmcnaa
