/-
  What is proved: the exact laws' comparing, marking of lists of cells.
  Conditions: those that each fact names.
-/
import Derived.Test.YtgecclccmmcdoaaDecSame
import Derived.Test.YtgecclccmmcdoaaPkEq
namespace Go.Proofs.Ytgecclccmmcdoaa
set_option linter.unusedVariables false
open Go.RowKit
attribute [local go_sem] run_store_float run_store_complex unary_negf neg256

theorem sameComplex_self (a b : Nat) (w : World) (ha : (Ieee.double.read a).isNaN = false) (hb : (Ieee.double.read b).isNaN = false) :
    Calls Try.prog 126 #[.complex .f64 a b, .complex .f64 a b] w fun e w' => e = .returned (.bool true) ∧ w = w' := by
  have H1 := fun W => Lib.hid (sameFloat_self a W ha)
  have H2 := fun W => Lib.hid (sameFloat_self b W hb)
  clear ha hb
  go_enter Try.func126, Try.ntmps126
  go_wp2_with fail
  refine (H1 _).out.mono ?_
  rintro e w1 ⟨rfl, rfl⟩
  go_wp2_with fail
  refine (H2 _).out.mono ?_
  rintro e w1 ⟨rfl, rfl⟩
  go_wp2
  go_ret
  exact ⟨rfl, rfl⟩
theorem eqCell_self (y u v : Nat) (w : World) (hy : Flt.fin y = true) (hu : Flt.fin u = true) (hv : Flt.fin v = true) :
    Calls Try.prog 85 #[.agg #[.float .f32 y, .complex .f32 u v], .agg #[.float .f32 y, .complex .f32 u v]] w fun e w' => e = .returned (.bool true) ∧ Below w.heap.size w w' := by
  obtain ⟨r, hr, hn⟩ := Flt.conv_fin hy
  obtain ⟨p, hp, hpn⟩ := Flt.conv_fin hu
  obtain ⟨q, hq, hqn⟩ := Flt.conv_fin hv
  have H1 := fun W => Lib.hid (sameFloat_self r W hn)
  have H2 := fun W => Lib.hid (sameComplex_self p q W hpn hqn)
  have hc := fun W => run_convert_float_float (P := Try.prog) W 26 95 .f32 .f64 y r (by kernel_rfl) Try.underlying95 hr
  have hcv := fun W => run_convert_complex (P := Try.prog) W 27 113 .f32 .f64 u v p q (by kernel_rfl) Try.underlying113 (by unfold cConvBits; rw [hp, hq]; rfl)
  clear hr hn hp hpn hq hqn hy hu hv
  go_enter Try.func85, Try.ntmps85
  go_wp2_with fail
  refine (H1 _).out.mono ?_
  rintro e w1 ⟨rfl, rfl⟩
  go_wp2_with fail
  refine (H2 _).out.mono ?_
  rintro e w1 ⟨rfl, rfl⟩
  go_wp2
  go_ret
  exact ⟨rfl, by first | exact Below.refl _ _ | exact ((Below.refl _ _).alloc (Nat.le_refl _) _) | exact ((Below.refl _ _).alloc (Nat.le_refl _) _).alloc (by simp) _⟩
/-- Every number is in range. -/
def FinL (cs : List C3) : Prop := ∀ c ∈ cs, Flt.fin c.1 = true ∧ Flt.fin c.2.1 = true ∧ Flt.fin c.2.2 = true
set_option maxHeartbeats 2000000 in
theorem eqCells_self (v v' : Value) (cs : List C3) (w : World) (h : RowV w v cs) (h' : RowV w v' cs) (hl : cs.length ≤ 1000000) (hf : FinL cs) :
    Calls Try.prog 39 #[v, v'] w fun e w' => e = .returned (.bool true) ∧ Below w.heap.size w w' := by
  rcases h with ⟨rfl, h0⟩ | ⟨g, o, cap, rfl, hcap, hcell⟩
  · subst h0
    obtain ⟨a, c, rfl⟩ : ∃ a c, v' = .slice a 0 c := by
      rcases h' with ⟨rfl, _⟩ | ⟨g, o, cap, rfl, _⟩
      · exact ⟨none, 0, rfl⟩
      · exact ⟨_, _, rfl⟩
    clear h' hf
    go_enter Try.func39, Try.ntmps39
    go_wp2
    go_loop [5] (fun i => i = .int .i64 0) (fun _ => 0)
    case atStart => exact rfl
    case round =>
      obtain rfl := hrel
      go_wp2
      go_ret
      exact ⟨rfl, Below.refl _ _⟩
  · rcases h' with ⟨rfl, h0⟩ | ⟨g', o', cap', rfl, hcap', hcell'⟩
    · subst h0
      clear hcell hf
      go_enter Try.func39, Try.ntmps39
      go_wp2
      go_loop [5] (fun i => i = .int .i64 0) (fun _ => 0)
      case atStart => exact rfl
      case round =>
        obtain rfl := hrel
        go_wp2
        go_ret
        exact ⟨rfl, Below.refl _ _⟩
    · have HC := Lib.hid hcell
      have HC' := Lib.hid hcell'
      have HF := Lib.hid hf
      clear hcell hcell' hf
      go_enter Try.func39, Try.ntmps39
      go_wp2
      go_loopw [5] (fun i wr => ∃ k : Nat, k ≤ cs.length ∧ i = .int .i64 (k : Int) ∧ Below w.heap.size w wr) (fun i _ => cs.length - (intOf i).toNat)
      case atStart => exact ⟨0, Nat.zero_le _, rfl, Below.refl _ _⟩
      case round =>
        obtain ⟨k, hk, rfl, hb⟩ := hrel
        by_cases hlt : k < cs.length
        · obtain ⟨hc0, hc1⟩ := HC.out k hlt
          obtain ⟨hc0', hc1'⟩ := HC'.out k hlt
          have q0 := (grown_of hb).cell hc0 (by simp)
          have q1 := (grown_of hb).cell hc1 (by simp)
          have q2 := (grown_of hb).cell hc0' (by simp)
          have q3 := (grown_of hb).cell hc1' (by simp)
          obtain ⟨f1, f2, f3⟩ := HF.out cs[k] (List.getElem_mem hlt)
          have HE := fun W => Lib.hid (eqCell_self cs[k].1 cs[k].2.1 cs[k].2.2 W f1 f2 f3)
          clear hc0 hc1 hc0' hc1' f1 f2 f3
          generalize cs[k] = c at *
          have hbd : Below w.heap.size w wr.drew := belowDN hb 1
          go_wp2
          go_region_with (go_at_call 85; refine (HE _).out.mono ?_; rintro e w2 ⟨rfl, hb2⟩)
          all_goals
            have hb3 := below_trans hbd hb2 hbd.size
            clear q0 q1 q2 q3
            go_wp2
            go_roundw
            case rel => exact ⟨k + 1, by omega, by go_num, hb3⟩
            case measure => simp [intOf]; omega
        · go_wp2
          go_ret
          exact ⟨rfl, hb⟩
/-- complex64(complex(float64(k), 1)): the first part's bits. -/
def c32 (k : Nat) : Nat := (floatToFloatBits .f64 (floatOfInt .f64 (k : Int)) .f32).getD 0
theorem c32_ok : ∀ k : Nat, k < 140 → cConvBits .f64 (floatOfInt .f64 (k : Int)) 4607182418800017408 .f32 = some (c32 k, 1065353216) ∧ (Ieee.single.read (c32 k)).isNaN = false := by decide +kernel
def cmark (i : Nat) : C3 := (floatOfInt .f32 ((2 * i + 1 : Nat) : Int), c32 (2 * i + 2), 1065353216)
def cmarks (n : Nat) : List C3 := (List.range n).map cmark
theorem cmarks_len (n : Nat) : (cmarks n).length = n := by simp [cmarks]
theorem cmarks_get (n i : Nat) (h : i < (cmarks n).length) : (cmarks n)[i] = cmark i := by simp [cmarks]
theorem c32_run (k : Nat) (h : k < 140) (W : World) : (convert 113 27 (.complex .f64 (floatOfInt .f64 (k : Int)) 4607182418800017408)).run Try.prog W = .ok (.complex .f32 (c32 k) 1065353216) W :=
  run_convert_complex (P := Try.prog) W 113 27 .f64 .f32 _ _ _ _ (by kernel_rfl) Try.underlying27 (c32_ok k h).1
end Go.Proofs.Ytgecclccmmcdoaa
