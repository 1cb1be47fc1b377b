/-
  What is proved: the laws' comparing of single floats that are alike answers true, NaN among them.
  Conditions: those that each fact names.
-/
import Derived.Test.YtjccnmnhgahlfaaFRow
namespace Go.Proofs.Ytjccnmnhgahlfaa
set_option linter.unusedVariables false
open Go.RowKit
attribute [local go_sem] run_store_float run_store_complex unary_negf neg256

set_option maxHeartbeats 400000 in
theorem sameFloat_self (a : Nat) (w : World) (ha : (Ieee.double.read a).isNaN = false) :
    Calls Try.prog 57 #[.float .f64 a, .float .f64 a] w fun e w' => e = .returned (.bool true) ∧ w = w' := by
  have hs : (FloatKind.f64.format.order a a) = some .eq := Flt.order_self ha
  cases hz : FloatKind.f64.format.order a 0 == some .eq
  · clear ha
    go_enter Try.func57, Try.ntmps57
    go_wp2
    go_ret
    exact ⟨rfl, rfl⟩
  · obtain ⟨s, i, he⟩ := Flt.eq_zero rd0 (eq_of_beq hz)
    obtain ⟨r, hr⟩ := Flt.div_zero rd1 (by decide) he
    have hd := fun wx => run_float_arith (P := Try.prog) wx .quo 66 .f64 _ _ r (show floatBits .quo .f64 _ _ = _ from hr)
    clear he hr ha
    go_enter Try.func57, Try.ntmps57
    go_wp2
    go_ret
    exact ⟨by simp, rfl⟩
theorem sameFloat_nan (a b : Nat) (w : World) (ha : (Ieee.double.read a).isNaN = true) (hb : (Ieee.double.read b).isNaN = true) :
    Calls Try.prog 57 #[.float .f64 a, .float .f64 b] w fun e w' => e = .returned (.bool true) ∧ w = w' := by
  have h1 : (FloatKind.f64.format.order a a) = none := Flt.order_nan (.inl ha)
  have h2 : (FloatKind.f64.format.order b b) = none := Flt.order_nan (.inl hb)
  clear ha hb
  go_enter Try.func57, Try.ntmps57
  go_wp2
  go_ret
  exact ⟨rfl, rfl⟩
theorem same64_nan (a b : Nat) (w : World) (ha : (Ieee.double.read a).isNaN = true) (hb : (Ieee.double.read b).isNaN = true) :
    Calls Try.prog 66 #[.float .f64 a, .float .f64 b] w fun e w' => e = .returned (.bool true) ∧ w = w' := by
  have h1 : (FloatKind.f64.format.order a a) = none := Flt.order_nan (.inl ha)
  have h2 : (FloatKind.f64.format.order b b) = none := Flt.order_nan (.inl hb)
  clear ha hb
  go_enter Try.func66, Try.ntmps66
  go_wp2
  go_ret
  exact ⟨rfl, rfl⟩
theorem same32_sm (x y : Nat) (w : World) (h : Sm x y) :
    Calls Try.prog 47 #[.float .f32 x, .float .f32 y] w fun e w' => e = .returned (.bool true) ∧ ∃ n, w' = w.drewN n := by
  rcases conv_any x with ⟨r, hn, hx, hc⟩ | ⟨hx, hc⟩
  · have e : x = y := h.elim id fun h => by rw [hx] at h; exact absurd h.1 (by decide)
    subst e
    have HS := fun W => Lib.hid (same64_self r W hn)
    clear hn h hx
    go_enter Try.func47, Try.ntmps47
    go_wp2_with fail
    refine (HS _).out.mono ?_
    rintro e w1 ⟨rfl, rfl⟩
    go_wp2
    go_ret
    exact ⟨rfl, 0, rfl⟩
  · have hy : isN y = true := h.elim (fun e => by rw [← e]; exact hx) fun h => h.2
    rcases conv_any y with ⟨_, _, hy', _⟩ | ⟨_, hc'⟩
    · rw [hy] at hy'; cases hy'
    · obtain ⟨r1, hn1, hc1⟩ := hc w
      obtain ⟨r2, hn2, hc2⟩ := hc' (w.drewN 1)
      have HS := fun W => Lib.hid (same64_nan r1 r2 W hn1 hn2)
      clear hn1 hn2 h hx hy hc hc'
      go_enter Try.func47, Try.ntmps47
      go_wp2_with fail
      refine (HS _).out.mono ?_
      rintro e w1 ⟨rfl, rfl⟩
      go_wp2
      go_ret
      exact ⟨rfl, 2, rfl⟩

theorem drewN_add (w : World) (a b : Nat) : (w.drewN a).drewN b = w.drewN (a + b) := by simp [World.drewN, Nat.add_assoc]
theorem qt_ex {P : Program} {f : FuncId} {args : Array Value} {w : World} {a n : Nat} {v : Value} (h : Calls P f args (w.drewN (a + n)) fun e w' => e = .returned v ∧ ∃ m, w' = (w.drewN (a + n)).drewN m) :
    Calls P f args (w.drewN (a + n)) fun e w'' => e = .returned v ∧ ∃ m, w'' = w.drewN (a + m) := h.mono fun _ _ hh => ⟨hh.1, hh.2.elim fun m e => ⟨n + m, by rw [e, drewN_add, Nat.add_assoc]⟩⟩
theorem qt_ex1 {P : Program} {f : FuncId} {args : Array Value} {w : World} {n : Nat} {v : Value} (h : Calls P f args (w.drewN n) fun e w' => e = .returned v ∧ ∃ m, w' = (w.drewN n).drewN m) :
    Calls P f args (w.drewN n) fun e w'' => e = .returned v ∧ ∃ m, w'' = w.drewN m := h.mono fun _ _ hh => ⟨hh.1, hh.2.elim fun m e => ⟨n + m, by rw [e, drewN_add]⟩⟩
/-- The lists are as long as each other, and the same place for place. -/
def SmL (xs ys : List Nat) : Prop := xs.length = ys.length ∧ ∀ i (h : i < xs.length) (h' : i < ys.length), Sm xs[i] ys[i]
theorem SmL.refl (xs : List Nat) : SmL xs xs := ⟨rfl, fun i h h' => Sm.refl _⟩
set_option maxHeartbeats 2000000 in
theorem sameSamples_sm (v v' : Value) (xs ys : List Nat) (w : World) (h : FRow w v xs) (h' : FRow w v' ys) (hs : SmL xs ys) (hl : xs.length ≤ 1000000000) :
    Calls Try.prog 19 #[v, v'] w fun e w' => e = .returned (.bool true) ∧ ∃ n, w' = w.drewN n := by
  obtain ⟨hlen, hsm⟩ := hs
  by_cases h0 : xs.length = 0
  · obtain ⟨a, c, rfl⟩ := h.lenv
    obtain ⟨a', c', rfl⟩ := h'.lenv
    rw [← hlen, h0]
    clear hl hsm hlen h h'
    go_enter Try.func19, Try.ntmps19
    go_wp2
    go_loop [5] (fun i => i = .int .i64 0) (fun _ => 0)
    case atStart => exact rfl
    case round =>
      obtain rfl := hrel
      go_wp2
      go_ret
      exact ⟨rfl, 0, rfl⟩
  · rcases h with ⟨_, h1⟩ | ⟨g, o, cap, rfl, hcap, hcell⟩
    · subst h1; exact absurd rfl h0
    · rcases h' with ⟨_, h1⟩ | ⟨g', o', cap', rfl, hcap', hcell'⟩
      · subst h1; simp at hlen; exact absurd (by rw [hlen]; rfl) h0
      · have HC := Lib.hid hcell
        have HC' := Lib.hid hcell'
        have HF := Lib.hid hsm
        rw [← hlen] at hcap' ⊢
        have HL := Lib.hid hlen
        clear hcell hcell' hsm h0 hlen
        go_enter Try.func19, Try.ntmps19
        go_wp2
        go_loopw [5] (fun i wr => ∃ k q : Nat, k ≤ xs.length ∧ i = .int .i64 (k : Int) ∧ wr = w.drewN q) (fun i _ => xs.length - (intOf i).toNat)
        case atStart => exact ⟨0, 0, Nat.zero_le _, rfl, rfl⟩
        case round =>
          obtain ⟨k, q, hk, rfl, rfl⟩ := hrel
          by_cases hlt : k < xs.length
          · have hlt' : k < ys.length := by have := HL.out; omega
            have hc0 := HC.out k hlt
            have hc0' := HC'.out k hlt'
            have hpk := HF.out k hlt hlt'
            generalize xs[k] = x at *
            generalize ys[k] = y at *
            have HS := fun W => Lib.hid (same32_sm x y W hpk)
            clear hpk hlt'
            go_wp2
            go_quiet (first | (go_at_call 47; exact qt_ex (HS _).out))
            go_wp2
            go_roundw
            case rel => exact ⟨k + 1, _, by omega, by go_num, rfl⟩
            case measure => simp [intOf]; omega
          · go_wp2
            go_ret
            exact ⟨rfl, _, rfl⟩
end Go.Proofs.Ytjccnmnhgahlfaa
