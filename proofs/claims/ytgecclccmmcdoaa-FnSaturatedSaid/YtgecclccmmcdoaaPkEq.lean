/-
  What is proved: the laws' comparing of single floats that are alike answers true, NaN among them.
  Conditions: those that each fact names.
-/
import Derived.Test.YtgecclccmmcdoaaFRow
import Derived.Deep.RegionWith
namespace Go.Proofs.Ytgecclccmmcdoaa
set_option linter.unusedVariables false
open Go.RowKit
attribute [local go_sem] run_store_float run_store_complex unary_negf neg256

set_option maxHeartbeats 400000 in
theorem sameFloat_self (a : Nat) (w : World) (ha : (Ieee.double.read a).isNaN = false) :
    Calls Try.prog 86 #[.float .f64 a, .float .f64 a] w fun e w' => e = .returned (.bool true) ∧ w = w' := by
  have hs : (FloatKind.f64.format.order a a) = some .eq := Flt.order_self ha
  cases hz : FloatKind.f64.format.order a 0 == some .eq
  · clear ha
    go_enter Try.func86, Try.ntmps86
    go_wp2
    go_ret
    exact ⟨rfl, rfl⟩
  · obtain ⟨s, i, he⟩ := Flt.eq_zero rd0 (eq_of_beq hz)
    obtain ⟨r, hr⟩ := Flt.div_zero rd1 (by decide) he
    have hd := fun wx => run_float_arith (P := Try.prog) wx .quo 95 .f64 _ _ r (show floatBits .quo .f64 _ _ = _ from hr)
    clear he hr ha
    go_enter Try.func86, Try.ntmps86
    go_wp2
    go_ret
    exact ⟨by simp, rfl⟩
theorem sameFloat_nan (a b : Nat) (w : World) (ha : (Ieee.double.read a).isNaN = true) (hb : (Ieee.double.read b).isNaN = true) :
    Calls Try.prog 86 #[.float .f64 a, .float .f64 b] w fun e w' => e = .returned (.bool true) ∧ w = w' := by
  have h1 : (FloatKind.f64.format.order a a) = none := Flt.order_nan (.inl ha)
  have h2 : (FloatKind.f64.format.order b b) = none := Flt.order_nan (.inl hb)
  clear ha hb
  go_enter Try.func86, Try.ntmps86
  go_wp2
  go_ret
  exact ⟨rfl, rfl⟩
theorem same64_nan (a b : Nat) (w : World) (ha : (Ieee.double.read a).isNaN = true) (hb : (Ieee.double.read b).isNaN = true) :
    Calls Try.prog 72 #[.float .f64 a, .float .f64 b] w fun e w' => e = .returned (.bool true) ∧ w = w' := by
  have h1 : (FloatKind.f64.format.order a a) = none := Flt.order_nan (.inl ha)
  have h2 : (FloatKind.f64.format.order b b) = none := Flt.order_nan (.inl hb)
  clear ha hb
  go_enter Try.func72, Try.ntmps72
  go_wp2
  go_ret
  exact ⟨rfl, rfl⟩
theorem same32_sm (x y : Nat) (w : World) (h : Sm x y) :
    Calls Try.prog 29 #[.float .f32 x, .float .f32 y] w fun e w' => e = .returned (.bool true) ∧ ∃ n, w' = w.drewN n := by
  rcases conv_any x with ⟨r, hn, hx, hc⟩ | ⟨hx, hc⟩
  · have e : x = y := h.elim id fun h => by rw [hx] at h; exact absurd h.1 (by decide)
    subst e
    have HS := fun W => Lib.hid (same64_self r W hn)
    clear hn h hx
    go_enter Try.func29, Try.ntmps29
    go_wp2_with fail
    refine (HS _).out.mono ?_
    rintro e w1 ⟨rfl, rfl⟩
    go_wp2
    go_ret
    exact ⟨rfl, 0, rfl⟩
  · have hy : isN y = true := h.elim (fun e => by rw [← e]; exact hx) fun h => h.2
    rcases conv_any y with ⟨_, _, hy', _⟩ | ⟨_, hc'⟩
    · rw [hy] at hy'; cases hy'
    · obtain ⟨r1, hn1, hc1⟩ := hc w
      obtain ⟨r2, hn2, hc2⟩ := hc' (w.drewN 1)
      have HS := fun W => Lib.hid (same64_nan r1 r2 W hn1 hn2)
      clear hn1 hn2 h hx hy hc hc'
      go_enter Try.func29, Try.ntmps29
      go_wp2_with fail
      refine (HS _).out.mono ?_
      rintro e w1 ⟨rfl, rfl⟩
      go_wp2
      go_ret
      exact ⟨rfl, 2, rfl⟩

theorem drewN_add (w : World) (a b : Nat) : (w.drewN a).drewN b = w.drewN (a + b) := by simp [World.drewN, Nat.add_assoc]
theorem qt_ex {P : Program} {f : FuncId} {args : Array Value} {w : World} {a n : Nat} {v : Value} (h : Calls P f args (w.drewN (a + n)) fun e w' => e = .returned v ∧ ∃ m, w' = (w.drewN (a + n)).drewN m) :
    Calls P f args (w.drewN (a + n)) fun e w'' => e = .returned v ∧ ∃ m, w'' = w.drewN (a + m) := h.mono fun _ _ hh => ⟨hh.1, hh.2.elim fun m e => ⟨n + m, by rw [e, drewN_add, Nat.add_assoc]⟩⟩
theorem qt_ex1 {P : Program} {f : FuncId} {args : Array Value} {w : World} {n : Nat} {v : Value} (h : Calls P f args (w.drewN n) fun e w' => e = .returned v ∧ ∃ m, w' = (w.drewN n).drewN m) :
    Calls P f args (w.drewN n) fun e w'' => e = .returned v ∧ ∃ m, w'' = w.drewN m := h.mono fun _ _ hh => ⟨hh.1, hh.2.elim fun m e => ⟨n + m, by rw [e, drewN_add]⟩⟩
/-- The lists are as long as each other, and the same place for place. -/
def SmL (xs ys : List Nat) : Prop := xs.length = ys.length ∧ ∀ i (h : i < xs.length) (h' : i < ys.length), Sm xs[i] ys[i]
theorem SmL.refl (xs : List Nat) : SmL xs xs := ⟨rfl, fun i h h' => Sm.refl _⟩
end Go.Proofs.Ytgecclccmmcdoaa

/-
  What is proved: the exact laws' copying, comparing and marking of lists of single floats.
  Conditions: those that each fact names.
-/
namespace Go.Proofs.Ytgecclccmmcdoaa
set_option linter.unusedVariables false
open Go.RowKit
attribute [local go_sem] run_store_float run_store_complex unary_negf neg256

set_option maxHeartbeats 4000000 in
set_option maxRecDepth 100000 in
theorem eqFloats_sm (v v' : Value) (xs ys : List Nat) (w : World) (h : FRow w v xs) (h' : FRow w v' ys) (hs : SmL xs ys) (hl : xs.length ≤ 1000000000) :
    Calls Try.prog 40 #[v, v'] w fun e w' => e = .returned (.bool true) ∧ ∃ n, w' = w.drewN n := by
  obtain ⟨hlen, hsm⟩ := hs
  by_cases h0 : xs.length = 0
  · obtain ⟨a, c, rfl⟩ := h.lenv
    obtain ⟨a', c', rfl⟩ := h'.lenv
    rw [← hlen, h0]
    clear hl hsm hlen h h'
    go_enter Try.func40, Try.ntmps40
    go_wp2
    go_loop [5] (fun i => i = .int .i64 0) (fun _ => 0)
    case atStart => exact rfl
    case round =>
      obtain rfl := hrel
      go_wp2
      go_ret
      exact ⟨rfl, 0, rfl⟩
  · rcases h with ⟨_, h1⟩ | ⟨g, o, cap, rfl, hcap, hcell⟩
    · subst h1; exact absurd rfl h0
    · rcases h' with ⟨_, h1⟩ | ⟨g', o', cap', rfl, hcap', hcell'⟩
      · subst h1; simp at hlen; exact absurd (by rw [hlen]; rfl) h0
      · have HC := Lib.hid hcell
        have HC' := Lib.hid hcell'
        have HF := Lib.hid hsm
        rw [← hlen] at hcap' ⊢
        have HL := Lib.hid hlen
        clear hcell hcell' hsm h0 hlen
        go_enter Try.func40, Try.ntmps40
        go_wp2
        go_loopw [5] (fun i wr => ∃ k q : Nat, k ≤ xs.length ∧ i = .int .i64 (k : Int) ∧ wr = w.drewN q) (fun i _ => xs.length - (intOf i).toNat)
        case atStart => exact ⟨0, 0, Nat.zero_le _, rfl, rfl⟩
        case round =>
          obtain ⟨k, q, hk, rfl, rfl⟩ := hrel
          by_cases hlt : k < xs.length
          · have hlt' : k < ys.length := by have := HL.out; omega
            have hc0 := HC.out k hlt
            have hc0' := HC'.out k hlt'
            have hpk := HF.out k hlt hlt'
            generalize xs[k] = x at *
            generalize ys[k] = y at *
            rcases conv_any x with ⟨r, hn, hx, hc⟩ | ⟨hx, hc⟩
            · have e : x = y := hpk.elim id fun h => by rw [hx] at h; exact absurd h.1 (by decide)
              subst e
              have HS := fun W => Lib.hid (sameFloat_self r W hn)
              clear hpk hlt' hn hx
              go_wp2
              go_quiet (first | (go_at_call 86; exact qt_add (HS _).out))
              go_wp2
              go_roundw
              case rel => exact ⟨k + 1, _, by omega, by go_num, rfl⟩
              case measure => simp [intOf]; omega
            · have hy : isN y = true := hpk.elim (fun e => by rw [← e]; exact hx) fun h => h.2
              rcases conv_any y with ⟨_, _, hy', _⟩ | ⟨_, hc'⟩
              · rw [hy] at hy'; cases hy'
              · clear hpk hlt' hy hx
                have hcq : (w.drewN q).cell? ⟨g, o + k, none⟩ = some (.float .f32 x) := hc0
                have hcq' : (w.drewN q).cell? ⟨g', o' + k, none⟩ = some (.float .f32 y) := hc0'
                clear hc0 hc0'
                obtain ⟨wq, hwq⟩ : ∃ wq, w.drewN q = wq := ⟨_, rfl⟩
                rw [hwq] at hcq hcq' ⊢
                have HWQ := Lib.hid hwq
                clear hwq
                go_wp2
                obtain ⟨r1, n1, k1⟩ := hc wq.drew
                obtain ⟨r2, n2, k2⟩ := hc wq.drew.drew
                obtain ⟨r3, n3, k3⟩ := hc' wq.drew
                obtain ⟨r4, n4, k4⟩ := hc' wq.drew.drew
                simp only [show ∀ W : World, W.drewN 1 = W.drew from fun _ => rfl] at k1 k2 k3 k4
                have N1 := Lib.hid n1
                have N2 := Lib.hid n2
                have N3 := Lib.hid n3
                have N4 := Lib.hid n4
                clear n1 n2 n3 n4 hc hc'
                go_region_with (go_at_call 86; refine (sameFloat_nan _ _ _ ?_ ?_).mono ?_; (first | exact N1.out | exact N2.out); (first | exact N4.out | exact N3.out); rintro e w2 ⟨rfl, rfl⟩)
                all_goals
                  go_wp2
                  go_roundw
                  case rel => exact ⟨k + 1, q + 3, by omega, by go_num, by rw [← HWQ.out]; rfl⟩
                  case measure => simp [intOf]; omega
          · go_wp2
            go_ret
            exact ⟨rfl, _, rfl⟩

set_option maxHeartbeats 2000000 in
theorem toFloats_any (v : Value) (xs : List Nat) (w : World) (h : FRow w v xs) (hl : xs.length ≤ 1000000000) :
    Calls Try.prog 38 #[v] w fun e w' => ∃ v', e = .returned v' ∧ FNew w' w.heap.size v' xs ∧ Below w.heap.size w w' := by
  have hmk := make_floats xs.length hl
  have hst := MadeF.start w xs.length xs
  have hbel : Below w.heap.size w (w.alloc (.cells (madeCells #[.float .f32 0] xs.length) 26)) := (Below.refl _ _).alloc (Nat.le_refl _) _
  have hsz : w.heap.size < (w.alloc (.cells (madeCells #[.float .f32 0] xs.length) 26)).heap.size := by simp
  obtain ⟨a, c, rfl, hcell⟩ := h.any
  have HC := Lib.hid hcell
  have HST := Lib.hid hst
  clear hcell hst h
  go_enter Try.func38, Try.ntmps38
  go_wp2
  clear hmk
  generalize w.alloc (.cells (madeCells #[.float .f32 0] xs.length) 26) = w1 at *
  go_loopw [4] (fun i wr => ∃ k : Nat, k ≤ xs.length ∧ i = .int .i64 (k : Int) ∧ Below w.heap.size w wr ∧ w.heap.size < wr.heap.size ∧ MadeF wr w.heap.size xs.length k xs) (fun i _ => xs.length - (intOf i).toNat)
  case atStart => exact ⟨0, Nat.zero_le _, rfl, hbel, hsz, HST.out⟩
  case round =>
    obtain ⟨k, hk, rfl, hb, hs, hm⟩ := hrel
    have HM := Lib.hid hm
    clear hm HST
    by_cases hlt : k < xs.length
    · obtain ⟨g, o, rfl, hcap, hcc⟩ := HC.out k hlt
      have hc0 := (grown_of hb).cell hcc (by simp)
      obtain ⟨⟨x0, hx0⟩, hf0⟩ := HM.out.at k hlt
      have hm3 := HM.out.step hlt (Nat.le_refl _)
      generalize xs[k] = x at *
      have HM3 := Lib.hid hm3
      clear hm3 hcc
      go_wp2
      go_roundw
      case rel => exact ⟨k + 1, by omega, by go_num, hb.setCell (Nat.le_refl _) _, by simpa [World.setCell] using hs, HM3.out⟩
      case measure => simp [intOf]; omega
    · have hkk : k = xs.length := by omega
      subst hkk
      go_wp2
      go_ret
      exact ⟨_, rfl, HM.out.new rfl (Nat.le_refl _), hb⟩

/-- The numbers that the laws mark with. -/
def marks (n : Nat) : List Nat := (List.range n).map fun (i : Nat) => floatOfInt .f32 ((i : Int) + 1)
theorem marks_len (n : Nat) : (marks n).length = n := by simp [marks]
theorem marks_get (n i : Nat) (h : i < (marks n).length) : (marks n)[i] = floatOfInt .f32 ((i : Int) + 1) := by simp [marks]
def MarkPost (base : Nat) (v : Value) (n : Nat) (w : World) (e : Ending) (w' : World) : Prop := e = .returned (.int .i64 ((n : Int) + 1)) ∧ FNew w' base v (marks n) ∧ w.grownBy w' v.ownBlock
theorem MarkPost.mk {base : Nat} {v : Value} {n : Nat} {w w' : World} {m : Int} (hm : m = (n : Int) + 1) (h : FNew w' base v (marks n)) (hg : w.grownBy w' v.ownBlock) : MarkPost base v n w (.returned (.int .i64 m)) w' := ⟨by rw [hm], h, hg⟩
set_option maxHeartbeats 2000000 in
theorem markFloats_any (base : Nat) (v : Value) (xs : List Nat) (w : World) (h : FNew w base v xs) (hl : xs.length ≤ 1000000000) :
    Calls Try.prog 41 #[v, .int .i64 1] w fun e w' => MarkPost base v xs.length w e w' := by
  rcases h with ⟨rfl, rfl⟩ | ⟨g, cap, rfl, hbase, hcap, hm⟩
  · go_enter Try.func41, Try.ntmps41
    go_wp2
    go_loop [1, 5] (fun kk i => kk = .int .i64 1 ∧ i = .int .i64 0) (fun _ _ => 0)
    case atStart => exact ⟨rfl, rfl⟩
    case round =>
      obtain ⟨rfl, rfl⟩ := hrel
      go_wp2
      go_ret
      exact MarkPost.mk rfl (FNew.nil _ _) (World.grownBy.refl _ _)
  · have HST := Lib.hid (hm.zero (ys := marks xs.length))
    clear hm
    go_enter Try.func41, Try.ntmps41
    go_wp2
    go_loopw [1, 5] (fun kk i wr => ∃ k : Nat, k ≤ xs.length ∧ i = .int .i64 (k : Int) ∧ kk = .int .i64 ((k : Int) + 1) ∧ w.grownBy wr (some g) ∧ MadeF wr g xs.length k (marks xs.length)) (fun _ i _ => xs.length - (intOf i).toNat)
    case atStart => exact ⟨0, Nat.zero_le _, rfl, rfl, World.grownBy.refl _ _, HST.out⟩
    case round =>
      obtain ⟨k, hk, rfl, rfl, hg, hm⟩ := hrel
      have HM := Lib.hid hm
      clear hm HST
      by_cases hlt : k < xs.length
      · obtain ⟨⟨x0, hx0⟩, hf0⟩ := HM.out.at k hlt
        have hlm : k < (marks xs.length).length := by rw [marks_len]; exact hlt
        have hm3 := HM.out.step hlm (by rw [marks_len]; exact Nat.le_refl _)
        rw [marks_get] at hm3
        have HM3 := Lib.hid hm3
        have hg3 := hg.trans (Lib.grownBy_setCell wr g k (.float .f32 (floatOfInt .f32 ((k : Int) + 1))))
        clear hm3
        go_wp2
        go_roundw
        case rel => exact ⟨k + 1, by omega, by go_num, by go_num, hg3, HM3.out⟩
        case measure => simp [intOf]; omega
      · have hkk : k = xs.length := by omega
        subst hkk
        go_wp2
        go_ret
        exact MarkPost.mk rfl (.inr ⟨g, cap, by rw [marks_len], hbase, by rw [marks_len]; exact hcap, by rw [marks_len]; exact HM.out⟩) hg
theorem ofInt_num (n : Int) : (Ieee.single.read (floatOfInt .f32 n)).isNaN = false := Flt.nearest_ok Ieee.single (n < 0) n.natAbs 0
theorem ofInt_self (n : Int) : FloatKind.f32.format.order (floatOfInt .f32 n) (floatOfInt .f32 n) = some .eq := Flt.order_self (f := Ieee.single) (ofInt_num n)
end Go.Proofs.Ytgecclccmmcdoaa
