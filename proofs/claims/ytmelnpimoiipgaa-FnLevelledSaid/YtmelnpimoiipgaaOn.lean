/-
  What is proved: the walks of the program's effects that check samples before and behind another effect.
  Conditions: the samples can be read.
-/
import Derived.Test.YtmelnpimoiipgaaSampOk
import Derived.Test.YtmelnpimoiipgaaDelay
namespace Go.Proofs.Ytmelnpimoiipgaa
set_option linter.unusedVariables false
open Go.RowKit
attribute [local go_sem] run_store_float run_store_complex unary_negf neg256

/-- An effect that checks samples. -/
def chkV : Value := .agg #[.func (.func 99) #[] #[]]
set_option maxHeartbeats 1000000 in
theorem checkYes_any (v : Value) (xs : List Nat) (w : World) (h : FRow w v xs) (hl : xs.length ≤ 4000000) (hok : sampOk xs = true) :
    Calls Try.prog 148 #[.agg #[.func (.func 99) #[] #[]], v] w fun e w' => e = .returned (.tuple #[v, .bool true]) ∧ Below w.heap.size w w' := by
  obtain ⟨a, c, rfl⟩ := h.lenv
  have HS := fun W hr => Lib.hid (samplesOk_any (.slice a xs.length c) xs W hr hl)
  rw [hok] at HS
  have hb0 := (Below.refl w.heap.size w).alloc (Nat.le_refl _) (.cells #[.func (.func 99) #[] #[]] 120)
  have HR := Lib.hid (h.below hb0)
  clear h hok
  go_enter Try.func148, Try.ntmps148
  go_wp2_with fail
  refine (HS _ HR.out).out.mono ?_
  rintro e w1 ⟨rfl, rfl⟩
  go_wp2
  go_ret2
  exact ⟨rfl, hb0⟩
set_option maxHeartbeats 1000000 in
theorem checkNo_any (v : Value) (xs : List Nat) (w : World) (h : FRow w v xs) (hl : xs.length ≤ 4000000) (hok : sampOk xs = false) :
    Calls Try.prog 148 #[.agg #[.func (.func 99) #[] #[]], v] w fun e w' => e = .returned (.tuple #[.slice none 0 0, .bool false]) ∧ Below w.heap.size w w' := by
  obtain ⟨a, c, rfl⟩ := h.lenv
  have HS := fun W hr => Lib.hid (samplesOk_any (.slice a xs.length c) xs W hr hl)
  rw [hok] at HS
  have hb0 := (Below.refl w.heap.size w).alloc (Nat.le_refl _) (.cells #[.func (.func 99) #[] #[]] 120)
  have HR := Lib.hid (h.below hb0)
  clear h hok
  go_enter Try.func148, Try.ntmps148
  go_wp2_with fail
  refine (HS _ HR.out).out.mono ?_
  rintro e w1 ⟨rfl, rfl⟩
  go_wp2
  go_ret2
  exact ⟨rfl, hb0⟩
/-- An answer of a list and whether there is one; the list lies in new memory. -/
def OnB (R : List Nat → Bool → Prop) (w : World) (e : Ending) (w' : World) : Prop := ∃ v ys ok, e = .returned (.tuple #[v, .bool ok]) ∧ R ys ok ∧ FNew w' w.heap.size v ys ∧ Below w.heap.size w w'
/-- What an effect between two checks may answer. -/
def InR (E : List Nat → Bool → Prop) (xs ys : List Nat) (ok : Bool) : Prop := if sampOk xs = true then E ys ok else ys = [] ∧ ok = false
theorem onCheck (v : Value) (w : World) : (method 234 120 v "loop.example/g03326/impl.on").run Try.prog w = .ok (148, v) w := by kernel_rfl
theorem onGain (v : Value) (w : World) : (method 234 101 v "loop.example/g03326/impl.on").run Try.prog w = .ok (140, v) w := by kernel_rfl
theorem onChain (v : Value) (w : World) : (method 234 122 v "loop.example/g03326/impl.on").run Try.prog w = .ok (149, v) w := by kernel_rfl
set_option maxHeartbeats 1000000 in
set_option maxRecDepth 100000 in
theorem innerGain_any (E : List Nat → Bool → Prop) (A O X Y : Nat) (v : Value) (xs : List Nat) (w : World) (h : FRow w v xs) (hl : xs.length ≤ 4000000)
    (HE : sampOk xs = true → ∀ W, FRow W v xs → Hid (Calls Try.prog 140 #[.agg #[.float .f32 A, .float .f32 O, .complex .f32 X Y], v] W fun e w' => OnB E W e w')) :
    Calls Try.prog 149 #[.agg #[.iface 120 (.agg #[.func (.func 99) #[] #[]]), .iface 101 (.agg #[.float .f32 A, .float .f32 O, .complex .f32 X Y])], v] w fun e w' => OnB (InR E xs) w e w' := by
  obtain ⟨a, c, rfl⟩ := h.lenv
  have hb0 := (Below.refl w.heap.size w).alloc (Nat.le_refl _) (.cells #[.iface 120 (.agg #[.func (.func 99) #[] #[]]), .iface 101 (.agg #[.float .f32 A, .float .f32 O, .complex .f32 X Y])] 122)
  have hE := heap_alloc_new w (.cells #[.iface 120 (.agg #[.func (.func 99) #[] #[]]), .iface 101 (.agg #[.float .f32 A, .float .f32 O, .complex .f32 X Y])] 122)
  have hc1 : (w.alloc (.cells #[.iface 120 (.agg #[.func (.func 99) #[] #[]]), .iface 101 (.agg #[.float .f32 A, .float .f32 O, .complex .f32 X Y])] 122)).cell? ⟨w.heap.size, 1, none⟩ = some (.iface 101 (.agg #[.float .f32 A, .float .f32 O, .complex .f32 X Y])) := (cell_of_row _ _ 1 _ _ _ hE).trans rfl
  have hm1 := onCheck (.agg #[.func (.func 99) #[] #[]])
  have HR := Lib.hid (h.below hb0)
  clear hE
  cases hok : sampOk xs with
  | false =>
    have HC := fun W hr => Lib.hid (checkNo_any (.slice a xs.length c) xs W hr hl hok)
    have HQ := Lib.hid (show InR E xs [] false by unfold InR; rw [hok]; exact ⟨rfl, rfl⟩)
    clear hok h
    go_enter Try.func149, Try.ntmps149
    go_wp2_with fail
    generalize w.alloc (.cells #[.iface 120 (.agg #[.func (.func 99) #[] #[]]), .iface 101 (.agg #[.float .f32 A, .float .f32 O, .complex .f32 X Y])] 122) = wA at *
    refine (HC _ HR.out).out.mono ?_
    rintro e w1 ⟨rfl, hb1⟩
    have hb01 := below_trans hb0 hb1 hb0.size
    clear hc1
    go_wp2
    go_ret2
    exact ⟨_, [], false, rfl, HQ.out, FNew.nil _ _, hb01⟩
  | true =>
    have HE := HE hok
    have hm2 := onGain (.agg #[.float .f32 A, .float .f32 O, .complex .f32 X Y])
    have HC := fun W hr => Lib.hid (checkYes_any (.slice a xs.length c) xs W hr hl hok)
    have HQ := fun ys ok (he : E ys ok) => Lib.hid (show InR E xs ys ok by unfold InR; rw [hok]; exact he)
    clear hok h
    go_enter Try.func149, Try.ntmps149
    go_wp2_with fail
    generalize w.alloc (.cells #[.iface 120 (.agg #[.func (.func 99) #[] #[]]), .iface 101 (.agg #[.float .f32 A, .float .f32 O, .complex .f32 X Y])] 122) = wA at *
    refine (HC _ HR.out).out.mono ?_
    rintro e w1 ⟨rfl, hb1⟩
    have hb01 := below_trans hb0 hb1 hb0.size
    have HR1 := Lib.hid (HR.out.below hb1)
    have hc2 := (grown_of hb1).cell hc1 (by simp)
    clear hc1 HR hm1 HC
    go_wp2_with fail
    refine (HE _ HR1.out).out.mono ?_
    rintro e w2 ⟨v2, ys, ok, rfl, he, hn, hb2⟩
    have HE2 := Lib.hid (HQ ys ok he).out
    have HN := Lib.hid (hn.mono hb01.size)
    have hb02 := below_trans hb01 hb2 hb01.size
    clear HQ he hn HE hc2
    go_wp2
    go_ret2
    exact ⟨v2, ys, ok, rfl, HE2.out, HN.out, hb02⟩
/-- What an effect between two checks may answer, checked again. -/
def OutR (I : List Nat → Bool → Prop) (ys : List Nat) (ok : Bool) : Prop := ∃ ys0 ok0, I ys0 ok0 ∧ ((ok0 = true ∧ sampOk ys0 = true ∧ ys = ys0 ∧ ok = true) ∨ ((ok0 = false ∨ sampOk ys0 = false) ∧ ys = [] ∧ ok = false))
set_option maxHeartbeats 1000000 in
set_option maxRecDepth 100000 in
theorem outer_any (I : List Nat → Bool → Prop) (iv : Value) (v : Value) (xs : List Nat) (w : World) (h : FRow w v xs) (hl : ∀ ys ok, I ys ok → ys.length ≤ 4000000)
    (HI : ∀ W, FRow W v xs → Hid (Calls Try.prog 149 #[iv, v] W fun e w' => OnB I W e w')) :
    Calls Try.prog 149 #[.agg #[.iface 122 iv, .iface 120 (.agg #[.func (.func 99) #[] #[]])], v] w fun e w' => OnB (OutR I) w e w' := by
  obtain ⟨a, c, rfl⟩ := h.lenv
  have hb0 := (Below.refl w.heap.size w).alloc (Nat.le_refl _) (.cells #[.iface 122 iv, .iface 120 (.agg #[.func (.func 99) #[] #[]])] 122)
  have hE := heap_alloc_new w (.cells #[.iface 122 iv, .iface 120 (.agg #[.func (.func 99) #[] #[]])] 122)
  have hc1 : (w.alloc (.cells #[.iface 122 iv, .iface 120 (.agg #[.func (.func 99) #[] #[]])] 122)).cell? ⟨w.heap.size, 1, none⟩ = some (.iface 120 (.agg #[.func (.func 99) #[] #[]])) := (cell_of_row _ _ 1 _ _ _ hE).trans rfl
  have hm1 := onChain iv
  have HR := Lib.hid (h.below hb0)
  clear hE h
  go_enter Try.func149, Try.ntmps149
  go_wp2_with fail
  generalize w.alloc (.cells #[.iface 122 iv, .iface 120 (.agg #[.func (.func 99) #[] #[]])] 122) = wA at *
  refine (HI _ HR.out).out.mono ?_
  rintro e w1 ⟨v1, ys, ok, rfl, hi, hn, hb1⟩
  have hb01 := below_trans hb0 hb1 hb0.size
  have hc2 := (grown_of hb1).cell hc1 (by simp)
  have HL := Lib.hid (hl ys ok hi)
  have HII := Lib.hid hi
  have HN := Lib.hid (hn.mono hb0.size)
  obtain ⟨a1, c1, rfl⟩ := hn.row.lenv
  clear hc1 HR hm1 HI hi hn hl
  cases ok with
  | false =>
    clear hc2
    go_wp2
    go_ret2
    exact ⟨_, [], false, rfl, ⟨ys, false, HII.out, .inr ⟨.inl rfl, rfl, rfl⟩⟩, FNew.nil _ _, hb01⟩
  | true =>
    have hm2 := onCheck (.agg #[.func (.func 99) #[] #[]])
    cases hok : sampOk ys with
    | false =>
      have HC := Lib.hid (checkNo_any (.slice a1 ys.length c1) ys w1 HN.out.row HL.out hok)
      have HOK := Lib.hid hok
      clear hok
      go_wp2_with fail
      refine HC.out.mono ?_
      rintro e w2 ⟨rfl, hb2⟩
      have hb02 := below_trans hb01 hb2 hb01.size
      clear hc2
      go_wp2
      go_ret2
      exact ⟨_, [], false, rfl, ⟨ys, true, HII.out, .inr ⟨.inr HOK.out, rfl, rfl⟩⟩, FNew.nil _ _, hb02⟩
    | true =>
      have HC := Lib.hid (checkYes_any (.slice a1 ys.length c1) ys w1 HN.out.row HL.out hok)
      have HOK := Lib.hid hok
      clear hok
      go_wp2_with fail
      refine HC.out.mono ?_
      rintro e w2 ⟨rfl, hb2⟩
      have hb02 := below_trans hb01 hb2 hb01.size
      have HN2 := Lib.hid (HN.out.below hb2)
      clear hc2
      go_wp2
      go_ret2
      exact ⟨_, ys, true, rfl, ⟨ys, true, HII.out, .inl ⟨rfl, HOK.out, rfl, rfl⟩⟩, HN2.out, hb02⟩
end Go.Proofs.Ytmelnpimoiipgaa
