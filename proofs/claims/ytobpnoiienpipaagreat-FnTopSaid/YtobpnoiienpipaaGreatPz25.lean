/-
  What is proved: the walks of the program's effects that check samples before and behind another effect.
  Conditions: the samples can be read.
-/
import Derived.Test.YtobpnoiienpipaaGreatPz15
import Derived.Test.YtobpnoiienpipaaGreatPz08
import Derived.Test.YtobpnoiienpipaaGreatCellBy
namespace Go.Proofs.YtobpnoiienpipaaGreat
set_option linter.unusedVariables false
open Go.RowKit
attribute [local go_sem] run_store_float run_store_complex unary_negf neg256

set_option maxHeartbeats 1000000 in
theorem checkYes_any (v : Value) (xs : List Nat) (w : World) (h : FRow w v xs) (hl : xs.length ≤ 4000000) (hok : sampOk xs = true) :
    Calls Tryz.prog 202 #[.agg #[.func (.func 112) #[] #[]], v] w fun e w' => e = .returned (.tuple #[v, .bool true]) ∧ Below w.heap.size w w' := by
  obtain ⟨a, c, rfl⟩ := h.lenv
  have HS := fun W hr => Lib.hid (samplesOk_any (.slice a xs.length c) xs W hr hl)
  rw [hok] at HS
  have hb0 := (Below.refl w.heap.size w).alloc (Nat.le_refl _) (.cells #[.func (.func 112) #[] #[]] 142)
  have HR := Lib.hid (h.below hb0)
  clear h hok
  go_enter Tryz.func202, Tryz.ntmps202
  go_wp2_with fail
  refine (HS _ HR.out).out.mono ?_
  rintro e w1 ⟨rfl, rfl⟩
  go_wp2
  go_ret2
  exact ⟨rfl, hb0⟩
set_option maxHeartbeats 1000000 in
theorem checkNo_any (v : Value) (xs : List Nat) (w : World) (h : FRow w v xs) (hl : xs.length ≤ 4000000) (hok : sampOk xs = false) :
    Calls Tryz.prog 202 #[.agg #[.func (.func 112) #[] #[]], v] w fun e w' => e = .returned (.tuple #[.slice none 0 0, .bool false]) ∧ Below w.heap.size w w' := by
  obtain ⟨a, c, rfl⟩ := h.lenv
  have HS := fun W hr => Lib.hid (samplesOk_any (.slice a xs.length c) xs W hr hl)
  rw [hok] at HS
  have hb0 := (Below.refl w.heap.size w).alloc (Nat.le_refl _) (.cells #[.func (.func 112) #[] #[]] 142)
  have HR := Lib.hid (h.below hb0)
  clear h hok
  go_enter Tryz.func202, Tryz.ntmps202
  go_wp2_with fail
  refine (HS _ HR.out).out.mono ?_
  rintro e w1 ⟨rfl, rfl⟩
  go_wp2
  go_ret2
  exact ⟨rfl, hb0⟩
/-- An answer of a list and whether there is one; the list lies in new memory. -/
def OnB (R : List Nat → Bool → Prop) (w : World) (e : Ending) (w' : World) : Prop := ∃ v ys ok, e = .returned (.tuple #[v, .bool ok]) ∧ R ys ok ∧ FNew w' w.heap.size v ys ∧ Below w.heap.size w w'
/-- What an effect between two checks may answer. -/
def InR (E : List Nat → Bool → Prop) (xs ys : List Nat) (ok : Bool) : Prop := if sampOk xs = true then E ys ok else ys = [] ∧ ok = false
theorem onCheck (v : Value) (w : World) : (method 234 142 v "loop.example/g03326/impl.on").run Tryz.prog w = .ok (202, v) w := by kernel_rfl
theorem onGain (v : Value) (w : World) : (method 234 124 v "loop.example/g03326/impl.on").run Tryz.prog w = .ok (197, v) w := by kernel_rfl
theorem onChain (v : Value) (w : World) : (method 234 144 v "loop.example/g03326/impl.on").run Tryz.prog w = .ok (203, v) w := by kernel_rfl
set_option maxHeartbeats 1000000 in
set_option maxRecDepth 100000 in
theorem innerGain_any (E : List Nat → Bool → Prop) (A O X Y : Nat) (v : Value) (xs : List Nat) (w : World) (h : FRow w v xs) (hl : xs.length ≤ 4000000)
    (HE : sampOk xs = true → ∀ W, FRow W v xs → Hid (Calls Tryz.prog 197 #[.agg #[.float .f32 A, .float .f32 O, .complex .f32 X Y], v] W fun e w' => OnB E W e w')) :
    Calls Tryz.prog 203 #[.agg #[.iface 142 (.agg #[.func (.func 112) #[] #[]]), .iface 124 (.agg #[.float .f32 A, .float .f32 O, .complex .f32 X Y])], v] w fun e w' => OnB (InR E xs) w e w' := by
  obtain ⟨a, c, rfl⟩ := h.lenv
  have hb0 := (Below.refl w.heap.size w).alloc (Nat.le_refl _) (.cells #[.iface 142 (.agg #[.func (.func 112) #[] #[]]), .iface 124 (.agg #[.float .f32 A, .float .f32 O, .complex .f32 X Y])] 144)
  have hE := heap_alloc_new w (.cells #[.iface 142 (.agg #[.func (.func 112) #[] #[]]), .iface 124 (.agg #[.float .f32 A, .float .f32 O, .complex .f32 X Y])] 144)
  have hc1 : (w.alloc (.cells #[.iface 142 (.agg #[.func (.func 112) #[] #[]]), .iface 124 (.agg #[.float .f32 A, .float .f32 O, .complex .f32 X Y])] 144)).cell? ⟨w.heap.size, 1, none⟩ = some (.iface 124 (.agg #[.float .f32 A, .float .f32 O, .complex .f32 X Y])) := (cell_of_row _ _ 1 _ _ _ hE).trans rfl
  have hm1 := onCheck (.agg #[.func (.func 112) #[] #[]])
  have HR := Lib.hid (h.below hb0)
  clear hE
  cases hok : sampOk xs with
  | false =>
    have HC := fun W hr => Lib.hid (checkNo_any (.slice a xs.length c) xs W hr hl hok)
    have HQ := Lib.hid (show InR E xs [] false by unfold InR; rw [hok]; exact ⟨rfl, rfl⟩)
    clear hok h
    go_enter Tryz.func203, Tryz.ntmps203
    go_wp2_with fail
    generalize w.alloc (.cells #[.iface 142 (.agg #[.func (.func 112) #[] #[]]), .iface 124 (.agg #[.float .f32 A, .float .f32 O, .complex .f32 X Y])] 144) = wA at *
    refine (HC _ HR.out).out.mono ?_
    rintro e w1 ⟨rfl, hb1⟩
    have hb01 := below_trans hb0 hb1 hb0.size
    clear hc1
    go_wp2
    go_ret2
    exact ⟨_, [], false, rfl, HQ.out, FNew.nil _ _, hb01⟩
  | true =>
    have HE := HE hok
    have hm2 := onGain (.agg #[.float .f32 A, .float .f32 O, .complex .f32 X Y])
    have HC := fun W hr => Lib.hid (checkYes_any (.slice a xs.length c) xs W hr hl hok)
    have HQ := fun ys ok (he : E ys ok) => Lib.hid (show InR E xs ys ok by unfold InR; rw [hok]; exact he)
    clear hok h
    go_enter Tryz.func203, Tryz.ntmps203
    go_wp2_with fail
    generalize w.alloc (.cells #[.iface 142 (.agg #[.func (.func 112) #[] #[]]), .iface 124 (.agg #[.float .f32 A, .float .f32 O, .complex .f32 X Y])] 144) = wA at *
    refine (HC _ HR.out).out.mono ?_
    rintro e w1 ⟨rfl, hb1⟩
    have hb01 := below_trans hb0 hb1 hb0.size
    have HR1 := Lib.hid (HR.out.below hb1)
    have hc2 := (grown_of hb1).cell hc1 (by simp)
    clear hc1 HR hm1 HC
    go_wp2_with fail
    refine (HE _ HR1.out).out.mono ?_
    rintro e w2 ⟨v2, ys, ok, rfl, he, hn, hb2⟩
    have HE2 := Lib.hid (HQ ys ok he).out
    have HN := Lib.hid (hn.mono hb01.size)
    have hb02 := below_trans hb01 hb2 hb01.size
    clear HQ he hn HE hc2
    go_wp2
    go_ret2
    exact ⟨v2, ys, ok, rfl, HE2.out, HN.out, hb02⟩
/-- What an effect between two checks may answer, checked again. -/
def OutR (I : List Nat → Bool → Prop) (ys : List Nat) (ok : Bool) : Prop := ∃ ys0 ok0, I ys0 ok0 ∧ ((ok0 = true ∧ sampOk ys0 = true ∧ ys = ys0 ∧ ok = true) ∨ ((ok0 = false ∨ sampOk ys0 = false) ∧ ys = [] ∧ ok = false))
set_option maxHeartbeats 1000000 in
set_option maxRecDepth 100000 in
theorem outer_any (I : List Nat → Bool → Prop) (iv : Value) (v : Value) (xs : List Nat) (w : World) (h : FRow w v xs) (hl : ∀ ys ok, I ys ok → ys.length ≤ 4000000)
    (HI : ∀ W, FRow W v xs → Hid (Calls Tryz.prog 203 #[iv, v] W fun e w' => OnB I W e w')) :
    Calls Tryz.prog 203 #[.agg #[.iface 144 iv, .iface 142 (.agg #[.func (.func 112) #[] #[]])], v] w fun e w' => OnB (OutR I) w e w' := by
  obtain ⟨a, c, rfl⟩ := h.lenv
  have hb0 := (Below.refl w.heap.size w).alloc (Nat.le_refl _) (.cells #[.iface 144 iv, .iface 142 (.agg #[.func (.func 112) #[] #[]])] 144)
  have hE := heap_alloc_new w (.cells #[.iface 144 iv, .iface 142 (.agg #[.func (.func 112) #[] #[]])] 144)
  have hc1 : (w.alloc (.cells #[.iface 144 iv, .iface 142 (.agg #[.func (.func 112) #[] #[]])] 144)).cell? ⟨w.heap.size, 1, none⟩ = some (.iface 142 (.agg #[.func (.func 112) #[] #[]])) := (cell_of_row _ _ 1 _ _ _ hE).trans rfl
  have hm1 := onChain iv
  have HR := Lib.hid (h.below hb0)
  clear hE h
  go_enter Tryz.func203, Tryz.ntmps203
  go_wp2_with fail
  generalize w.alloc (.cells #[.iface 144 iv, .iface 142 (.agg #[.func (.func 112) #[] #[]])] 144) = wA at *
  refine (HI _ HR.out).out.mono ?_
  rintro e w1 ⟨v1, ys, ok, rfl, hi, hn, hb1⟩
  have hb01 := below_trans hb0 hb1 hb0.size
  have hc2 := (grown_of hb1).cell hc1 (by simp)
  have HL := Lib.hid (hl ys ok hi)
  have HII := Lib.hid hi
  have HN := Lib.hid (hn.mono hb0.size)
  obtain ⟨a1, c1, rfl⟩ := hn.row.lenv
  clear hc1 HR hm1 HI hi hn hl
  cases ok with
  | false =>
    clear hc2
    go_wp2
    go_ret2
    exact ⟨_, [], false, rfl, ⟨ys, false, HII.out, .inr ⟨.inl rfl, rfl, rfl⟩⟩, FNew.nil _ _, hb01⟩
  | true =>
    have hm2 := onCheck (.agg #[.func (.func 112) #[] #[]])
    cases hok : sampOk ys with
    | false =>
      have HC := Lib.hid (checkNo_any (.slice a1 ys.length c1) ys w1 HN.out.row HL.out hok)
      have HOK := Lib.hid hok
      clear hok
      go_wp2_with fail
      refine HC.out.mono ?_
      rintro e w2 ⟨rfl, hb2⟩
      have hb02 := below_trans hb01 hb2 hb01.size
      clear hc2
      go_wp2
      go_ret2
      exact ⟨_, [], false, rfl, ⟨ys, true, HII.out, .inr ⟨.inr HOK.out, rfl, rfl⟩⟩, FNew.nil _ _, hb02⟩
    | true =>
      have HC := Lib.hid (checkYes_any (.slice a1 ys.length c1) ys w1 HN.out.row HL.out hok)
      have HOK := Lib.hid hok
      clear hok
      go_wp2_with fail
      refine HC.out.mono ?_
      rintro e w2 ⟨rfl, hb2⟩
      have hb02 := below_trans hb01 hb2 hb01.size
      have HN2 := Lib.hid (HN.out.below hb2)
      clear hc2
      go_wp2
      go_ret2
      exact ⟨_, ys, true, rfl, ⟨ys, true, HII.out, .inl ⟨rfl, HOK.out, rfl, rfl⟩⟩, HN2.out, hb02⟩
end Go.Proofs.YtobpnoiienpipaaGreat

/-
  What is proved: the walks of the program's Transmit and Echo, up to what the effect does that stands between the checks.
  Conditions: the samples can be read.
-/
namespace Go.Proofs.YtobpnoiienpipaaGreat
set_option linter.unusedVariables false
open Go.RowKit
attribute [local go_sem] run_store_float run_store_complex unary_negf neg256

theorem run_store_fn (P : Program) (w : World) (a : Addr) (m : Mode) (fn : Fn) (first captured : Array Value) : (store a (.func fn first captured) m).run P w = stored P w a (.func fn first captured) m := run_store P w a _ m rfl
attribute [local go_sem] run_store_fn
set_option maxRecDepth 100000 in
theorem checked_any (T : TypeId) (ev : Value) (w : World) :
    Calls Tryz.prog 86 #[.iface T ev] w fun e w' => e = .returned (.iface 144 (.agg #[.iface 144 (.agg #[.iface 142 (.agg #[.func (.func 112) #[] #[]]), .iface T ev]), .iface 142 (.agg #[.func (.func 112) #[] #[]])])) ∧ Below w.heap.size w w' := by
  have hb0 := (Below.refl w.heap.size w).alloc (Nat.le_refl _) (.cells #[.func (.func 112) #[] #[]] 142)
  go_enter Tryz.func86, Tryz.ntmps86
  go_wp2
  go_ret
  exact ⟨rfl, hb0⟩
set_option maxHeartbeats 1000000 in
set_option maxRecDepth 100000 in
theorem transmitBy_any (E : List Nat → Bool → Prop) (A O X Y : Nat) (v : Value) (xs : List Nat) (w : World) (h : FRow w v xs) (hl : xs.length ≤ 4000000) (hlE : ∀ ys ok, E ys ok → ys.length ≤ 4000000)
    (HE : sampOk xs = true → ∀ W, FRow W v xs → Hid (Calls Tryz.prog 197 #[.agg #[.float .f32 A, .float .f32 O, .complex .f32 X Y], v] W fun e w' => OnB E W e w')) :
    Calls Tryz.prog 57 #[.agg #[.float .f32 A, .float .f32 O, .complex .f32 X Y], v] w fun e w' => OnB (OutR (InR E xs)) w e w' := by
  obtain ⟨a, c, rfl⟩ := h.lenv
  have hin : ∀ ys ok, InR E xs ys ok → ys.length ≤ 4000000 := by
    intro ys ok hi
    unfold InR at hi
    split at hi
    · exact hlE ys ok hi
    · rw [hi.1]; exact Nat.zero_le _
  have HO := fun W (hr : FRow W (.slice a xs.length c) xs) => Lib.hid (outer_any (InR E xs) (.agg #[.iface 142 (.agg #[.func (.func 112) #[] #[]]), .iface 124 (.agg #[.float .f32 A, .float .f32 O, .complex .f32 X Y])]) (.slice a xs.length c) xs W hr hin (fun W hr => Lib.hid (innerGain_any E A O X Y (.slice a xs.length c) xs W hr hl HE)))
  have hm := onChain (.agg #[.iface 144 (.agg #[.iface 142 (.agg #[.func (.func 112) #[] #[]]), .iface 124 (.agg #[.float .f32 A, .float .f32 O, .complex .f32 X Y])]), .iface 142 (.agg #[.func (.func 112) #[] #[]])])
  have hb0 := (Below.refl w.heap.size w).alloc (Nat.le_refl _) (.cells #[.float .f32 A, .float .f32 O, .complex .f32 X Y] 28)
  obtain ⟨c0, c1, c2, _, _, _⟩ := (LieC.new w A O X Y).all
  have HR := Lib.hid (h.below hb0)
  clear h HE hlE hin
  go_enter Tryz.func57, Tryz.ntmps57
  go_wp2_with fail
  generalize w.alloc (.cells #[.float .f32 A, .float .f32 O, .complex .f32 X Y] 28) = wA at *
  refine (checked_any _ _ _).mono ?_
  rintro e w1 ⟨rfl, hb1⟩
  have HR1 := Lib.hid (HR.out.below hb1)
  have hb1 := below_trans hb0 hb1 hb0.size
  clear c0 c1 c2
  go_wp2_with fail
  refine (HO _ HR1.out).out.mono ?_
  rintro e w2 ⟨v2, ys, ok, rfl, ho, hn, hb2⟩
  have HN := Lib.hid (And.intro ho (hn.mono hb1.size))
  have hb02 := below_trans hb1 hb2 hb1.size
  clear ho hn hm HO
  go_wp2
  go_ret2
  exact ⟨v2, ys, ok, rfl, HN.out.1, HN.out.2, hb02⟩
end Go.Proofs.YtobpnoiienpipaaGreat

/-
  What is proved: the walk of the program's Transmit, at channels of small numbers.
  Conditions: the samples can be read; the channel is valid, and its numbers are bounded.
-/
namespace Go.Proofs.YtobpnoiienpipaaGreat
set_option linter.unusedVariables false
open Go.RowKit
open Flt (Mag sumv subv mulv quov Q)
attribute [local go_sem] run_store_float run_store_complex unary_negf neg256

theorem txs_len (h : Chn) : ∀ (m : Nat) (xs : List Nat), xs.length = 4 * m → (txs h xs).length = xs.length := by
  intro m xs hx
  rw [txs_cells h m xs hx, enc_len, List.length_map, List.length_range]
  omega
set_option maxHeartbeats 2000000 in
set_option maxRecDepth 100000 in
theorem gainOn_any (A O X Y : Nat) (v : Value) (xs : List Nat) (w : World) (h : FRow w v xs) (hl : xs.length ≤ 4000000) (hok : ChOk ⟨A, O, X, Y⟩) (hh : MagH ⟨A, O, X, Y⟩) (hs : sampOk xs = true) :
    Calls Tryz.prog 197 #[.agg #[.float .f32 A, .float .f32 O, .complex .f32 X Y], v] w fun e w' => OnB (fun ys ok => ys = txs ⟨A, O, X, Y⟩ xs ∧ ok = true) w e w' := by
  obtain ⟨a, c, rfl⟩ := h.lenv
  have hmf : ∀ (fn : Fn) (first cap : Array Value) (w : World), (Instr.makeFunc fn first cap).run Tryz.prog w = .ok (.func fn first cap) w := fun _ _ _ _ => rfl
  have hb0 := (Below.refl w.heap.size w).alloc (Nat.le_refl _) (.cells #[.float .f32 A, .float .f32 O, .complex .f32 X Y] 124)
  have hE := heap_alloc_new w (.cells #[.float .f32 A, .float .f32 O, .complex .f32 X Y] 124)
  have HO := fun W => Lib.hid (channelOk_any A O X Y W hok)
  have HC := fun W hr => Lib.hid (cellBy_any A O X Y (.slice a xs.length c) xs W hr (sampOk_len hs).1 hl hh (fun x hx => fin1_mag (sampOk_all hs x hx)))
  have c0 : (w.alloc (.cells #[.float .f32 A, .float .f32 O, .complex .f32 X Y] 124)).cell? ⟨w.heap.size, 0, none⟩ = some (.float .f32 A) := (cell_of_row _ _ 0 _ _ _ hE).trans rfl
  have c1 : (w.alloc (.cells #[.float .f32 A, .float .f32 O, .complex .f32 X Y] 124)).cell? ⟨w.heap.size, 1, none⟩ = some (.float .f32 O) := (cell_of_row _ _ 1 _ _ _ hE).trans rfl
  have c2 : (w.alloc (.cells #[.float .f32 A, .float .f32 O, .complex .f32 X Y] 124)).cell? ⟨w.heap.size, 2, none⟩ = some (.complex .f32 X Y) := (cell_of_row _ _ 2 _ _ _ hE).trans rfl
  have HR := Lib.hid (h.below hb0)
  clear h hE hok hh hs
  go_enter Tryz.func197, Tryz.ntmps197
  go_wp2_with fail
  generalize w.alloc (.cells #[.float .f32 A, .float .f32 O, .complex .f32 X Y] 124) = wA at *
  refine (HO _).out.mono ?_
  rintro e w1 ⟨rfl, hb1⟩
  have k0 := (grown_of hb1).cell c0 (by simp)
  have k1 := (grown_of hb1).cell c1 (by simp)
  have k2 := (grown_of hb1).cell c2 (by simp)
  have HR1 := Lib.hid (HR.out.below hb1)
  have hb01 := below_trans hb0 hb1 hb0.size
  clear c0 c1 c2 HR hb1
  go_wp2_with fail
  refine (HC _ HR1.out).out.mono ?_
  rintro e w2 ⟨v2, rfl, hn2, hb2⟩
  have HN := Lib.hid (hn2.mono hb01.size)
  have hb02 := below_trans hb01 hb2 hb01.size
  clear hn2 hb2
  go_wp2
  go_ret2
  exact ⟨v2, _, true, rfl, ⟨rfl, rfl⟩, HN.out, hb02⟩
/-- A channel of small numbers, and samples that it takes to valid ones. -/
theorem transmit_any (A O X Y : Nat) (v : Value) (xs : List Nat) (w : World) (h : FRow w v xs) (hok : ChOk ⟨A, O, X, Y⟩) (hh : MagH ⟨A, O, X, Y⟩) (hs : sampOk xs = true) (ht : sampOk (txs ⟨A, O, X, Y⟩ xs) = true) :
    Calls Tryz.prog 57 #[.agg #[.float .f32 A, .float .f32 O, .complex .f32 X Y], v] w fun e w' => Ans true (fun ys => ys = txs ⟨A, O, X, Y⟩ xs) w e w' := by
  have hl := sampOk_len hs
  have hl2 := sampOk_len ht
  refine (transmitBy_any (fun ys ok => ys = txs ⟨A, O, X, Y⟩ xs ∧ ok = true) A O X Y v xs w h (by omega) (fun ys ok h => by rw [h.1]; omega) (fun _ W hr => Lib.hid (gainOn_any A O X Y v xs W hr (by omega) hok hh hs))).mono ?_
  rintro e w' ⟨v2, ys, ok, rfl, ⟨r, o, hi, hr⟩, hn, hb⟩
  unfold InR at hi
  rw [if_pos hs] at hi
  obtain ⟨rfl, rfl⟩ := hi
  rcases hr with ⟨_, _, rfl, rfl⟩ | ⟨s1, _, _⟩
  · exact ⟨v2, _, rfl, rfl, hn, hb⟩
  · rcases s1 with s1 | s1
    · cases s1
    · rw [ht] at s1; cases s1
end Go.Proofs.YtobpnoiienpipaaGreat
