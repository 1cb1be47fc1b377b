/-
  What is proved: the walks of Report, the program's and the model's.
  Conditions: the set's log can be read; the library's table of powers of ten holds what its initialiser lays.
-/
import Derived.Test.YtobpnoiienpipaaDoorSetOk
import Derived.Test.YtobpnoiienpipaaDoorImplFixed
import Derived.Test.YtobpnoiienpipaaDoorPkTF
import Derived.Deep.RegionHeld3
namespace Go.Proofs.YtobpnoiienpipaaDoor
set_option linter.unusedVariables false
open Go.RowKit
attribute [local go_sem] run_store_float run_store_complex unary_negf neg256

/-- A single, widened. -/
def wid (x : Nat) : Nat := (floatToFloatBits .f32 x .f64).getD 0
theorem conv_wid {x : Nat} (h : isN x = false) (W : World) : (convert 24 76 (.float .f32 x)).run Tryd.prog W = .ok (.float .f64 (wid x)) W := by
  obtain ⟨r, hr, hn⟩ := conv_num h
  have e : wid x = r := by unfold wid; rw [hr]; rfl
  rw [e]
  exact run_convert_float_float (P := Tryd.prog) W 24 76 .f32 .f64 x r (by kernel_rfl) Tryd.underlying76 hr
/-- A single in thousandths. -/
def fixT (x : Nat) : List UInt8 := ffx ((tfx (wid x)).getD 0)
/-- What a set reports. -/
def repT (x : SetC) : List UInt8 := Lib.itoa x.c ++ 32 :: (Lib.itoa x.r ++ 32 :: (fixT x.s ++ 32 :: (fixT x.l ++ 32 :: fixT x.t)))
theorem div_le_gen (q o u : Nat) (ho : o = 2 * q) (h : u < 2000000001 * q) : (u + q) / o ≤ 2000000001 := by
  subst ho
  exact Nat.div_le_of_le_mul (by omega)
theorem rnd_le {u : Nat} (h : u < 2000000001 * Flt.HALF) : Flt.rnd u ≤ 2000000001 := div_le_gen Flt.HALF Flt.ONE u Flt.one_two h
theorem sg_range (s : Bool) {k : Nat} (h : k ≤ 2000000001) : I64 (Flt.sg s k) := by
  unfold Flt.sg I64
  split <;> constructor <;> omega
theorem toFix_range (p : Nat) : I64 ((Flt.toFix p).getD 0) := by
  have hz : I64 0 := ⟨by decide, by decide⟩
  unfold Flt.toFix
  cases Ieee.double.read p with
  | number s m e =>
    dsimp only
    by_cases h : m * 2 ^ (e - Ieee.double.leastPlace).toNat < 2000000001 * Flt.HALF
    · rw [if_pos h]
      exact sg_range s (rnd_le h)
    · rw [if_neg h]
      exact hz
  | infinity s => exact hz
  | nan s q => exact hz
theorem tfx_range (x : Nat) : I64 ((tfx x).getD 0) := by
  unfold tfx
  cases Ieee.double.mul x 4652007308841189376 with
  | none => exact ⟨by decide, by decide⟩
  | some p => exact toFix_range p
theorem l08Fixed_any (x : Nat) (w : World) (h : isN x = false) :
    Calls Tryd.prog 69 #[.float .f32 x] w fun e w' => e = .returned (.string ⟨(fixT x).toArray⟩) ∧ Below w.heap.size w w' := by
  have hc := fun W => conv_wid h W
  have hr := tfx_range (wid x)
  have HT := fun W => Lib.hid (specToFixed_any (wid x) W)
  have HF := fun W => Lib.hid (specFormatFixed_any ((tfx (wid x)).getD 0) W hr.1 hr.2)
  unfold fixT
  unfold ToPost at HT
  generalize (tfx (wid x)).getD 0 = z at *
  generalize (tfx (wid x)).isSome = b at *
  generalize ffx z = t at *
  clear h
  go_enter Tryd.func69, Tryd.ntmps69
  go_wp2_with fail
  refine (HT _).out.mono ?_
  rintro e w1 ⟨rfl, hb1⟩
  go_wp2_with fail
  refine (HF _).out.mono ?_
  rintro e w2 ⟨rfl, hb2⟩
  go_wp2
  go_ret
  exact ⟨rfl, below_trans hb1 hb2 hb1.size⟩
theorem fixT_len (x : Nat) : (fixT x).length ≤ 100 := ffx_len _
theorem ge0_ok {x : Nat} (h : ge0 x = true) : isN x = false := by
  cases hn : isN x with
  | false => rfl
  | true =>
    unfold ge0 at h
    rw [show Ieee.single.order 0 x = none from Flt.order_nan (.inr hn)] at h
    cases h
theorem fin1_num' {x : Nat} (h : fin1 x = true) : isN x = false := by
  cases hn : isN x with
  | false => rfl
  | true =>
    unfold fin1 lo1 at h
    rw [show Ieee.single.order 3296722944 x = none from Flt.order_nan (.inr hn)] at h
    cases h
theorem setB_nums {x : SetC} {n : Nat} (h : setB x n = true) : isN x.s = false ∧ isN x.l = false ∧ isN x.t = false := by
  unfold setB at h
  simp only [Bool.and_eq_true] at h
  obtain ⟨_, _, _, h1, h2, _, h3, _, _⟩ := h
  exact ⟨fin1_num' h1, ge0_ok h2, ge0_ok h3⟩
theorem bcat' (a : List UInt8) (b : List UInt8) : (⟨a.toArray⟩ : ByteArray) ++ ⟨b.toArray⟩ = ⟨(a ++ b).toArray⟩ := by
  apply ByteArray.ext
  simp [ByteArray.data_append]
set_option maxRecDepth 100000 in
set_option maxHeartbeats 400000 in
theorem specReport_any (x : SetC) (v : Value) (ls : List (List UInt8)) (w : World) (hx : x.ok) (h : TRow w v ls) (hl : ls.length ≤ 3000000) :
    Calls Tryd.prog 40 #[x.val v] w fun e w' => e = .returned (.string ⟨(if setB x ls.length = true then repT x else []).toArray⟩) ∧ Below w.heap.size w w' := by
  have hb0 : Below w.heap.size w (w.alloc (.cells (x.cells v) 27)) := (Below.refl _ _).alloc (Nat.le_refl _) _
  have s0 : SetAt (w.alloc (.cells (x.cells v) 27)) w.heap.size x v := SetAt.new w x _ _
  have z0 : w.heap.size < (w.alloc (.cells (x.cells v) 27)).heap.size := by simp
  have HS := Lib.hid (specSetOk_any x v ls _ hx (h.below hb0) hl)
  have hnum := setB_nums (x := x) (n := ls.length)
  obtain ⟨b, hb⟩ : ∃ b, setB x ls.length = b := ⟨_, rfl⟩
  rw [hb] at HS ⊢
  rw [hb] at hnum
  obtain ⟨a, c, rfl⟩ := h.lenv
  clear hb h
  cases b with
  | false =>
    obtain ⟨xc, xr, xs, xl, xt⟩ := x
    simp only [SetC.val, SetC.cells] at *
    obtain ⟨q0, q1, q2, q3, q4, q5⟩ := id s0
    clear hx hnum
    go_enter Tryd.func40, Tryd.ntmps40
    go_wp2_with fail
    generalize World.alloc w _ = W0 at *
    refine HS.out.mono ?_
    rintro e w1 ⟨rfl, hb1⟩
    go_wp2
    go_ret
    exact ⟨rfl, below_trans hb0 hb1 hb0.size⟩
  | true =>
    obtain ⟨n1, n2, n3⟩ := hnum rfl
    obtain ⟨⟨i1, i2⟩, ⟨i3, i4⟩⟩ := id hx
    have HI := fun n W (h : I64 n) => Lib.hid (specFormatInt_any n W h.1 h.2)
    have HX := fun y W (h : isN y = false) => Lib.hid (l08Fixed_any y W h)
    obtain ⟨xc, xr, xs, xl, xt⟩ := x
    simp only [SetC.val, SetC.cells, repT] at *
    obtain ⟨hx1, hx2⟩ := hx
    obtain ⟨q0, q1, q2, q3, q4, q5⟩ := id s0
    clear hnum
    go_enter Tryd.func40, Tryd.ntmps40
    go_wp2_with fail
    generalize World.alloc w _ = W0 at *
    refine HS.out.mono ?_
    rintro e w1 ⟨rfl, hb1⟩
    have s1 := s0.keep hb1 z0
    have z1 := Nat.lt_of_lt_of_le z0 hb1.size
    have g1 := below_trans hb0 hb1 hb0.size
    clear q0 q1 q2 q3 q4 q5 s0 z0 hb0 hb1 HS
    obtain ⟨q0, q1, q2, q3, q4, q5⟩ := id s1
    go_wp2
    have g1' : Below w.heap.size w w1.drew := g1.drew
    have z1' : w.heap.size < w1.drew.heap.size := z1
    have l1 := Lib.itoa_length_le xc i1 i2
    have l2 := Lib.itoa_length_le xr i3 i4
    have l3 := fixT_len xs
    have l4 := fixT_len xl
    have l5 := fixT_len xt
    obtain ⟨t1, e1⟩ : ∃ t, Lib.itoa xc = t := ⟨_, rfl⟩
    obtain ⟨t2, e2⟩ : ∃ t, Lib.itoa xr = t := ⟨_, rfl⟩
    obtain ⟨t3, e3⟩ : ∃ t, fixT xs = t := ⟨_, rfl⟩
    obtain ⟨t4, e4⟩ : ∃ t, fixT xl = t := ⟨_, rfl⟩
    obtain ⟨t5, e5⟩ : ∃ t, fixT xt = t := ⟨_, rfl⟩
    rw [e1] at l1
    rw [e2] at l2
    rw [e3] at l3
    rw [e4] at l4
    rw [e5] at l5
    have E1 := Lib.hid e1
    have E2 := Lib.hid e2
    have E3 := Lib.hid e3
    have E4 := Lib.hid e4
    have E5 := Lib.hid e5
    clear e1 e2 e3 e4 e5
    have b0 : ¬ 9223372036854775807 < t1.length + 1 := by omega
    have b1 : ¬ 9223372036854775807 < t1.length + 1 + t2.length := by omega
    have b2 : ¬ 9223372036854775807 < t1.length + 1 + t2.length + 1 := by omega
    have b3 : ¬ 9223372036854775807 < t1.length + 1 + t2.length + 1 + t3.length := by omega
    have b4 : ¬ 9223372036854775807 < t1.length + 1 + t2.length + 1 + t3.length + 1 := by omega
    have b5 : ¬ 9223372036854775807 < t1.length + 1 + t2.length + 1 + t3.length + 1 + t4.length := by omega
    have b6 : ¬ 9223372036854775807 < t1.length + 1 + t2.length + 1 + t3.length + 1 + t4.length + 1 := by omega
    have b7 : ¬ 9223372036854775807 < t1.length + 1 + t2.length + 1 + t3.length + 1 + t4.length + 1 + t5.length := by omega
    have SN := Lib.hid (show ∀ V V' : World, Below V.heap.size V V' → (Below w.heap.size w V ∧ w.heap.size < V.heap.size ∧ V.cell? ⟨w.heap.size, 0, none⟩ = some (.int .i64 xc) ∧ V.cell? ⟨w.heap.size, 1, none⟩ = some (.int .i64 xr) ∧ V.cell? ⟨w.heap.size, 2, none⟩ = some (.float .f32 xs) ∧ V.cell? ⟨w.heap.size, 3, none⟩ = some (.float .f32 xl) ∧ V.cell? ⟨w.heap.size, 4, none⟩ = some (.float .f32 xt)) → (Below w.heap.size w V' ∧ w.heap.size < V'.heap.size ∧ V'.cell? ⟨w.heap.size, 0, none⟩ = some (.int .i64 xc) ∧ V'.cell? ⟨w.heap.size, 1, none⟩ = some (.int .i64 xr) ∧ V'.cell? ⟨w.heap.size, 2, none⟩ = some (.float .f32 xs) ∧ V'.cell? ⟨w.heap.size, 3, none⟩ = some (.float .f32 xl) ∧ V'.cell? ⟨w.heap.size, 4, none⟩ = some (.float .f32 xt)) from fun V V' hb ⟨a1, a2, a3, a4, a5, a6, a7⟩ =>
      ⟨below_trans a1 hb a1.size, Nat.lt_of_lt_of_le a2 hb.size, (hb.cell (p := ⟨_, 0, none⟩) a2).trans a3, (hb.cell (p := ⟨_, 1, none⟩) a2).trans a4, (hb.cell (p := ⟨_, 2, none⟩) a2).trans a5, (hb.cell (p := ⟨_, 3, none⟩) a2).trans a6, (hb.cell (p := ⟨_, 4, none⟩) a2).trans a7⟩)
    go_region_held3 (fun V => Below w.heap.size w V ∧ w.heap.size < V.heap.size ∧ V.cell? ⟨w.heap.size, 0, none⟩ = some (.int .i64 xc) ∧ V.cell? ⟨w.heap.size, 1, none⟩ = some (.int .i64 xr) ∧ V.cell? ⟨w.heap.size, 2, none⟩ = some (.float .f32 xs) ∧ V.cell? ⟨w.heap.size, 3, none⟩ = some (.float .f32 xl) ∧ V.cell? ⟨w.heap.size, 4, none⟩ = some (.float .f32 xt)) (first | exact KK | exact ⟨g1', z1', q0, q1, q2, q3, q4⟩ | go_keep) (first
      | (go_at_call 68; refine (HI _ _ (by first | exact hx1 | exact hx2)).out.mono ?_; rintro e w2 ⟨rfl, hb2⟩; (first | rw [E1.out] | rw [E2.out]); have KK := SN.out _ _ hb2 (by assumption))
      | (go_at_call 69; refine (HX _ _ (by first | exact n1 | exact n2 | exact n3)).out.mono ?_; rintro e w2 ⟨rfl, hb2⟩; (first | rw [E3.out] | rw [E4.out] | rw [E5.out]); have KK := SN.out _ _ hb2 (by assumption)))
    go_wp2
    go_ret
    refine ⟨?_, ?_⟩
    · rw [E1.out, E2.out, E3.out, E4.out, E5.out]
      exact congrArg (fun x => Ending.returned (Value.string x)) (by apply ByteArray.ext; simp [ByteArray.data_append])
    · exact KK.1
end Go.Proofs.YtobpnoiienpipaaDoor
