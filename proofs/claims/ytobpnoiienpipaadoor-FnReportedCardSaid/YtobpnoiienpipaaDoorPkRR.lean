/-
  What is proved: the walk of the program's Report.
  Conditions: the set's log can be read; the library's table of powers of ten holds what its initialiser lays.
-/
import Derived.Test.YtobpnoiienpipaaDoorReport
import Derived.Test.YtobpnoiienpipaaDoorPkBack
import Derived.Test.YtobpnoiienpipaaDoorPkCmd
import Derived.Test.YtobpnoiienpipaaDoorTuneF
namespace Go.Proofs.YtobpnoiienpipaaDoor
set_option linter.unusedVariables false
open Go.RowKit
attribute [local go_sem] run_store_float run_store_complex unary_negf neg256

/-- The texts of a set's report. -/
def repL (x : SetC) : List (List UInt8) := [Lib.itoa x.c, Lib.itoa x.r, fixT x.s, fixT x.l, fixT x.t]
theorem repL_join (x : SetC) : Lib.join (repL x) [32] = repT x := by
  unfold repL repT
  simp [Lib.join]
theorem own_pair (W : World) (s t : List UInt8) (base : Nat) (hb : base ≤ W.heap.size) : OwnS (W.alloc (.cells #[strV s, strV t] 9)) base (.slice (some ⟨W.heap.size, 0, none⟩) 2 2) [s, t] :=
  ⟨rfl, .inr ⟨W.heap.size, 2, #[strV s, strV t], rfl, hb, heap_alloc_new W _, Nat.le_refl _, by unfold maxLen; omega, rfl, rfl⟩⟩
theorem index_three0 (x y z : Nat) (W : World) : (Instr.index 73 (.agg #[.float .f32 x, .float .f32 y, .float .f32 z]) (.int .i64 0)).run Tryd.prog W = .ok (.float .f32 x) W := by
  have hu : Tryd.prog.underlying 73 = some (.array 3 24) := by kernel_rfl
  have z1 := Tryd.sizeOf24
  have a1 := Tryd.isAgg24
  unfold Instr.index
  simp only [Sem.run_bind, run_underlying hu, Result.andThen_ok]
  go_simp
theorem index_three1 (x y z : Nat) (W : World) : (Instr.index 73 (.agg #[.float .f32 x, .float .f32 y, .float .f32 z]) (.int .i64 1)).run Tryd.prog W = .ok (.float .f32 y) W := by
  have hu : Tryd.prog.underlying 73 = some (.array 3 24) := by kernel_rfl
  have z1 := Tryd.sizeOf24
  have a1 := Tryd.isAgg24
  unfold Instr.index
  simp only [Sem.run_bind, run_underlying hu, Result.andThen_ok]
  go_simp
theorem index_three2 (x y z : Nat) (W : World) : (Instr.index 73 (.agg #[.float .f32 x, .float .f32 y, .float .f32 z]) (.int .i64 2)).run Tryd.prog W = .ok (.float .f32 z) W := by
  have hu : Tryd.prog.underlying 73 = some (.array 3 24) := by kernel_rfl
  have z1 := Tryd.sizeOf24
  have a1 := Tryd.isAgg24
  unfold Instr.index
  simp only [Sem.run_bind, run_underlying hu, Result.andThen_ok]
  go_simp
attribute [local go_sem high] index_three0 index_three1 index_three2
set_option maxRecDepth 100000 in
set_option maxHeartbeats 4000000 in
theorem report_any (x : SetC) (v : Value) (ls : List (List UInt8)) (w : World) (hx : x.ok) (h : TRow w v ls) (hl : ls.length ≤ 3000000) (htab : Tab w) :
    Calls Tryd.prog 21 #[x.val v] w fun e w' => e = .returned (.string ⟨(if setB x ls.length = true then repT x else []).toArray⟩) ∧ Below w.heap.size w w' := by
  have hb0 : Below w.heap.size w (w.alloc (.cells (x.cells v) 27)) := (Below.refl _ _).alloc (Nat.le_refl _) _
  have s0 : SetAt (w.alloc (.cells (x.cells v) 27)) w.heap.size x v := SetAt.new w x _ _
  have z0 : w.heap.size < (w.alloc (.cells (x.cells v) 27)).heap.size := by simp
  have HS := Lib.hid (setOk_any x v ls _ hx (h.below hb0) hl)
  have hnum := setB_nums (x := x) (n := ls.length)
  obtain ⟨b, hb⟩ : ∃ b, setB x ls.length = b := ⟨_, rfl⟩
  rw [hb] at HS ⊢
  rw [hb] at hnum
  obtain ⟨a, c, rfl⟩ := h.lenv
  clear hb h
  cases b with
  | false =>
    obtain ⟨xc, xr, xs, xl, xt⟩ := x
    simp only [SetC.val, SetC.cells] at *
    obtain ⟨q0, q1, q2, q3, q4, q5⟩ := id s0
    clear hx hnum
    go_enter Tryd.func21, Tryd.ntmps21
    go_wp2_with fail
    generalize World.alloc w _ = W0 at *
    refine HS.out.mono ?_
    rintro e w1 ⟨rfl, hb1⟩
    go_wp2
    go_ret
    exact ⟨rfl, below_trans hb0 hb1 hb0.size⟩
  | true =>
    obtain ⟨n1, n2, n3⟩ := hnum rfl
    obtain ⟨⟨i1, i2⟩, ⟨i3, i4⟩⟩ := id hx
    have HJ := Lib.hid (repL_join x)
    have HI := fun n W (h : I64 n) (ht : Tab W) => Lib.hid (formatInt_any n W h.1 h.2 ht)
    have HC := fun y (h : isN y = false) W => conv_wid h W
    have HT := fun y W => Lib.hid (toFixed_any y W)
    have HF := fun y W (ht : Tab W) => Lib.hid (formatFixed_any ((tfx (wid y)).getD 0) W (tfx_range (wid y)).1 (tfx_range (wid y)).2 ht)
    obtain ⟨xc, xr, xs, xl, xt⟩ := x
    simp only [SetC.val, SetC.cells, repL] at *
    obtain ⟨hx1, hx2⟩ := hx
    obtain ⟨q0, q1, q2, q3, q4, q5⟩ := id s0
    clear hnum
    go_enter Tryd.func21, Tryd.ntmps21
    go_wp2_with fail
    generalize World.alloc w _ = W0 at *
    refine HS.out.mono ?_
    rintro e w1 ⟨rfl, hb1⟩
    have s1 := s0.keep hb1 z0
    have z1 := Nat.lt_of_lt_of_le z0 hb1.size
    have g1 := below_trans hb0 hb1 hb0.size
    have t1 := htab.below g1
    clear q0 q1 q2 q3 q4 q5 s0 z0 hb0 hb1 HS
    obtain ⟨q0, q1, q2, q3, q4, q5⟩ := id s1
    go_wp2
    have g1' : Below w.heap.size w w1.drew := g1.drew
    have z1' : w.heap.size < w1.drew.heap.size := z1
    have t1' : Tab w1.drew := t1
    obtain ⟨T1, e1⟩ : ∃ t, Lib.itoa xc = t := ⟨_, rfl⟩
    obtain ⟨T2, e2⟩ : ∃ t, Lib.itoa xr = t := ⟨_, rfl⟩
    have L1 := Lib.hid (show T1.length ≤ 21 by rw [← e1]; exact Lib.itoa_length_le xc i1 i2)
    have L2 := Lib.hid (show T2.length ≤ 21 by rw [← e2]; exact Lib.itoa_length_le xr i3 i4)
    have E1 := Lib.hid e1
    have E2 := Lib.hid e2
    clear e1 e2
    have SN := Lib.hid (show ∀ V V' : World, Below V.heap.size V V' → (Below w.heap.size w V ∧ w.heap.size < V.heap.size ∧ Tab V ∧ V.cell? ⟨w.heap.size, 0, none⟩ = some (.int .i64 xc) ∧ V.cell? ⟨w.heap.size, 1, none⟩ = some (.int .i64 xr) ∧ V.cell? ⟨w.heap.size, 2, none⟩ = some (.float .f32 xs) ∧ V.cell? ⟨w.heap.size, 3, none⟩ = some (.float .f32 xl) ∧ V.cell? ⟨w.heap.size, 4, none⟩ = some (.float .f32 xt)) → (Below w.heap.size w V' ∧ w.heap.size < V'.heap.size ∧ Tab V' ∧ V'.cell? ⟨w.heap.size, 0, none⟩ = some (.int .i64 xc) ∧ V'.cell? ⟨w.heap.size, 1, none⟩ = some (.int .i64 xr) ∧ V'.cell? ⟨w.heap.size, 2, none⟩ = some (.float .f32 xs) ∧ V'.cell? ⟨w.heap.size, 3, none⟩ = some (.float .f32 xl) ∧ V'.cell? ⟨w.heap.size, 4, none⟩ = some (.float .f32 xt)) from fun V V' hb ⟨a1, a2, a8, a3, a4, a5, a6, a7⟩ =>
      ⟨below_trans a1 hb a1.size, Nat.lt_of_lt_of_le a2 hb.size, a8.below hb, (hb.cell (p := ⟨_, 0, none⟩) a2).trans a3, (hb.cell (p := ⟨_, 1, none⟩) a2).trans a4, (hb.cell (p := ⟨_, 2, none⟩) a2).trans a5, (hb.cell (p := ⟨_, 3, none⟩) a2).trans a6, (hb.cell (p := ⟨_, 4, none⟩) a2).trans a7⟩)
    have SA := Lib.hid (show ∀ (V : World) (o : Obj), (Below w.heap.size w V ∧ w.heap.size < V.heap.size ∧ Tab V ∧ V.cell? ⟨w.heap.size, 0, none⟩ = some (.int .i64 xc) ∧ V.cell? ⟨w.heap.size, 1, none⟩ = some (.int .i64 xr) ∧ V.cell? ⟨w.heap.size, 2, none⟩ = some (.float .f32 xs) ∧ V.cell? ⟨w.heap.size, 3, none⟩ = some (.float .f32 xl) ∧ V.cell? ⟨w.heap.size, 4, none⟩ = some (.float .f32 xt)) → (Below w.heap.size w (V.alloc o) ∧ w.heap.size < (V.alloc o).heap.size ∧ Tab (V.alloc o) ∧ (V.alloc o).cell? ⟨w.heap.size, 0, none⟩ = some (.int .i64 xc) ∧ (V.alloc o).cell? ⟨w.heap.size, 1, none⟩ = some (.int .i64 xr) ∧ (V.alloc o).cell? ⟨w.heap.size, 2, none⟩ = some (.float .f32 xs) ∧ (V.alloc o).cell? ⟨w.heap.size, 3, none⟩ = some (.float .f32 xl) ∧ (V.alloc o).cell? ⟨w.heap.size, 4, none⟩ = some (.float .f32 xt)) from fun V o h => SN.out V (V.alloc o) ((Below.refl _ _).alloc (Nat.le_refl _) _) h)
    go_region_held3 (fun V => Below w.heap.size w V ∧ w.heap.size < V.heap.size ∧ Tab V ∧ V.cell? ⟨w.heap.size, 0, none⟩ = some (.int .i64 xc) ∧ V.cell? ⟨w.heap.size, 1, none⟩ = some (.int .i64 xr) ∧ V.cell? ⟨w.heap.size, 2, none⟩ = some (.float .f32 xs) ∧ V.cell? ⟨w.heap.size, 3, none⟩ = some (.float .f32 xl) ∧ V.cell? ⟨w.heap.size, 4, none⟩ = some (.float .f32 xt)) (first | exact KK | exact ⟨g1', z1', t1', q0, q1, q2, q3, q4⟩ | exact SA.out _ _ (by assumption) | go_keep) (first
      | (go_at_call 56; refine (HI _ _ (by first | exact hx1 | exact hx2) ?_).out.mono ?_; exact (show (fun V : World => Below w.heap.size w V ∧ w.heap.size < V.heap.size ∧ Tab V ∧ V.cell? ⟨w.heap.size, 0, none⟩ = some (.int .i64 xc) ∧ V.cell? ⟨w.heap.size, 1, none⟩ = some (.int .i64 xr) ∧ V.cell? ⟨w.heap.size, 2, none⟩ = some (.float .f32 xs) ∧ V.cell? ⟨w.heap.size, 3, none⟩ = some (.float .f32 xl) ∧ V.cell? ⟨w.heap.size, 4, none⟩ = some (.float .f32 xt)) _ by assumption).2.2.1; rintro e w2 ⟨rfl, hb2⟩; (first | rw [E1.out] | rw [E2.out]); have KK := SN.out _ _ hb2 (by assumption)))
    have KX := SA.out w2 (.cells #[.string ⟨T1.toArray⟩, .string ⟨T2.toArray⟩] 9) KK
    have hO := own_pair w2 T1 T2 w.heap.size (by have := KK.1.size; exact this)
    have HO := Lib.hid (show OwnS (w2.alloc (.cells #[.string ⟨T1.toArray⟩, .string ⟨T2.toArray⟩] 9)) w.heap.size (.slice (some ⟨w2.heap.size, 0, none⟩) 2 2) [T1, T2] from hO)
    clear hO KK hb2 q0 q1 q2 q3 q4 q5 s1
    obtain ⟨KB, KZ, KT, q0, q1, q2, q3, q4⟩ := id KX
    have HKB := Lib.hid KB
    have HTAB := Lib.hid htab
    clear KX SN SA KB KT
    generalize World.alloc w2 _ = X at *
    obtain ⟨T3, e3⟩ : ∃ t, fixT xs = t := ⟨_, rfl⟩
    obtain ⟨T4, e4⟩ : ∃ t, fixT xl = t := ⟨_, rfl⟩
    obtain ⟨T5, e5⟩ : ∃ t, fixT xt = t := ⟨_, rfl⟩
    have L3 := Lib.hid (show T3.length ≤ 100 by rw [← e3]; exact fixT_len xs)
    have L4 := Lib.hid (show T4.length ≤ 100 by rw [← e4]; exact fixT_len xl)
    have L5 := Lib.hid (show T5.length ≤ 100 by rw [← e5]; exact fixT_len xt)
    have E3 := Lib.hid e3
    have E4 := Lib.hid e4
    have E5 := Lib.hid e5
    clear e3 e4 e5
    go_wp2
    go_loopw [3, 25] (fun v i wr => (i = .int .i64 0 ∧ OwnS wr w.heap.size v [T1, T2] ∨ i = .int .i64 1 ∧ OwnS wr w.heap.size v [T1, T2, T3] ∨ i = .int .i64 2 ∧ OwnS wr w.heap.size v [T1, T2, T3, T4] ∨ i = .int .i64 3 ∧ OwnS wr w.heap.size v [T1, T2, T3, T4, T5]) ∧ Below w.heap.size w wr) (fun _ i _ => 3 - (intOf i).toNat)
    case atStart => exact ⟨.inl ⟨rfl, HO.out⟩, HKB.out⟩
    case round =>
      obtain ⟨hk, hb⟩ := hrel
      have HBB := Lib.hid hb
      clear hb q0 q1 q2 q3 q4
      rcases hk with ⟨rfl, ho⟩ | ⟨rfl, ho⟩ | ⟨rfl, ho⟩ | ⟨rfl, ho⟩
      · have hcv := HC xs n1
        have HW := Lib.hid ho
        clear ho
        go_wp2_with fail
        refine (HT _ _).out.mono ?_
        rintro e w3 ⟨rfl, hb3⟩
        have g3 := below_trans HBB.out hb3 HBB.out.size
        have HW3 := Lib.hid (HW.out.below hb3)
        clear hb3 HW
        go_wp2_with fail
        refine (HF xs _ (HTAB.out.below g3)).out.mono ?_
        rintro e w4 ⟨rfl, hb4⟩
        rw [show ffx ((tfx (wid xs)).getD 0) = T3 from E3.out]
        have g4 := below_trans g3 hb4 g3.size
        have HW4 := Lib.hid (HW3.out.below hb4)
        clear hb4 HW3 g3
        go_wp2_with (at_builtin; refine list_str rfl (.tmp 34) (.tmp 37) rfl w.heap.size _ _ rfl HW4.out _ _ T3 rfl rfl (by simp) g4.size ?_; intro v' w5 ho5 hg5)
        have g5 : Below w.heap.size w w5 := (g4.alloc g4.size _).grown hg5 (by have := g4.size; simp; omega) (fun r hr => (HW4.out.lt r hr).1)
        go_roundw
        case rel => exact ⟨.inr (.inl ⟨by go_num, ho5⟩), g5⟩
        case measure => simp [intOf]
      · have hcv := HC xl n2
        have HW := Lib.hid ho
        clear ho
        go_wp2_with fail
        refine (HT _ _).out.mono ?_
        rintro e w3 ⟨rfl, hb3⟩
        have g3 := below_trans HBB.out hb3 HBB.out.size
        have HW3 := Lib.hid (HW.out.below hb3)
        clear hb3 HW
        go_wp2_with fail
        refine (HF xl _ (HTAB.out.below g3)).out.mono ?_
        rintro e w4 ⟨rfl, hb4⟩
        rw [show ffx ((tfx (wid xl)).getD 0) = T4 from E4.out]
        have g4 := below_trans g3 hb4 g3.size
        have HW4 := Lib.hid (HW3.out.below hb4)
        clear hb4 HW3 g3
        go_wp2_with (at_builtin; refine list_str rfl (.tmp 34) (.tmp 37) rfl w.heap.size _ _ rfl HW4.out _ _ T4 rfl rfl (by simp) g4.size ?_; intro v' w5 ho5 hg5)
        have g5 : Below w.heap.size w w5 := (g4.alloc g4.size _).grown hg5 (by have := g4.size; simp; omega) (fun r hr => (HW4.out.lt r hr).1)
        go_roundw
        case rel => exact ⟨.inr (.inr (.inl ⟨by go_num, ho5⟩)), g5⟩
        case measure => simp [intOf]
      · have hcv := HC xt n3
        have HW := Lib.hid ho
        clear ho
        go_wp2_with fail
        refine (HT _ _).out.mono ?_
        rintro e w3 ⟨rfl, hb3⟩
        have g3 := below_trans HBB.out hb3 HBB.out.size
        have HW3 := Lib.hid (HW.out.below hb3)
        clear hb3 HW
        go_wp2_with fail
        refine (HF xt _ (HTAB.out.below g3)).out.mono ?_
        rintro e w4 ⟨rfl, hb4⟩
        rw [show ffx ((tfx (wid xt)).getD 0) = T5 from E5.out]
        have g4 := below_trans g3 hb4 g3.size
        have HW4 := Lib.hid (HW3.out.below hb4)
        clear hb4 HW3 g3
        go_wp2_with (at_builtin; refine list_str rfl (.tmp 34) (.tmp 37) rfl w.heap.size _ _ rfl HW4.out _ _ T5 rfl rfl (by simp) g4.size ?_; intro v' w5 ho5 hg5)
        have g5 : Below w.heap.size w w5 := (g4.alloc g4.size _).grown hg5 (by have := g4.size; simp; omega) (fun r hr => (HW4.out.lt r hr).1)
        go_roundw
        case rel => exact ⟨.inr (.inr (.inr ⟨by go_num, ho5⟩)), g5⟩
        case measure => simp [intOf]
      · have HW := Lib.hid ho
        rcases ho.shape with ⟨_, e⟩ | ⟨g, cap, rfl, hgb, hgl, hcap, _⟩
        · cases e
        have HJ2 := Tryd.strings_Join g 0 cap [⟨T1.toArray⟩, ⟨T2.toArray⟩, ⟨T3.toArray⟩, ⟨T4.toArray⟩, ⟨T5.toArray⟩] ⟨#[32]⟩ wr (fun j q hj => by
          obtain ⟨hlt, rfl⟩ := List.getElem?_eq_some_iff.1 hj
          have hlt' : j < 5 := by simpa using hlt
          rw [Nat.zero_add]
          rw [(HW.out.cell j (by simpa using hlt)).1]
          rcases (by omega : j = 0 ∨ j = 1 ∨ j = 2 ∨ j = 3 ∨ j = 4) with rfl | rfl | rfl | rfl | rfl <;> rfl) hgl (by simp) (by simpa using hcap) (by
            have := L1.out; have := L2.out; have := L3.out; have := L4.out; have := L5.out
            simp [Lib.join]
            omega)
        have HJ3 := Lib.hid HJ2
        have HJ4 := Lib.hid (show Lib.join [T1, T2, T3, T4, T5] [32] = repT ⟨xc, xr, xs, xl, xt⟩ by rw [← E1.out, ← E2.out, ← E3.out, ← E4.out, ← E5.out]; exact HJ.out)
        clear HJ2 ho
        go_wp2_with fail
        refine HJ3.out.mono ?_
        rintro e w3 ⟨rfl, hb3⟩
        have g3 := below_trans HBB.out hb3 HBB.out.size
        go_wp2
        go_ret
        refine ⟨?_, g3⟩
        exact congrArg (fun l => Ending.returned (Value.string ⟨List.toArray l⟩)) (by simpa using HJ4.out)
end Go.Proofs.YtobpnoiienpipaaDoor

/-
  What is proved: a single in thousandths: how great its number is, and that the single nearest to a number of thousandths tells that number.
  Conditions: none.
-/
namespace Go.Proofs.YtobpnoiienpipaaDoor.Flt
set_option linter.unusedVariables false
open Ieee

def E925 : Nat := 925
theorem e925 : E925 = 925 := rfl
def W925 : Nat := 2 ^ E925
theorem w925_pos : 0 < W925 := two_pos E925
theorem w925 (k : Nat) : W925 * 2 ^ k = 2 ^ (E925 + k) := by unfold W925; rw [← Nat.pow_add]
theorem w925_one : W925 * 2 ^ 149 = ONE := by
  unfold ONE
  rw [w925]
  exact congrArg (fun n => 2 ^ n) (show E925 + 149 = E73 + 1 from rfl)
/-- Rounding a number below 2^K to a single: off by at most half a unit of its last place. -/
theorem near32 (s : Bool) (mag : Nat) (place : Int) (hm : mag ≠ 0) (hp : -1074 ≤ place) (K : Nat) (hK : K ≤ 24) (v : Nat) (hv : v = mag * 2 ^ (place + 1074).toNat) (hlt : v < ONE * 2 ^ K) :
    ∃ u e, Num single (single.nearest s mag place) s u ∧ e * 2 ^ (24 - K) ≤ ONE ∧ 2 * (u * W925) ≤ 2 * v + e ∧ 2 * v ≤ 2 * (u * W925) + e := by
  have he := e73
  have hl2 : 2 ^ mag.log2 ≤ mag := Nat.log2_self_le hm
  have hlog : mag.log2 + (place + 1074).toNat < E73 + 1 + K := by
    apply pow_lt
    rw [← one_pow, Nat.pow_add]
    refine Nat.lt_of_le_of_lt ?_ hlt
    rw [hv]
    exact Nat.mul_le_mul_right _ hl2
  obtain ⟨last, hlast⟩ : ∃ last, last = max (place + mag.log2 - single.fractionBits) single.leastPlace := ⟨_, rfl⟩
  obtain ⟨c, hc⟩ : ∃ c, c = (place - last).toNat := ⟨_, rfl⟩
  obtain ⟨d, hd⟩ : ∃ d, d = (last - place).toNat := ⟨_, rfl⟩
  have hlast2 : last = max (place + mag.log2 - (23 : Nat)) (-149) := by rw [hlast, place32, frac32]
  have hcut : Toward.even.cut s (mag * 2 ^ c) d ≤ 2 ^ 24 := by
    apply cut_le
    have h1 : mag.log2 + 1 + c ≤ 24 + d := by omega
    have h2 : 2 ^ (mag.log2 + 1 + c) ≤ 2 ^ (24 + d) := pow_le h1
    have h3 : mag * 2 ^ c ≤ 2 ^ (mag.log2 + 1) * 2 ^ c := Nat.mul_le_mul_right _ (Nat.le_of_lt (lt_log mag))
    rw [← Nat.pow_add] at h3
    rw [← Nat.pow_add]
    exact Nat.le_trans h3 h2
  have hq : (last - single.leastPlace).toNat ≤ 149 := by rw [place32]; omega
  have hn := num_nearest single s mag place hm last hlast c d hc hd (by
    rw [bin32, inf32]
    have := Nat.mul_le_mul_right (2 ^ 23) hq
    omega)
  have hnear := cut_near s (mag * 2 ^ c) d
  generalize Toward.even.cut s (mag * 2 ^ c) d = k at hn hnear
  rw [place32] at hn
  have hw : k * 2 ^ (last - -149).toNat * W925 = k * 2 ^ (last - -1074).toNat := by
    have h9 := e925
    unfold W925
    rw [Nat.mul_assoc, ← Nat.pow_add]
    exact mul_pow_congr (by omega)
  refine ⟨_, 2 ^ (last - -1074).toNat, hn, ?_, ?_, ?_⟩
  · unfold ONE
    rw [← Nat.pow_add]
    exact pow_le (by omega)
  all_goals
    rw [hw]
    by_cases hpl : last ≤ place
    · have hd0 : d = 0 := by omega
      subst hd0
      rw [Nat.pow_zero, Nat.mul_one] at hnear
      have hk : k = mag * 2 ^ c := by omega
      have : k * 2 ^ (last - -1074).toNat = v := by
        rw [hk, Nat.mul_assoc, ← Nat.pow_add, hv]
        exact mul_pow_congr (by omega)
      rw [this]
      exact Nat.le_add_right _ _
    · have hc0 : c = 0 := by omega
      subst hc0
      rw [Nat.pow_zero, Nat.mul_one] at hnear
      have e1 : k * 2 ^ (last - -1074).toNat = k * 2 ^ d * 2 ^ (place + 1074).toNat := by
        rw [Nat.mul_assoc, ← Nat.pow_add]
        exact mul_pow_congr (by omega)
      have e2 : 2 ^ (last - -1074).toNat = 2 ^ d * 2 ^ (place + 1074).toNat := by
        rw [← Nat.pow_add]
        exact congrArg (fun z => 2 ^ z) (by omega)
      rw [e1, hv]
      have h1 := Nat.mul_le_mul_right (2 ^ (place + 1074).toNat) hnear.1
      have h2 := Nat.mul_le_mul_right (2 ^ (place + 1074).toNat) hnear.2
      rw [e2]
      first | simpa only [Nat.add_mul, Nat.mul_assoc] using h1 | simpa only [Nat.add_mul, Nat.mul_assoc] using h2
/-- A single, widened, is the same number. -/
theorem wide_num {x : Nat} {s : Bool} {u : Nat} (h : Num single x s u) (hu : u < 2 ^ 180) : ∃ r, floatToFloatBits .f32 x .f64 = some r ∧ Num double r s (u * W925) := by
  obtain ⟨m, i, h1, h2, h3⟩ := h
  have hm := read_bound h1
  rw [frac32] at hm
  rw [place32] at h2 h3
  have hi : m = 0 ∨ i ≤ 40 := by
    by_cases h0 : m = 0
    · exact .inl h0
    · right
      apply Classical.byContradiction
      intro hc
      have h4 : 2 ^ 180 ≤ 2 ^ (i - -149).toNat := Nat.pow_le_pow_right (by decide) (by omega)
      have h5 : 1 * 2 ^ (i - -149).toNat ≤ m * 2 ^ (i - -149).toNat := Nat.mul_le_mul_right _ (by omega)
      omega
  have hn : Num double (double.nearest s m i) s (m * 2 ^ (i + 1074).toNat) := by
    rcases hi with rfl | hi
    · refine num_of fine64 s 0 (0 * 2 ^ (i + 1074).toNat) i (by simp) (by simpa using rep_zero _) (by simpa using two_pos _)
    · refine num_of fine64 s m _ i ?_ (rep_mul (rep_small (by rw [frc64]; omega)) _) ?_
      · rw [plc64, show (-1074 - i).toNat = 0 by omega, Nat.pow_zero, Nat.mul_one]; rfl
      · obtain ⟨C, hC, hC2⟩ : ∃ C, cap double = C ∧ C = 2098 := ⟨_, rfl, cap64⟩
        rw [hC]
        obtain ⟨j, hj, hj2⟩ : ∃ j, (i + 1074).toNat = j ∧ 24 + j ≤ 2098 := ⟨_, rfl, by omega⟩
        rw [hj]
        have h5 : m * 2 ^ j < 2 ^ 24 * 2 ^ j := Nat.mul_lt_mul_of_pos_right hm (two_pos j)
        rw [← Nat.pow_add] at h5
        exact Nat.lt_of_lt_of_le h5 (Nat.pow_le_pow_right (by decide) (by omega))
  have e : m * 2 ^ (i + 1074).toNat = u * W925 := by
    have h9 := e925
    unfold W925
    rw [h3, Nat.mul_assoc, ← Nat.pow_add]
    exact mul_pow_congr (by omega)
  rw [e] at hn
  refine ⟨double.nearest s m i, ?_, hn⟩
  obtain ⟨m', e', hr', _, _⟩ := hn
  unfold floatToFloatBits
  rw [if_neg (by decide)]
  have hdec : FloatKind.f32.decode x = .number s m i := h1
  have henc : FloatKind.f64.encode (.number s m i) = double.nearest s m i := rfl
  have hdec2 : FloatKind.f64.decode (double.nearest s m i) = .number s m' e' := hr'
  simp only [hdec, henc, hdec2, Datum.isInfinity]
  rfl
theorem w_le {u : Nat} (h : 0 < u) : W925 ≤ u * W925 := Nat.le_mul_of_pos_left _ h
/-- A double times 1000, to the nearest whole number. -/
theorem thou_near {x : Nat} {s : Bool} {u : Nat} (h : Num double x s u) (h0 : W925 ≤ u) (hu : u ≤ ONE * 2048) :
    ∃ p e q, double.mul x 4652007308841189376 = some q ∧ toFix q = some (sg s (rnd p)) ∧ e * 4294967296 ≤ ONE ∧ 2 * p ≤ 2 * (1000 * u) + e ∧ 2 * (1000 * u) ≤ 2 * p + e := by
  have he := e73
  have hone : 0 < ONE := two_pos _
  obtain ⟨m2, i2, hr2, hi2, hu2⟩ := h
  have hmb2 := read_bound hr2
  rw [frac64] at hmb2
  rw [place64] at hi2 hu2
  have hm20 : m2 ≠ 0 := by
    intro e; subst e
    rw [Nat.zero_mul] at hu2
    have := w925_pos
    omega
  have hi2b : -203 < i2 := by
    have h9 := e925
    have h1 : 2 ^ E925 < 2 ^ (53 + (i2 - -1074).toNat) := by
      refine Nat.lt_of_le_of_lt (show 2 ^ E925 ≤ u from h0) ?_
      rw [hu2, Nat.pow_add]
      exact Nat.mul_lt_mul_of_pos_right hmb2 (two_pos _)
    have := pow_lt h1
    omega
  obtain ⟨v2, hv2⟩ : ∃ v2, v2 = m2 * 8796093022208000 * 2 ^ (i2 + -43 + 1074).toNat := ⟨_, rfl⟩
  have hv2u : v2 = 1000 * u := by
    have l : m2 * (1000 * 2 ^ 43) * 2 ^ (i2 + -43 + 1074).toNat = 1000 * (m2 * 2 ^ (43 + (i2 + -43 + 1074).toNat)) := by rw [Nat.pow_add]; ac_rfl
    rw [hv2, hu2, show (8796093022208000 : Nat) = 1000 * 2 ^ 43 by decide, l]
    exact congrArg (fun z => 1000 * z) (mul_pow_congr (by omega))
  obtain ⟨p, e2, hnp, he2, k5, k6⟩ := near64 s (m2 * 8796093022208000) (i2 + -43) (Nat.mul_ne_zero hm20 (by decide)) (by omega) 21 (by decide) v2 hv2 (by omega)
  rw [hv2u] at k5 k6
  have he2' : e2 * 4294967296 ≤ ONE := he2
  refine ⟨p, e2, double.nearest s (m2 * 8796093022208000) (i2 + -43), ?_, ?_, he2', k5, k6⟩
  · unfold Format.mul
    rw [hr2, read1000]
    simp [Datum.product, Format.write]
  · rw [toFix_num hnp]
    have ho := one_two
    have hh := half_pos
    rw [if_pos (by generalize ONE = O at *; generalize HALF = H at *; omega)]
theorem rnd_eq {p a : Nat} (h1 : 2 * p < 2 * (a * ONE) + ONE) (h2 : 2 * (a * ONE) < 2 * p + ONE) : rnd p = a := by
  have ho := one_two
  have hh := half_pos
  unfold rnd
  generalize ONE = O at *
  generalize HALF = H at *
  apply Nat.div_eq_of_lt_le
  · omega
  · rw [Nat.add_mul]; omega
theorem rnd_max {p a : Nat} (h1 : 2 * p < 2 * (a * ONE) + ONE) : rnd p ≤ a := by
  have ho := one_two
  have hh := half_pos
  unfold rnd
  generalize ONE = O at *
  generalize HALF = H at *
  refine Nat.le_of_lt_succ ((Nat.div_lt_iff_lt_mul (by omega)).2 ?_)
  rw [Nat.succ_mul]
  omega
end Go.Proofs.YtobpnoiienpipaaDoor.Flt
namespace Go.Proofs.YtobpnoiienpipaaDoor
set_option linter.unusedVariables false
open Go.RowKit
theorem tfx_zero (s : Bool) (x : Nat) (h : Flt.Num Ieee.double x s 0) : tfx x = some 0 := by
  obtain ⟨m, i, hr, hi, hu⟩ := h
  have hm : m = 0 := by
    rcases Nat.eq_zero_or_pos m with h | h
    · exact h
    · have := Nat.mul_pos h (Flt.two_pos (i - Ieee.double.leastPlace).toNat)
      omega
  subst hm
  have hn : Flt.Num Ieee.double (Ieee.double.nearest s 0 (i + -43)) s 0 := by
    have e1 : Ieee.double.nearest s 0 (i + -43) = Ieee.double.word s 0 := by
      unfold Ieee.Format.nearest
      rw [if_pos rfl]
    rw [e1]
    exact Flt.num_zero Ieee.double s (by rw [Flt.inf64]; decide)
  have hmul : Ieee.double.mul x 4652007308841189376 = some (Ieee.double.nearest s 0 (i + -43)) := by
    unfold Ieee.Format.mul
    rw [hr, read1000]
    simp [Ieee.Datum.product, Ieee.Format.write]
  unfold tfx
  rw [hmul]
  show Flt.toFix _ = _
  have hh := Flt.half_pos
  have h0 : Flt.rnd 0 = 0 := Flt.rnd_eq (by have : 0 < Flt.ONE := Flt.two_pos _; omega) (by have : 0 < Flt.ONE := Flt.two_pos _; omega)
  rw [Flt.toFix_num hn, if_pos (Nat.mul_pos (by decide) hh), h0]
  cases s <;> rfl
theorem wid_of {x r : Nat} (h : floatToFloatBits .f32 x .f64 = some r) : wid x = r := by unfold wid; rw [h]; rfl
/-- HOW GREAT THE THOUSANDTHS OF A SINGLE ARE. -/
theorem thou_le {x : Nat} {s : Bool} {u M : Nat} (h : Flt.Num Ieee.single x s u) (hM : M ≤ 1024) (hu : u ≤ M * 2 ^ 149) : ∃ k, tfx (wid x) = some (Flt.sg s k) ∧ k ≤ 1000 * M := by
  have hw1 := Flt.w925_one
  obtain ⟨r, hr, hn⟩ := Flt.wide_num h (by
    have h1 : M * 2 ^ 149 ≤ 1024 * 2 ^ 149 := Nat.mul_le_mul_right _ hM
    have h2 : 1024 * 2 ^ 149 < 2 ^ 180 := by decide
    omega)
  rw [wid_of hr]
  rcases Nat.eq_zero_or_pos u with rfl | h0
  · rw [Nat.zero_mul] at hn
    exact ⟨0, by rw [tfx_zero s r hn]; cases s <;> rfl, Nat.zero_le _⟩
  · have hU : u * Flt.W925 ≤ M * Flt.ONE := by
      rw [← hw1, Nat.mul_comm Flt.W925, ← Nat.mul_assoc]
      exact Nat.mul_le_mul_right _ hu
    have hMO : M * Flt.ONE ≤ 1024 * Flt.ONE := Nat.mul_le_mul_right _ hM
    obtain ⟨p, e, q, hmul, ht, he, k1, k2⟩ := Flt.thou_near hn (Flt.w_le h0) (by omega)
    have hone : 0 < Flt.ONE := Flt.two_pos _
    refine ⟨Flt.rnd p, by unfold tfx; rw [hmul]; exact ht, Flt.rnd_max ?_⟩
    have e1 : 1000 * M * Flt.ONE = 1000 * (M * Flt.ONE) := Nat.mul_assoc _ _ _
    rw [e1]
    omega
theorem ffBits_near {n : Int} (h0 : n ≠ 0) (h1 : -1000000000 ≤ n) (h2 : n ≤ 1000000000) :
    ∃ u, Flt.Num Ieee.double (ffBits n) (decide (n < 0)) u ∧ 1000000 * (1000 * u) ≤ 1000000 * (n.natAbs * Flt.ONE) + Flt.ONE ∧ 1000000 * (n.natAbs * Flt.ONE) ≤ 1000000 * (1000 * u) + Flt.ONE := by
  have hnum : Flt.Num Ieee.double (floatOfInt .f64 n) (decide (n < 0)) (n.natAbs * Flt.ONE) := by
    have := Flt.int_num Flt.fine64 (decide (n < 0)) n.natAbs (Flt.rep_small (by rw [Flt.frac64]; omega)) (by
      rw [Flt.one_unit, Flt.cap64]
      have h2 := Flt.one_cap 2098 (by rw [Flt.cap64])
      have h3 : n.natAbs * Flt.ONE ≤ 1000000000 * Flt.ONE := Nat.mul_le_mul_right _ (by omega)
      omega)
    rw [Flt.one_unit] at this
    exact this
  obtain ⟨r, p, hd, hm, ht, u, hu, hb, k1, k2⟩ := Flt.back_pos n.natAbs _ (by omega) (by omega) _ hnum
  have e : ffBits n = r := by
    unfold ffBits
    rw [if_pos ⟨h1, h2⟩, hd]; rfl
  rw [e]
  exact ⟨u, hu, k1, k2⟩
theorem num_one_val {x : Nat} {s : Bool} {m1 m2 : Nat} {i1 i2 : Int} {u1 u2 : Nat} {z : Int} (r1 : Ieee.single.read x = .number s m1 i1) (r2 : Ieee.single.read x = .number s m2 i2) (q1 : u1 = m1 * 2 ^ (i1 - z).toNat) (q2 : u2 = m2 * 2 ^ (i2 - z).toNat) : u1 = u2 := by
  rw [r1] at r2
  injection r2 with _ r3 r4
  rw [q1, q2, r3, r4]
theorem thou_lin (O a u U p e1 e2 : Nat) (hO : 0 < O) (k1 : 1000000 * (1000 * u) ≤ 1000000 * (a * O) + O) (k2 : 1000000 * (a * O) ≤ 1000000 * (1000 * u) + O)
    (h1 : e1 * 8192 ≤ O) (k3 : 2 * U ≤ 2 * u + e1) (k4 : 2 * u ≤ 2 * U + e1) (h2 : e2 * 4294967296 ≤ O) (k5 : 2 * p ≤ 2 * (1000 * U) + e2) (k6 : 2 * (1000 * U) ≤ 2 * p + e2) :
    2 * p < 2 * (a * O) + O ∧ 2 * (a * O) < 2 * p + O := by omega
/-- THE SINGLE NEAREST TO A NUMBER OF THOUSANDTHS TELLS THAT NUMBER. -/
theorem thou_back {n : Int} {M : Nat} (hM : M = 1024 ∨ M = 16) (hn : n.natAbs ≤ 1000 * M) : tfx (wid (nar (ffBits n))) = some n ∧ ∃ u, Flt.Num Ieee.single (nar (ffBits n)) (decide (n < 0)) u ∧ u ≤ M * 2 ^ 149 := by
  by_cases hz : n = 0
  · subst hz
    have e : nar (ffBits 0) = 0 := by decide +kernel
    rw [e]
    exact ⟨by decide +kernel, 0, ⟨0, -149, Flt.read_zero, by rw [Flt.place32]; exact Int.le_refl _, by simp⟩, Nat.zero_le _⟩
  have hb1 : -1000000000 ≤ n := by omega
  have hb2 : n ≤ 1000000000 := by omega
  obtain ⟨u, hu, k1, k2⟩ := ffBits_near hz hb1 hb2
  have hone : 0 < Flt.ONE := Flt.two_pos _
  have hw1 := Flt.w925_one
  have ha1 : 1 * Flt.ONE ≤ n.natAbs * Flt.ONE := Nat.mul_le_mul_right _ (by omega)
  have ha2 : n.natAbs * Flt.ONE ≤ 1000 * M * Flt.ONE := Nat.mul_le_mul_right _ hn
  have ha3 : 1000 * M * Flt.ONE ≤ 1024000 * Flt.ONE := Nat.mul_le_mul_right _ (by omega)
  have hub : u < Flt.ONE * 2 ^ 11 := by omega
  have hu0 : u ≠ 0 := by intro e; subst e; omega
  have hu' := hu
  obtain ⟨m, i, hr, hi, he⟩ := hu
  rw [Flt.place64] at hi he
  have hm0 : m ≠ 0 := by intro e; subst e; rw [Nat.zero_mul] at he; exact hu0 he
  obtain ⟨s', m', e', hr', hbnd⟩ := nar_ff n
  have e1 : (Ieee.Datum.number s' m' e') = .number (decide (n < 0)) m i := by rw [← hr', hr]
  injection e1 with e1 e2 e3
  rw [e2, e3] at hbnd
  clear e2 e3 hr'
  obtain ⟨hnar, _⟩ := nar_read hr hbnd
  have hy : nar (ffBits n) = Ieee.single.nearest (decide (n < 0)) m i := by unfold nar; rw [hnar]; rfl
  obtain ⟨U, ε, hU, hε, k3, k4⟩ := Flt.near32 (decide (n < 0)) m i hm0 (by omega) 11 (by decide) u (by rw [he]; exact Flt.mul_pow_congr (by omega)) hub
  have hε' : ε * 8192 ≤ Flt.ONE := hε
  rw [hy]
  have hle : U ≤ M * 2 ^ 149 := by
    by_cases hlast : n.natAbs = 1000 * M
    · obtain ⟨U', hU'1, hU'2⟩ : ∃ U', Flt.Num Ieee.single (nar (ffBits n)) (decide (n < 0)) U' ∧ U' = M * 2 ^ 149 := by
        have hc : n = 1024000 ∨ n = -1024000 ∨ n = 16000 ∨ n = -16000 := by omega
        have hMM : (n = 1024000 ∨ n = -1024000) → M = 1024 := by omega
        have hMM' : (n = 16000 ∨ n = -16000) → M = 16 := by omega
        rcases hc with rfl | rfl | rfl | rfl
        · obtain rfl := hMM (.inl rfl)
          exact ⟨_, ⟨8388608, -13, by decide +kernel, by decide, rfl⟩, by decide⟩
        · obtain rfl := hMM (.inr rfl)
          exact ⟨_, ⟨8388608, -13, by decide +kernel, by decide, rfl⟩, by decide⟩
        · obtain rfl := hMM' (.inl rfl)
          exact ⟨_, ⟨8388608, -19, by decide +kernel, by decide, rfl⟩, by decide⟩
        · obtain rfl := hMM' (.inr rfl)
          exact ⟨_, ⟨8388608, -19, by decide +kernel, by decide, rfl⟩, by decide⟩
      rw [hy] at hU'1
      have hUU : U = U' := by
        obtain ⟨m1, i1, r1, p1, q1⟩ := hU
        obtain ⟨m2, i2, r2, p2, q2⟩ := hU'1
        exact num_one_val r1 r2 q1 q2
      rw [hUU, hU'2]
      exact Nat.le_refl _
    · have hlt : n.natAbs + 1 ≤ 1000 * M := by omega
      have h4 : (n.natAbs + 1) * Flt.ONE ≤ 1000 * M * Flt.ONE := Nat.mul_le_mul_right _ hlt
      rw [Nat.add_mul, Nat.one_mul, Nat.mul_assoc] at h4
      have h5 : U * Flt.W925 ≤ M * Flt.ONE := by omega
      have h6 : M * Flt.ONE = M * 2 ^ 149 * Flt.W925 := by rw [← hw1, Nat.mul_comm Flt.W925, Nat.mul_assoc]
      rw [h6] at h5
      exact Nat.le_of_mul_le_mul_right h5 Flt.w925_pos
  refine ⟨?_, U, hU, hle⟩
  have hU0 : 0 < U := by
    rcases Nat.eq_zero_or_pos U with rfl | h
    · rw [Nat.zero_mul] at k4
      omega
    · exact h
  obtain ⟨r, hr2, hn2⟩ := Flt.wide_num hU (by
    have h1 : M * 2 ^ 149 ≤ 1024 * 2 ^ 149 := Nat.mul_le_mul_right _ (by omega)
    have h2 : 1024 * 2 ^ 149 < 2 ^ 180 := by decide
    omega)
  rw [wid_of hr2]
  have hUO : U * Flt.W925 ≤ M * Flt.ONE := by
    rw [← hw1, Nat.mul_comm Flt.W925, ← Nat.mul_assoc]
    exact Nat.mul_le_mul_right _ hle
  have hMO : M * Flt.ONE ≤ 1024 * Flt.ONE := Nat.mul_le_mul_right _ (by omega)
  obtain ⟨p, e, q, hmul, ht, he2, k5, k6⟩ := Flt.thou_near hn2 (Flt.w_le hU0) (by omega)
  obtain ⟨f1, f2⟩ := thou_lin Flt.ONE n.natAbs u (U * Flt.W925) p ε e hone k1 k2 hε' k3 k4 he2 k5 k6
  unfold tfx
  rw [hmul]
  show Flt.toFix q = _
  rw [ht, Flt.rnd_eq f1 f2]
  refine congrArg some ?_
  unfold Flt.sg
  by_cases hs : n < 0
  · rw [decide_eq_true hs, if_pos rfl]; omega
  · rw [decide_eq_false hs, if_neg (by simp)]; omega
end Go.Proofs.YtobpnoiienpipaaDoor

/-
  What is proved: plain facts: a report has five fields, and a new set that is tuned by the last three of them reports the same.
  Conditions: none.
-/
namespace Go.Proofs.YtobpnoiienpipaaDoor
set_option linter.unusedVariables false
open Go.RowKit

theorem good_dig {c : UInt8} (h : isDig c = true) : prC c = true ∧ Lib.isSp c = false := by
  have h1 := isDig_iff.1 h
  have hp : prC c = true := prC_iff.2 ⟨by omega, by omega⟩
  exact ⟨hp, isSp_no hp (fun e => by subst e; revert h1; decide)⟩
theorem good_digits (u : Nat) : Good (Lib.decDigits u) := by
  have hc := digits_canon u
  exact ⟨hc.ne, fun c hcc => good_dig (hc.dig c hcc)⟩
theorem good_body (a : Nat) : Good (body a) := by
  obtain ⟨d1, d2, d3, h, g1, g2, g3, _⟩ := body_parts a
  rw [h]
  refine ⟨by simp, fun c hc => ?_⟩
  rcases List.mem_append.1 hc with hc | hc
  · exact (good_digits _).2 c hc
  · simp only [List.mem_cons, List.not_mem_nil, or_false] at hc
    rcases hc with rfl | rfl | rfl | rfl
    · decide
    · exact good_dig g1
    · exact good_dig g2
    · exact good_dig g3
theorem good_ffx {n : Int} (h0 : -1000000000 ≤ n) (h1 : n ≤ 1000000000) : Good (ffx n) := by
  unfold ffx
  rw [if_pos ⟨h0, h1⟩]
  have hb := good_body n.natAbs
  split
  · refine ⟨by simp, fun c hc => ?_⟩
    rcases List.mem_append.1 hc with hc | hc
    · obtain rfl := List.mem_singleton.1 hc
      decide
    · exact hb.2 c hc
  · exact ⟨by simpa using hb.1, fun c hc => hb.2 c (by simpa using hc)⟩
theorem spl_good {fs : List (List UInt8)} (h : ∀ f ∈ fs, Good f) (hl : (Lib.join fs [32]).length ≤ 600) (h24 : fs.length ≤ 24) : spl (Lib.join fs [32]) = fs ∧ splB (Lib.join fs [32]) = true := by
  have hf := fields_join fs h
  obtain ⟨h1, h2⟩ := spl_yes (l := Lib.join fs [32]) ⟨hl, join_pr fs h, by rw [hf]; exact h24⟩
  exact ⟨by rw [h1, hf], h2⟩
theorem rk2 : Flt.Num Ieee.single 1149239296 false (1024 * 2 ^ 149) := ⟨8388608, -13, by decide +kernel, by decide, by rw [Flt.place32]; decide +kernel⟩
theorem rnk2 : Flt.Num Ieee.single 3296722944 true (1024 * 2 ^ 149) := ⟨8388608, -13, by decide +kernel, by decide, by rw [Flt.place32]; decide +kernel⟩
theorem rk16 : Flt.Num Ieee.single 1098907648 false (16 * 2 ^ 149) := ⟨8388608, -19, by decide +kernel, by decide, by rw [Flt.place32]; decide +kernel⟩
theorem rk0 : Flt.Num Ieee.single 0 false 0 := ⟨0, -149, Flt.read_zero, by rw [Flt.place32]; exact Int.le_refl _, by simp⟩
/-- A number between two numbers is one. -/
theorem num_between {x c c1 : Nat} {s1 s2 : Bool} {u1 u2 : Nat} (hc : Flt.Num Ieee.single c s2 u2) (hn : Flt.Num Ieee.single c1 s1 u1) (h : (Ieee.single.order c1 x == some .lt || Ieee.single.order c1 x == some .eq) = true) (h2 : (Ieee.single.order x c == some .lt || Ieee.single.order x c == some .eq) = true) :
    ∃ s u, Flt.Num Ieee.single x s u ∧ Flt.sg s1 u1 ≤ Flt.sg s u ∧ Flt.sg s u ≤ Flt.sg s2 u2 := by
  cases hr : Ieee.single.read x with
  | nan s p =>
    have : Ieee.single.order x c = none := Flt.order_nan (.inl (by rw [hr]; rfl))
    rw [this] at h2; cases h2
  | infinity s =>
    obtain ⟨m, i, hc1, _, _⟩ := hc
    obtain ⟨m', i', hn1, _, _⟩ := hn
    cases s with
    | false =>
      have : Ieee.single.order x c = some .gt := by unfold Ieee.Format.order; rw [hr, hc1]; rfl
      rw [this] at h2; cases h2
    | true =>
      have : Ieee.single.order c1 x = some .gt := by unfold Ieee.Format.order; rw [hr, hn1]; rfl
      rw [this] at h; cases h
  | number s m i =>
    have hx := Flt.read_num hr
    refine ⟨s, _, hx, ?_, ?_⟩
    · rw [Flt.le_iff hn hx] at h
      exact of_decide_eq_true h
    · rw [Flt.le_iff hx hc] at h2
      exact of_decide_eq_true h2
/-- The thousandths of a slice. -/
theorem slice_thou {x : Nat} (h : fin1 x = true) : ∃ n, tfx (wid x) = some n ∧ n.natAbs ≤ 1000 * 1024 := by
  unfold fin1 lo1 hi1 at h
  simp only [Bool.and_eq_true] at h
  obtain ⟨s, u, hx, h1, h2⟩ := num_between rk2 rnk2 h.1 h.2
  have hu : u ≤ 1024 * 2 ^ 149 := by
    unfold Flt.sg at h1 h2
    generalize 1024 * 2 ^ 149 = K at *
    cases s <;> simp at h1 h2 <;> omega
  obtain ⟨k, hk, hb⟩ := thou_le hx (Nat.le_refl _) hu
  exact ⟨_, hk, by rw [Flt.natAbs_sg]; exact hb⟩
/-- The thousandths of a least, of a saturation. -/
theorem gain_thou {x : Nat} (h : ge0 x = true) (h2 : le16 x = true) : ∃ n, tfx (wid x) = some n ∧ 0 ≤ n ∧ n.natAbs ≤ 1000 * 16 := by
  unfold ge0 at h
  unfold le16 at h2
  obtain ⟨s, u, hx, k1, k2⟩ := num_between rk16 rk0 h h2
  cases s with
  | false =>
    have hu : u ≤ 16 * 2 ^ 149 := by
      unfold Flt.sg at k2
      generalize 16 * 2 ^ 149 = K at *
      simp at k2
      omega
    obtain ⟨k, hk, hb⟩ := thou_le hx (by decide) hu
    exact ⟨_, hk, by unfold Flt.sg; simp, by rw [Flt.natAbs_sg]; exact hb⟩
  | true =>
    have hu : u = 0 := by
      unfold Flt.sg at k1
      simp at k1
      omega
    subst hu
    obtain ⟨r, hr, hn⟩ := Flt.wide_num hx (Flt.two_pos _)
    rw [Nat.zero_mul] at hn
    exact ⟨0, by rw [wid_of hr]; exact tfx_zero _ _ hn, Int.le_refl _, Nat.zero_le _⟩
theorem fin1_of {y : Nat} {s : Bool} {u : Nat} (h : Flt.Num Ieee.single y s u) (hu : u ≤ 1024 * 2 ^ 149) : fin1 y = true := by
  unfold fin1 lo1 hi1
  rw [Flt.le_iff rnk2 h, Flt.le_iff h rk2]
  unfold Flt.sg
  generalize 1024 * 2 ^ 149 = K at *
  cases s <;> simp <;> omega
theorem gain_of {y : Nat} {u : Nat} (h : Flt.Num Ieee.single y false u) (hu : u ≤ 16 * 2 ^ 149) : ge0 y = true ∧ le16 y = true := by
  unfold ge0 le16
  rw [Flt.le_iff rk0 h, Flt.le_iff h rk16]
  unfold Flt.sg
  generalize 16 * 2 ^ 149 = K at *
  simp
  omega
theorem sngl_ffx {n : Int} (h0 : -1000000000 ≤ n) (h1 : n ≤ 1000000000) : sngl (ffx n) = nar (ffBits n) ∧ (fxP (ffx n)).isSome = true := by
  unfold sngl
  rw [fxP_ffx h0 h1]
  exact ⟨rfl, rfl⟩
theorem num_one {y : SetC} {n : Int} (h0 : -1000000000 ≤ n) (h1 : n ≤ 1000000000) (f : Nat → SetC) : numF [ffx n] (f (numR [ffx n]).1) = some (f (nar (ffBits n))) := by
  obtain ⟨k1, k2⟩ := sngl_ffx h0 h1
  unfold numF numR
  simp only [k1, k2]
  rfl
def kSlice : List UInt8 := [115, 108, 105, 99, 101]
def kKiller : List UInt8 := [107, 105, 108, 108, 101, 114]
def kSat : List UInt8 := [115, 97, 116, 117, 114, 97, 116, 105, 111, 110]
theorem join_two (a b : List UInt8) : Lib.join [a, b] [32] = a ++ 32 :: b := by rw [Lib.join_cons]; simp [Lib.joinTail]
theorem key_good : Good kSlice ∧ Good kKiller ∧ Good kSat := by
  refine ⟨⟨by decide, ?_⟩, ⟨by decide, ?_⟩, ⟨by decide, ?_⟩⟩ <;> decide
/-- A command of a name and a number of thousandths. -/
theorem tune_num {x y : SetC} {ls : List (List UInt8)} {k : List UInt8} {n : Int} (hk : k = kSlice ∨ k = kKiller ∨ k = kSat) (h0 : -1000000000 ≤ n) (h1 : n ≤ 1000000000) (hx : setB x ls.length = true)
    (hd : doF x [k, ffx n] = some y) (hy : setB y (ls.length + 1) = true) : tuneR (x, ls) (k ++ 32 :: ffx n) = ((y, ls ++ [k ++ 32 :: ffx n]), true) := by
  have hg : ∀ f ∈ [k, ffx n], Good f := fun f hf => by
    simp only [List.mem_cons, List.not_mem_nil, or_false] at hf
    rcases hf with rfl | rfl
    · rcases hk with rfl | rfl | rfl
      · exact key_good.1
      · exact key_good.2.1
      · exact key_good.2.2
    · exact good_ffx h0 h1
  have hkl : k.length ≤ 10 := by rcases hk with rfl | rfl | rfl <;> decide
  have hfl := ffx_len n
  obtain ⟨s1, s2⟩ := spl_good hg (by rw [join_two]; simp; omega) (by simp)
  rw [join_two] at s1 s2
  refine tuneR_yes ?_
  unfold tuneF
  rw [s1, s2, hx, if_pos (by rfl), hd]
  show (if setB y (ls.length + 1) = true then _ else _) = _
  rw [hy, if_pos rfl, join_two]
theorem setB_mk {c r : Int} {s l t n : Nat} (hc1 : 1 ≤ c) (hc2 : c ≤ 64) (hr : rowCnt r = true) (hs : fin1 s = true) (hl : ge0 l = true ∧ le16 l = true) (ht : ge0 t = true ∧ le16 t = true) (hn : n ≤ 100) : setB ⟨c, r, s, l, t⟩ n = true := by
  unfold setB
  simp only [hr, hs, hl.1, hl.2, ht.1, ht.2, decide_eq_true hc1, decide_eq_true hc2, decide_eq_true hn]
  rfl
/-- What is known of a valid set. -/
structure RepK (x : SetC) (ns nl nt : Int) : Prop where
  c1 : 1 ≤ x.c
  c2 : x.c ≤ 64
  r : rowCnt x.r = true
  s : tfx (wid x.s) = some ns
  l : tfx (wid x.l) = some nl
  t : tfx (wid x.t) = some nt
  bs : ns.natAbs ≤ 1000 * 1024
  bl : 0 ≤ nl ∧ nl.natAbs ≤ 1000 * 16
  bt : 0 ≤ nt ∧ nt.natAbs ≤ 1000 * 16
theorem repK {x : SetC} {n : Nat} (h : setB x n = true) : ∃ ns nl nt, RepK x ns nl nt := by
  unfold setB at h
  simp only [Bool.and_eq_true, decide_eq_true_eq] at h
  obtain ⟨h1, h2, h3, h4, h5, h6, h7, h8, _⟩ := h
  obtain ⟨ns, a1, a2⟩ := slice_thou h4
  obtain ⟨nl, b1, b2, b3⟩ := gain_thou h5 h6
  obtain ⟨nt, d1, d2, d3⟩ := gain_thou h7 h8
  exact ⟨ns, nl, nt, h1, h2, h3, a1, b1, d1, a2, ⟨b2, b3⟩, ⟨d2, d3⟩⟩
theorem RepK.rep {x : SetC} {ns nl nt : Int} (h : RepK x ns nl nt) : repL x = [Lib.itoa x.c, Lib.itoa x.r, ffx ns, ffx nl, ffx nt] := by
  unfold repL fixT
  rw [h.s, h.l, h.t]
  rfl
theorem rowCnt_pos {r : Int} (h : rowCnt r = true) : 0 ≤ r ∧ r ≤ 64 := by
  unfold rowCnt at h
  simp only [Bool.and_eq_true, decide_eq_true_eq] at h
  omega
theorem good_itoa {n : Int} (h : 0 ≤ n) : Good (Lib.itoa n) := by
  obtain ⟨m, rfl⟩ := Int.eq_ofNat_of_zero_le h
  rw [itoa_nat]
  exact good_digits m
theorem itoa_short' {n : Int} (h0 : 0 ≤ n) (h1 : n ≤ 1000000) : (Lib.itoa n).length ≤ 20 := by
  obtain ⟨m, rfl⟩ := Int.eq_ofNat_of_zero_le h0
  rw [itoa_nat, Lib.decDigits_length]
  exact Lib.nDigits_le20 _ (by omega)
/-- A REPORT HAS FIVE FIELDS. -/
theorem RepK.fields {x : SetC} {ns nl nt : Int} (h : RepK x ns nl nt) : spl (repT x) = [Lib.itoa x.c, Lib.itoa x.r, ffx ns, ffx nl, ffx nt] ∧ splB (repT x) = true ∧ (repT x).length ≤ 600 := by
  have hr := rowCnt_pos h.r
  have hc1 := h.c1
  have hc2 := h.c2
  have hbs := h.bs
  have hbl := h.bl
  have hbt := h.bt
  have hg : ∀ f ∈ [Lib.itoa x.c, Lib.itoa x.r, ffx ns, ffx nl, ffx nt], Good f := fun f hf => by
    simp only [List.mem_cons, List.not_mem_nil, or_false] at hf
    rcases hf with rfl | rfl | rfl | rfl | rfl
    · exact good_itoa (by omega)
    · exact good_itoa hr.1
    · exact good_ffx (by omega) (by omega)
    · exact good_ffx (by omega) (by omega)
    · exact good_ffx (by omega) (by omega)
  have e := repL_join x
  rw [h.rep] at e
  have hlen : (repT x).length ≤ 600 := by
    rw [← e, Lib.join_length]
    have l1 := itoa_short' (n := x.c) (by omega) (by omega)
    have l2 := itoa_short' (n := x.r) hr.1 (by omega)
    have l3 := ffx_len ns
    have l4 := ffx_len nl
    have l5 := ffx_len nt
    simp [Lib.lens]
    omega
  obtain ⟨s1, s2⟩ := spl_good hg (by rw [e]; exact hlen) (by simp)
  rw [e] at s1 s2
  exact ⟨s1, s2, hlen⟩
theorem sign_false {n : Int} (h : 0 ≤ n) : decide (n < 0) = false := decide_eq_false (by omega)
def repLines (ns nl nt : Int) : List (List UInt8) := [kSlice ++ 32 :: ffx ns, kKiller ++ 32 :: ffx nl, kSat ++ 32 :: ffx nt]
def repSet (x : SetC) (ns nl nt : Int) : SetC := ⟨x.c, x.r, nar (ffBits ns), nar (ffBits nl), nar (ffBits nt)⟩
/-- A NEW SET, TUNED BY THE LAST THREE FIELDS OF A REPORT, IS VALID AND REPORTS THE SAME. -/
theorem RepK.tuned {x : SetC} {ns nl nt : Int} (h : RepK x ns nl nt) : newB x.c x.r = true ∧
    tuneAll (newC x.c x.r, []) (repLines ns nl nt) = ((repSet x ns nl nt, repLines ns nl nt), [true, true, true]) ∧ setB (repSet x ns nl nt) 3 = true ∧ repT (repSet x ns nl nt) = repT x := by
  obtain ⟨t1, u1, n1, b1⟩ := thou_back (.inl rfl) h.bs
  obtain ⟨t2, u2, n2, b2⟩ := thou_back (.inr rfl) h.bl.2
  obtain ⟨t3, u3, n3, b3⟩ := thou_back (.inr rfl) h.bt.2
  rw [sign_false h.bl.1] at n2
  rw [sign_false h.bt.1] at n3
  have f1 := fin1_of n1 b1
  have f2 := gain_of n2 b2
  have f3 := gain_of n3 b3
  have hbs := h.bs
  have hbl := h.bl
  have hbt := h.bt
  have e0 : fin1 3250585600 = true := by decide +kernel
  have e1 : ge0 1040187392 = true ∧ le16 1040187392 = true := by decide +kernel
  have e2 : ge0 1065353216 = true ∧ le16 1065353216 = true := by decide +kernel
  have hnew : newB x.c x.r = true := setB_mk h.c1 h.c2 h.r e0 e1 e2 (by decide)
  have k1 := tune_num (x := newC x.c x.r) (y := ⟨x.c, x.r, nar (ffBits ns), 1040187392, 1065353216⟩) (ls := []) (k := kSlice) (n := ns) (.inl rfl) (by omega) (by omega) hnew
    (num_one (y := newC x.c x.r) (by omega) (by omega) (newC x.c x.r).s') (setB_mk h.c1 h.c2 h.r f1 e1 e2 (by simp))
  have k2 := tune_num (x := ⟨x.c, x.r, nar (ffBits ns), 1040187392, 1065353216⟩) (y := ⟨x.c, x.r, nar (ffBits ns), nar (ffBits nl), 1065353216⟩) (ls := [kSlice ++ 32 :: ffx ns]) (k := kKiller) (n := nl) (.inr (.inl rfl)) (by omega) (by omega)
    (setB_mk h.c1 h.c2 h.r f1 e1 e2 (by simp)) (num_one (y := newC x.c x.r) (by omega) (by omega) (SetC.l' ⟨x.c, x.r, nar (ffBits ns), 1040187392, 1065353216⟩)) (setB_mk h.c1 h.c2 h.r f1 f2 e2 (by simp))
  have k3 := tune_num (x := ⟨x.c, x.r, nar (ffBits ns), nar (ffBits nl), 1065353216⟩) (y := repSet x ns nl nt) (ls := [kSlice ++ 32 :: ffx ns, kKiller ++ 32 :: ffx nl]) (k := kSat) (n := nt) (.inr (.inr rfl)) (by omega) (by omega)
    (setB_mk h.c1 h.c2 h.r f1 f2 e2 (by simp)) (num_one (y := newC x.c x.r) (by omega) (by omega) (SetC.t' ⟨x.c, x.r, nar (ffBits ns), nar (ffBits nl), 1065353216⟩)) (setB_mk h.c1 h.c2 h.r f1 f2 f3 (by simp))
  refine ⟨hnew, ?_, setB_mk h.c1 h.c2 h.r f1 f2 f3 (by decide), ?_⟩
  · unfold repLines
    simp only [tuneAll]
    rw [k1]
    simp only [List.nil_append]
    rw [k2]
    simp only [List.cons_append, List.nil_append]
    rw [k3]
    rfl
  · unfold repT fixT repSet
    simp only
    rw [t1, t2, t3, h.s, h.l, h.t]
end Go.Proofs.YtobpnoiienpipaaDoor
