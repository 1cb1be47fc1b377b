/-
  What is proved: the walk of the program's Report.
  Conditions: the set's log can be read; the library's table of powers of ten holds what its initialiser lays.
-/
import Derived.Test.YtfoggbcfkniimaaDoorReport
namespace Go.Proofs.YtfoggbcfkniimaaDoor
set_option linter.unusedVariables false
open Go.RowKit
attribute [local go_sem] run_store_float run_store_complex unary_negf neg256

/-- The texts of a set's report. -/
def repL (x : SetC) : List (List UInt8) := [Lib.itoa x.c, Lib.itoa x.r, fixT x.s, fixT x.l, fixT x.t]
theorem repL_join (x : SetC) : Lib.join (repL x) [32] = repT x := by
  unfold repL repT
  simp [Lib.join]
theorem own_pair (W : World) (s t : List UInt8) (base : Nat) (hb : base ≤ W.heap.size) : OwnS (W.alloc (.cells #[strV s, strV t] 9)) base (.slice (some ⟨W.heap.size, 0, none⟩) 2 2) [s, t] :=
  ⟨rfl, .inr ⟨W.heap.size, 2, #[strV s, strV t], rfl, hb, heap_alloc_new W _, Nat.le_refl _, by unfold maxLen; omega, rfl, rfl⟩⟩
theorem index_three0 (x y z : Nat) (W : World) : (Instr.index 73 (.agg #[.float .f32 x, .float .f32 y, .float .f32 z]) (.int .i64 0)).run Tryd.prog W = .ok (.float .f32 x) W := by
  have hu : Tryd.prog.underlying 73 = some (.array 3 24) := by kernel_rfl
  have z1 := Tryd.sizeOf24
  have a1 := Tryd.isAgg24
  unfold Instr.index
  simp only [Sem.run_bind, run_underlying hu, Result.andThen_ok]
  go_simp
theorem index_three1 (x y z : Nat) (W : World) : (Instr.index 73 (.agg #[.float .f32 x, .float .f32 y, .float .f32 z]) (.int .i64 1)).run Tryd.prog W = .ok (.float .f32 y) W := by
  have hu : Tryd.prog.underlying 73 = some (.array 3 24) := by kernel_rfl
  have z1 := Tryd.sizeOf24
  have a1 := Tryd.isAgg24
  unfold Instr.index
  simp only [Sem.run_bind, run_underlying hu, Result.andThen_ok]
  go_simp
theorem index_three2 (x y z : Nat) (W : World) : (Instr.index 73 (.agg #[.float .f32 x, .float .f32 y, .float .f32 z]) (.int .i64 2)).run Tryd.prog W = .ok (.float .f32 z) W := by
  have hu : Tryd.prog.underlying 73 = some (.array 3 24) := by kernel_rfl
  have z1 := Tryd.sizeOf24
  have a1 := Tryd.isAgg24
  unfold Instr.index
  simp only [Sem.run_bind, run_underlying hu, Result.andThen_ok]
  go_simp
attribute [local go_sem high] index_three0 index_three1 index_three2
set_option maxRecDepth 100000 in
set_option maxHeartbeats 4000000 in
theorem report_any (x : SetC) (v : Value) (ls : List (List UInt8)) (w : World) (hx : x.ok) (h : TRow w v ls) (hl : ls.length ≤ 3000000) (htab : Tab w) :
    Calls Tryd.prog 21 #[x.val v] w fun e w' => e = .returned (.string ⟨(if setB x ls.length = true then repT x else []).toArray⟩) ∧ Below w.heap.size w w' := by
  have hb0 : Below w.heap.size w (w.alloc (.cells (x.cells v) 27)) := (Below.refl _ _).alloc (Nat.le_refl _) _
  have s0 : SetAt (w.alloc (.cells (x.cells v) 27)) w.heap.size x v := SetAt.new w x _ _
  have z0 : w.heap.size < (w.alloc (.cells (x.cells v) 27)).heap.size := by simp
  have HS := Lib.hid (setOk_any x v ls _ hx (h.below hb0) hl)
  have hnum := setB_nums (x := x) (n := ls.length)
  obtain ⟨b, hb⟩ : ∃ b, setB x ls.length = b := ⟨_, rfl⟩
  rw [hb] at HS ⊢
  rw [hb] at hnum
  obtain ⟨a, c, rfl⟩ := h.lenv
  clear hb h
  cases b with
  | false =>
    obtain ⟨xc, xr, xs, xl, xt⟩ := x
    simp only [SetC.val, SetC.cells] at *
    obtain ⟨q0, q1, q2, q3, q4, q5⟩ := id s0
    clear hx hnum
    go_enter Tryd.func21, Tryd.ntmps21
    go_wp2_with fail
    generalize World.alloc w _ = W0 at *
    refine HS.out.mono ?_
    rintro e w1 ⟨rfl, hb1⟩
    go_wp2
    go_ret
    exact ⟨rfl, below_trans hb0 hb1 hb0.size⟩
  | true =>
    obtain ⟨n1, n2, n3⟩ := hnum rfl
    obtain ⟨⟨i1, i2⟩, ⟨i3, i4⟩⟩ := id hx
    have HJ := Lib.hid (repL_join x)
    have HI := fun n W (h : I64 n) (ht : Tab W) => Lib.hid (formatInt_any n W h.1 h.2 ht)
    have HC := fun y (h : isN y = false) W => conv_wid h W
    have HT := fun y W => Lib.hid (toFixed_any y W)
    have HF := fun y W (ht : Tab W) => Lib.hid (formatFixed_any ((tfx (wid y)).getD 0) W (tfx_range (wid y)).1 (tfx_range (wid y)).2 ht)
    obtain ⟨xc, xr, xs, xl, xt⟩ := x
    simp only [SetC.val, SetC.cells, repL] at *
    obtain ⟨hx1, hx2⟩ := hx
    obtain ⟨q0, q1, q2, q3, q4, q5⟩ := id s0
    clear hnum
    go_enter Tryd.func21, Tryd.ntmps21
    go_wp2_with fail
    generalize World.alloc w _ = W0 at *
    refine HS.out.mono ?_
    rintro e w1 ⟨rfl, hb1⟩
    have s1 := s0.keep hb1 z0
    have z1 := Nat.lt_of_lt_of_le z0 hb1.size
    have g1 := below_trans hb0 hb1 hb0.size
    have t1 := htab.below g1
    clear q0 q1 q2 q3 q4 q5 s0 z0 hb0 hb1 HS
    obtain ⟨q0, q1, q2, q3, q4, q5⟩ := id s1
    go_wp2
    have g1' : Below w.heap.size w w1.drew := g1.drew
    have z1' : w.heap.size < w1.drew.heap.size := z1
    have t1' : Tab w1.drew := t1
    obtain ⟨T1, e1⟩ : ∃ t, Lib.itoa xc = t := ⟨_, rfl⟩
    obtain ⟨T2, e2⟩ : ∃ t, Lib.itoa xr = t := ⟨_, rfl⟩
    have L1 := Lib.hid (show T1.length ≤ 21 by rw [← e1]; exact Lib.itoa_length_le xc i1 i2)
    have L2 := Lib.hid (show T2.length ≤ 21 by rw [← e2]; exact Lib.itoa_length_le xr i3 i4)
    have E1 := Lib.hid e1
    have E2 := Lib.hid e2
    clear e1 e2
    have SN := Lib.hid (show ∀ V V' : World, Below V.heap.size V V' → (Below w.heap.size w V ∧ w.heap.size < V.heap.size ∧ Tab V ∧ V.cell? ⟨w.heap.size, 0, none⟩ = some (.int .i64 xc) ∧ V.cell? ⟨w.heap.size, 1, none⟩ = some (.int .i64 xr) ∧ V.cell? ⟨w.heap.size, 2, none⟩ = some (.float .f32 xs) ∧ V.cell? ⟨w.heap.size, 3, none⟩ = some (.float .f32 xl) ∧ V.cell? ⟨w.heap.size, 4, none⟩ = some (.float .f32 xt)) → (Below w.heap.size w V' ∧ w.heap.size < V'.heap.size ∧ Tab V' ∧ V'.cell? ⟨w.heap.size, 0, none⟩ = some (.int .i64 xc) ∧ V'.cell? ⟨w.heap.size, 1, none⟩ = some (.int .i64 xr) ∧ V'.cell? ⟨w.heap.size, 2, none⟩ = some (.float .f32 xs) ∧ V'.cell? ⟨w.heap.size, 3, none⟩ = some (.float .f32 xl) ∧ V'.cell? ⟨w.heap.size, 4, none⟩ = some (.float .f32 xt)) from fun V V' hb ⟨a1, a2, a8, a3, a4, a5, a6, a7⟩ =>
      ⟨below_trans a1 hb a1.size, Nat.lt_of_lt_of_le a2 hb.size, a8.below hb, (hb.cell (p := ⟨_, 0, none⟩) a2).trans a3, (hb.cell (p := ⟨_, 1, none⟩) a2).trans a4, (hb.cell (p := ⟨_, 2, none⟩) a2).trans a5, (hb.cell (p := ⟨_, 3, none⟩) a2).trans a6, (hb.cell (p := ⟨_, 4, none⟩) a2).trans a7⟩)
    have SA := Lib.hid (show ∀ (V : World) (o : Obj), (Below w.heap.size w V ∧ w.heap.size < V.heap.size ∧ Tab V ∧ V.cell? ⟨w.heap.size, 0, none⟩ = some (.int .i64 xc) ∧ V.cell? ⟨w.heap.size, 1, none⟩ = some (.int .i64 xr) ∧ V.cell? ⟨w.heap.size, 2, none⟩ = some (.float .f32 xs) ∧ V.cell? ⟨w.heap.size, 3, none⟩ = some (.float .f32 xl) ∧ V.cell? ⟨w.heap.size, 4, none⟩ = some (.float .f32 xt)) → (Below w.heap.size w (V.alloc o) ∧ w.heap.size < (V.alloc o).heap.size ∧ Tab (V.alloc o) ∧ (V.alloc o).cell? ⟨w.heap.size, 0, none⟩ = some (.int .i64 xc) ∧ (V.alloc o).cell? ⟨w.heap.size, 1, none⟩ = some (.int .i64 xr) ∧ (V.alloc o).cell? ⟨w.heap.size, 2, none⟩ = some (.float .f32 xs) ∧ (V.alloc o).cell? ⟨w.heap.size, 3, none⟩ = some (.float .f32 xl) ∧ (V.alloc o).cell? ⟨w.heap.size, 4, none⟩ = some (.float .f32 xt)) from fun V o h => SN.out V (V.alloc o) ((Below.refl _ _).alloc (Nat.le_refl _) _) h)
    go_region_held3 (fun V => Below w.heap.size w V ∧ w.heap.size < V.heap.size ∧ Tab V ∧ V.cell? ⟨w.heap.size, 0, none⟩ = some (.int .i64 xc) ∧ V.cell? ⟨w.heap.size, 1, none⟩ = some (.int .i64 xr) ∧ V.cell? ⟨w.heap.size, 2, none⟩ = some (.float .f32 xs) ∧ V.cell? ⟨w.heap.size, 3, none⟩ = some (.float .f32 xl) ∧ V.cell? ⟨w.heap.size, 4, none⟩ = some (.float .f32 xt)) (first | exact KK | exact ⟨g1', z1', t1', q0, q1, q2, q3, q4⟩ | exact SA.out _ _ (by assumption) | go_keep) (first
      | (go_at_call 56; refine (HI _ _ (by first | exact hx1 | exact hx2) ?_).out.mono ?_; exact (show (fun V : World => Below w.heap.size w V ∧ w.heap.size < V.heap.size ∧ Tab V ∧ V.cell? ⟨w.heap.size, 0, none⟩ = some (.int .i64 xc) ∧ V.cell? ⟨w.heap.size, 1, none⟩ = some (.int .i64 xr) ∧ V.cell? ⟨w.heap.size, 2, none⟩ = some (.float .f32 xs) ∧ V.cell? ⟨w.heap.size, 3, none⟩ = some (.float .f32 xl) ∧ V.cell? ⟨w.heap.size, 4, none⟩ = some (.float .f32 xt)) _ by assumption).2.2.1; rintro e w2 ⟨rfl, hb2⟩; (first | rw [E1.out] | rw [E2.out]); have KK := SN.out _ _ hb2 (by assumption)))
    have KX := SA.out w2 (.cells #[.string ⟨T1.toArray⟩, .string ⟨T2.toArray⟩] 9) KK
    have hO := own_pair w2 T1 T2 w.heap.size (by have := KK.1.size; exact this)
    have HO := Lib.hid (show OwnS (w2.alloc (.cells #[.string ⟨T1.toArray⟩, .string ⟨T2.toArray⟩] 9)) w.heap.size (.slice (some ⟨w2.heap.size, 0, none⟩) 2 2) [T1, T2] from hO)
    clear hO KK hb2 q0 q1 q2 q3 q4 q5 s1
    obtain ⟨KB, KZ, KT, q0, q1, q2, q3, q4⟩ := id KX
    have HKB := Lib.hid KB
    have HTAB := Lib.hid htab
    clear KX SN SA KB KT
    generalize World.alloc w2 _ = X at *
    obtain ⟨T3, e3⟩ : ∃ t, fixT xs = t := ⟨_, rfl⟩
    obtain ⟨T4, e4⟩ : ∃ t, fixT xl = t := ⟨_, rfl⟩
    obtain ⟨T5, e5⟩ : ∃ t, fixT xt = t := ⟨_, rfl⟩
    have L3 := Lib.hid (show T3.length ≤ 100 by rw [← e3]; exact fixT_len xs)
    have L4 := Lib.hid (show T4.length ≤ 100 by rw [← e4]; exact fixT_len xl)
    have L5 := Lib.hid (show T5.length ≤ 100 by rw [← e5]; exact fixT_len xt)
    have E3 := Lib.hid e3
    have E4 := Lib.hid e4
    have E5 := Lib.hid e5
    clear e3 e4 e5
    go_wp2
    go_loopw [3, 25] (fun v i wr => (i = .int .i64 0 ∧ OwnS wr w.heap.size v [T1, T2] ∨ i = .int .i64 1 ∧ OwnS wr w.heap.size v [T1, T2, T3] ∨ i = .int .i64 2 ∧ OwnS wr w.heap.size v [T1, T2, T3, T4] ∨ i = .int .i64 3 ∧ OwnS wr w.heap.size v [T1, T2, T3, T4, T5]) ∧ Below w.heap.size w wr) (fun _ i _ => 3 - (intOf i).toNat)
    case atStart => exact ⟨.inl ⟨rfl, HO.out⟩, HKB.out⟩
    case round =>
      obtain ⟨hk, hb⟩ := hrel
      have HBB := Lib.hid hb
      clear hb q0 q1 q2 q3 q4
      rcases hk with ⟨rfl, ho⟩ | ⟨rfl, ho⟩ | ⟨rfl, ho⟩ | ⟨rfl, ho⟩
      · have hcv := HC xs n1
        have HW := Lib.hid ho
        clear ho
        go_wp2_with fail
        refine (HT _ _).out.mono ?_
        rintro e w3 ⟨rfl, hb3⟩
        have g3 := below_trans HBB.out hb3 HBB.out.size
        have HW3 := Lib.hid (HW.out.below hb3)
        clear hb3 HW
        go_wp2_with fail
        refine (HF xs _ (HTAB.out.below g3)).out.mono ?_
        rintro e w4 ⟨rfl, hb4⟩
        rw [show ffx ((tfx (wid xs)).getD 0) = T3 from E3.out]
        have g4 := below_trans g3 hb4 g3.size
        have HW4 := Lib.hid (HW3.out.below hb4)
        clear hb4 HW3 g3
        go_wp2_with (at_builtin; refine list_str rfl (.tmp 34) (.tmp 37) rfl w.heap.size _ _ rfl HW4.out _ _ T3 rfl rfl (by simp) g4.size ?_; intro v' w5 ho5 hg5)
        have g5 : Below w.heap.size w w5 := (g4.alloc g4.size _).grown hg5 (by have := g4.size; simp; omega) (fun r hr => (HW4.out.lt r hr).1)
        go_roundw
        case rel => exact ⟨.inr (.inl ⟨by go_num, ho5⟩), g5⟩
        case measure => simp [intOf]
      · have hcv := HC xl n2
        have HW := Lib.hid ho
        clear ho
        go_wp2_with fail
        refine (HT _ _).out.mono ?_
        rintro e w3 ⟨rfl, hb3⟩
        have g3 := below_trans HBB.out hb3 HBB.out.size
        have HW3 := Lib.hid (HW.out.below hb3)
        clear hb3 HW
        go_wp2_with fail
        refine (HF xl _ (HTAB.out.below g3)).out.mono ?_
        rintro e w4 ⟨rfl, hb4⟩
        rw [show ffx ((tfx (wid xl)).getD 0) = T4 from E4.out]
        have g4 := below_trans g3 hb4 g3.size
        have HW4 := Lib.hid (HW3.out.below hb4)
        clear hb4 HW3 g3
        go_wp2_with (at_builtin; refine list_str rfl (.tmp 34) (.tmp 37) rfl w.heap.size _ _ rfl HW4.out _ _ T4 rfl rfl (by simp) g4.size ?_; intro v' w5 ho5 hg5)
        have g5 : Below w.heap.size w w5 := (g4.alloc g4.size _).grown hg5 (by have := g4.size; simp; omega) (fun r hr => (HW4.out.lt r hr).1)
        go_roundw
        case rel => exact ⟨.inr (.inr (.inl ⟨by go_num, ho5⟩)), g5⟩
        case measure => simp [intOf]
      · have hcv := HC xt n3
        have HW := Lib.hid ho
        clear ho
        go_wp2_with fail
        refine (HT _ _).out.mono ?_
        rintro e w3 ⟨rfl, hb3⟩
        have g3 := below_trans HBB.out hb3 HBB.out.size
        have HW3 := Lib.hid (HW.out.below hb3)
        clear hb3 HW
        go_wp2_with fail
        refine (HF xt _ (HTAB.out.below g3)).out.mono ?_
        rintro e w4 ⟨rfl, hb4⟩
        rw [show ffx ((tfx (wid xt)).getD 0) = T5 from E5.out]
        have g4 := below_trans g3 hb4 g3.size
        have HW4 := Lib.hid (HW3.out.below hb4)
        clear hb4 HW3 g3
        go_wp2_with (at_builtin; refine list_str rfl (.tmp 34) (.tmp 37) rfl w.heap.size _ _ rfl HW4.out _ _ T5 rfl rfl (by simp) g4.size ?_; intro v' w5 ho5 hg5)
        have g5 : Below w.heap.size w w5 := (g4.alloc g4.size _).grown hg5 (by have := g4.size; simp; omega) (fun r hr => (HW4.out.lt r hr).1)
        go_roundw
        case rel => exact ⟨.inr (.inr (.inr ⟨by go_num, ho5⟩)), g5⟩
        case measure => simp [intOf]
      · have HW := Lib.hid ho
        rcases ho.shape with ⟨_, e⟩ | ⟨g, cap, rfl, hgb, hgl, hcap, _⟩
        · cases e
        have HJ2 := Tryd.strings_Join g 0 cap [⟨T1.toArray⟩, ⟨T2.toArray⟩, ⟨T3.toArray⟩, ⟨T4.toArray⟩, ⟨T5.toArray⟩] ⟨#[32]⟩ wr (fun j q hj => by
          obtain ⟨hlt, rfl⟩ := List.getElem?_eq_some_iff.1 hj
          have hlt' : j < 5 := by simpa using hlt
          rw [Nat.zero_add]
          rw [(HW.out.cell j (by simpa using hlt)).1]
          rcases (by omega : j = 0 ∨ j = 1 ∨ j = 2 ∨ j = 3 ∨ j = 4) with rfl | rfl | rfl | rfl | rfl <;> rfl) hgl (by simp) (by simpa using hcap) (by
            have := L1.out; have := L2.out; have := L3.out; have := L4.out; have := L5.out
            simp [Lib.join]
            omega)
        have HJ3 := Lib.hid HJ2
        have HJ4 := Lib.hid (show Lib.join [T1, T2, T3, T4, T5] [32] = repT ⟨xc, xr, xs, xl, xt⟩ by rw [← E1.out, ← E2.out, ← E3.out, ← E4.out, ← E5.out]; exact HJ.out)
        clear HJ2 ho
        go_wp2_with fail
        refine HJ3.out.mono ?_
        rintro e w3 ⟨rfl, hb3⟩
        have g3 := below_trans HBB.out hb3 HBB.out.size
        go_wp2
        go_ret
        refine ⟨?_, g3⟩
        exact congrArg (fun l => Ending.returned (Value.string ⟨List.toArray l⟩)) (by simpa using HJ4.out)
end Go.Proofs.YtfoggbcfkniimaaDoor
