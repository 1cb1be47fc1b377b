/-
  What is proved: the walks of the functions that tell whether a cell is valid (the program's and the model's), and of those that compare floats and colours for the laws.
  Conditions: those that each fact names.
-/
import Derived.Test.YtgecclccmmcdoaaRows
import Derived.Test.YtgecclccmmcdoaaPkNum
import Derived.WalkKit
import Derived.WalkSpells
import Derived.WalkLawsBesides
import Derived.Below
import Derived.Lib.Hide
import Derived.Laws.AppendOwn
import Derived.Lib.BufferWrite
import Derived.Lib.BufferOwn
import Derived.RegionTactic
import Derived.Deep.QuietTactic
import Derived.BigQuiet
namespace Go.Proofs.Ytgecclccmmcdoaa
set_option linter.unusedVariables false
open Go.RowKit

theorem run_store_float (P : Program) (w : World) (a : Addr) (m : Mode) (k : FloatKind) (b : Nat) : (store a (.float k b) m).run P w = stored P w a (.float k b) m := run_store P w a _ m rfl
theorem run_store_complex (P : Program) (w : World) (a : Addr) (m : Mode) (k : FloatKind) (x y : Nat) : (store a (.complex k x y) m).run P w = stored P w a (.complex k x y) m := run_store P w a _ m rfl
theorem unary_negf (k : FloatKind) (b : Nat) : Op.unary .neg (.float k b) = pure (.float k (Op.negFloat k b)) := rfl
theorem neg256 : Op.negFloat .f32 1132462080 = 3279945728 := by decide
attribute [local go_sem] run_store_float run_store_complex unary_negf neg256

theorem dorder_swap (x y : Ieee.Datum) : (x.order y == some .gt) = (y.order x == some .lt) ∧ (x.order y == some .eq) = (y.order x == some .eq) := by
  cases x with
  | number s m i => cases y with
    | number t n j =>
      simp only [Ieee.Datum.order]
      rw [Int.min_comm j i]
      generalize Ieee.signed s m (i - min i j).toNat = a
      generalize Ieee.signed t n (j - min i j).toNat = b
      rcases Int.lt_trichotomy a b with h | h | h
      · rw [Int.compare_eq_lt.2 h, Int.compare_eq_gt.2 h]; exact ⟨rfl, rfl⟩
      · subst h; rw [Int.compare_eq_eq.2 rfl]; exact ⟨rfl, rfl⟩
      · rw [Int.compare_eq_lt.2 h, Int.compare_eq_gt.2 h]; exact ⟨rfl, rfl⟩
    | infinity t => cases t <;> exact ⟨rfl, rfl⟩
    | nan t q => exact ⟨rfl, rfl⟩
  | infinity s => cases y with
    | number t n j => cases s <;> exact ⟨rfl, rfl⟩
    | infinity t => cases s <;> cases t <;> exact ⟨rfl, rfl⟩
    | nan t q => exact ⟨rfl, rfl⟩
  | nan s q => cases y <;> exact ⟨rfl, rfl⟩
theorem geq_lo (x : Nat) : (FloatKind.f32.format.order x 3279945728 == some .gt || FloatKind.f32.format.order x 3279945728 == some .eq) = Flt.lo x := by
  obtain ⟨h1, h2⟩ := dorder_swap (Ieee.single.read x) (Ieee.single.read 3279945728)
  show (Ieee.single.order x 3279945728 == some .gt || Ieee.single.order x 3279945728 == some .eq) = _
  unfold Flt.lo Ieee.Format.order
  rw [h1, h2]
theorem leq_lo (x : Nat) : (FloatKind.f32.format.order 3279945728 x == some .lt || FloatKind.f32.format.order 3279945728 x == some .eq) = Flt.lo x := rfl
theorem leq_hi (x : Nat) : (FloatKind.f32.format.order x 1132462080 == some .lt || FloatKind.f32.format.order x 1132462080 == some .eq) = Flt.hi x := rfl
attribute [local go_sem] geq_lo leq_lo leq_hi

theorem within_any (x : Nat) (w : World) :
    Calls Try.prog 117 #[.float .f32 x, .float .f32 1132462080] w fun e w' => e = .returned (.bool (Flt.fin x)) ∧ w = w' := by
  unfold Flt.fin
  cases h : Flt.lo x
  · go_enter Try.func117, Try.ntmps117
    go_wp2
    go_ret
    exact ⟨rfl, rfl⟩
  · go_enter Try.func117, Try.ntmps117
    go_wp2
    go_ret
    exact ⟨rfl, rfl⟩
theorem l02Fine_any (x : Nat) (w : World) :
    Calls Try.prog 120 #[.float .f32 x] w fun e w' => e = .returned (.bool (Flt.fin x)) ∧ w = w' := by
  unfold Flt.fin
  cases h : Flt.lo x
  · go_enter Try.func120, Try.ntmps120
    go_wp2
    go_ret
    exact ⟨rfl, rfl⟩
  · go_enter Try.func120, Try.ntmps120
    go_wp2
    go_ret
    exact ⟨rfl, rfl⟩

/-- A cell: the bits of its brightness and of both parts of its colour. -/
abbrev C3 := Nat × Nat × Nat
def cv (y u v : Nat) : Value := .agg #[.float .f32 y, .complex .f32 u v]
def okc (y u v : Nat) : Bool := Flt.fin y && (Flt.fin u && Flt.fin v)
theorem l02Colour_any (u v : Nat) (w : World) :
    Calls Try.prog 121 #[.complex .f32 u v] w fun e w' => e = .returned (.bool (Flt.fin u && Flt.fin v)) ∧ w = w' := by
  have hu := l02Fine_any u w
  have hv := l02Fine_any v w
  cases h : Flt.fin u
  · rw [h] at hu
    have HU := Lib.hid hu
    clear hu hv
    go_enter Try.func121, Try.ntmps121
    go_wp2_with (go_at_call 120; refine HU.out.mono ?_; rintro e w1 ⟨rfl, rfl⟩)
    go_ret
    exact ⟨rfl, rfl⟩
  · rw [h] at hu
    have HU := Lib.hid hu
    have HV := Lib.hid hv
    clear hu hv
    go_enter Try.func121, Try.ntmps121
    go_wp2_with (go_at_call 120; first | (refine HU.out.mono ?_; clear HU; rintro e w1 ⟨rfl, rfl⟩) | (refine HV.out.mono ?_; rintro e w1 ⟨rfl, rfl⟩))
    go_ret
    exact ⟨rfl, rfl⟩

theorem cellOk_any (y u v : Nat) (w : World) :
    Calls Try.prog 76 #[.agg #[.float .f32 y, .complex .f32 u v]] w fun e w' => e = .returned (.bool (okc y u v)) ∧ Below w.heap.size w w' := by
  have HW := fun x W => Lib.hid (within_any x W)
  unfold okc
  cases h : Flt.fin y
  · go_enter Try.func76, Try.ntmps76
    go_wp2_with fail
    refine (HW y _).out.mono ?_
    rintro e w1 ⟨rfl, rfl⟩
    rw [h]
    go_wp2
    go_ret
    exact ⟨rfl, (Below.refl _ _).alloc (Nat.le_refl _) _⟩
  · cases h1 : Flt.fin u
    · go_enter Try.func76, Try.ntmps76
      go_wp2_with fail
      refine (HW y _).out.mono ?_
      rintro e w1 ⟨rfl, rfl⟩
      rw [h]
      go_wp2_with fail
      refine (HW u _).out.mono ?_
      rintro e w1 ⟨rfl, rfl⟩
      rw [h1]
      go_wp2
      go_ret
      exact ⟨rfl, (Below.refl _ _).alloc (Nat.le_refl _) _⟩
    · go_enter Try.func76, Try.ntmps76
      go_wp2_with fail
      refine (HW y _).out.mono ?_
      rintro e w1 ⟨rfl, rfl⟩
      rw [h]
      go_wp2_with fail
      refine (HW u _).out.mono ?_
      rintro e w1 ⟨rfl, rfl⟩
      rw [h1]
      go_wp2_with fail
      refine (HW v _).out.mono ?_
      rintro e w1 ⟨rfl, rfl⟩
      go_wp2
      go_ret
      exact ⟨rfl, (Below.refl _ _).alloc (Nat.le_refl _) _⟩
theorem specCellOk_any (y u v : Nat) (w : World) :
    Calls Try.prog 80 #[.agg #[.float .f32 y, .complex .f32 u v]] w fun e w' => e = .returned (.bool (okc y u v)) ∧ Below w.heap.size w w' := by
  have HW := fun x W => Lib.hid (l02Fine_any x W)
  have HC := fun x y W => Lib.hid (l02Colour_any x y W)
  unfold okc
  cases h : Flt.fin y
  · go_enter Try.func80, Try.ntmps80
    go_wp2_with fail
    refine (HW y _).out.mono ?_
    rintro e w1 ⟨rfl, rfl⟩
    rw [h]
    go_wp2
    go_ret
    exact ⟨rfl, (Below.refl _ _).alloc (Nat.le_refl _) _⟩
  · go_enter Try.func80, Try.ntmps80
    go_wp2_with fail
    refine (HW y _).out.mono ?_
    rintro e w1 ⟨rfl, rfl⟩
    rw [h]
    go_wp2_with fail
    refine (HC u v _).out.mono ?_
    rintro e w1 ⟨rfl, rfl⟩
    go_wp2
    go_ret
    exact ⟨rfl, (Below.refl _ _).alloc (Nat.le_refl _) _⟩
end Go.Proofs.Ytgecclccmmcdoaa

/-
  What is proved: rows of cells as they lie in memory; the walks of RowOk (the program's and the model's), and of the law's comparing of two rows that are alike.
  Conditions: those that each fact names.
-/
namespace Go.Proofs.Ytgecclccmmcdoaa
set_option linter.unusedVariables false
open Go.RowKit
attribute [local go_sem] run_store_float run_store_complex unary_negf neg256

/-- The slice v of cells reads as cs. -/
def RowV (w : World) (v : Value) (cs : List C3) : Prop :=
  (v = .slice none 0 0 ∧ cs = []) ∨ ∃ g o cap, v = .slice (some ⟨g, o, none⟩) cs.length cap ∧ cs.length ≤ cap ∧
    ∀ i (h : i < cs.length), w.cell? ⟨g, o + i * 2, none⟩ = some (.float .f32 cs[i].1) ∧ w.cell? ⟨g, o + i * 2 + 1, none⟩ = some (.complex .f32 cs[i].2.1 cs[i].2.2)
theorem RowV.grown {w w' : World} {v : Value} {cs : List C3} (h : RowV w v cs) (hg : w.grownBy w' none) : RowV w' v cs := by
  rcases h with h | ⟨g, o, cap, h1, h2, h3⟩
  · exact .inl h
  · exact .inr ⟨g, o, cap, h1, h2, fun i hi => ⟨hg.cell (h3 i hi).1 (by simp), hg.cell (h3 i hi).2 (by simp)⟩⟩
theorem grown_of {w w' : World} (hb : Below w.heap.size w w') : w.grownBy w' none := ⟨hb.os, hb.tape, hb.output, hb.size, fun k hk _ => hb.block k hk⟩
theorem RowV.below {w w' : World} {v : Value} {cs : List C3} (h : RowV w v cs) (hb : Below w.heap.size w w') : RowV w' v cs := h.grown (grown_of hb)
theorem below_trans {a b c : World} {n m : Nat} (h1 : Below n a b) (h2 : Below m b c) (h : n ≤ m) : Below n a c := h1.trans (h2.mono h)
/-- Is a row valid? -/
def rok (cs : List C3) : Bool := (decide (1 ≤ cs.length) && decide (cs.length ≤ 64)) && cs.all fun c => okc c.1 c.2.1 c.2.2
theorem all_take {α : Type} {p : α → Bool} {l : List α} {k : Nat} (hk : k < l.length) (h : (l.take k).all p = true) (hc : p l[k] = true) : (l.take (k + 1)).all p = true := by
  rw [List.take_succ_eq_append_getElem hk, List.all_append, h]; simp [hc]
theorem all_not {α : Type} {p : α → Bool} {l : List α} {k : Nat} (hk : k < l.length) (hc : p l[k] = false) : l.all p = false := by
  cases h : l.all p
  · rfl
  · rw [List.all_eq_true.1 h _ (List.getElem_mem hk)] at hc; cases hc

set_option maxHeartbeats 1000000 in
theorem rowOk_any (v : Value) (cs : List C3) (w : World) (h : RowV w v cs) (hl : cs.length ≤ 1000000) :
    Calls Try.prog 33 #[v] w fun e w' => e = .returned (.bool (rok cs)) ∧ Below w.heap.size w w' := by
  by_cases hlen : 1 ≤ cs.length ∧ cs.length ≤ 64
  · have hr : rok cs = cs.all fun c => okc c.1 c.2.1 c.2.2 := by unfold rok; rw [decide_eq_true hlen.1, decide_eq_true hlen.2]; rfl
    rw [hr]
    clear hr
    rcases h with ⟨_, h0⟩ | ⟨g, o, cap, rfl, hcap, hcell⟩
    · subst h0; simp at hlen
    · have HC := Lib.hid hcell
      have HO := fun y u v W => Lib.hid (cellOk_any y u v W)
      obtain ⟨hl1, hl2⟩ := hlen
      generalize hp : (fun c : C3 => okc c.1 c.2.1 c.2.2) = p
      have HP := fun c => Lib.hid (congrFun hp c)
      clear hcell hp
      go_enter Try.func33, Try.ntmps33
      go_wp2
      go_loopw [15] (fun i wr => ∃ k : Nat, k ≤ cs.length ∧ i = .int .i64 (k : Int) ∧ Below w.heap.size w wr ∧ (cs.take k).all p = true) (fun i _ => cs.length - (intOf i).toNat)
      case atStart => exact ⟨0, Nat.zero_le _, rfl, Below.refl _ _, by simp⟩
      case round =>
        obtain ⟨k, hk, rfl, hb, hall⟩ := hrel
        have HALL := Lib.hid hall
        clear hall
        by_cases hlt : k < cs.length
        · obtain ⟨hc0, hc1⟩ := HC.out k hlt
          have hd0 := (grown_of hb).cell hc0 (by simp)
          have hd1 := (grown_of hb).cell hc1 (by simp)
          have hpk := (HP cs[k]).out
          clear hc0 hc1
          generalize hck : cs[k] = c at *
          obtain ⟨y, u, v⟩ := c
          have HPK := Lib.hid hpk
          have HCK := Lib.hid hck
          clear hpk hck
          go_wp2_with fail
          refine (HO y u v _).out.mono ?_
          rintro e w1 ⟨rfl, hb1⟩
          cases hk2 : okc y u v with
          | true =>
            rw [hk2] at HPK
            have hst := all_take hlt HALL.out (by rw [HCK.out]; exact HPK.out.symm)
            have HST := Lib.hid hst
            clear hst hk2
            go_wp2
            go_roundw
            case rel => exact ⟨k + 1, by omega, by go_num, below_trans hb (below_trans ((Below.refl _ _).alloc (Nat.le_refl _) _) hb1 (by simp)) hb.size, HST.out⟩
            case measure => simp [intOf]; omega
          | false =>
            rw [hk2] at HPK
            have hst := all_not hlt (by rw [HCK.out]; exact HPK.out.symm)
            have HST := Lib.hid hst
            clear hst hk2
            go_wp2
            go_ret
            exact ⟨by rw [HST.out]; rfl, below_trans hb (below_trans ((Below.refl _ _).alloc (Nat.le_refl _) _) hb1 (by simp)) hb.size⟩
        · have hkk : cs.take k = cs := List.take_of_length_le (by omega)
          have HK := Lib.hid hkk
          clear hkk
          go_wp2
          go_ret
          exact ⟨by have := HALL.out; rw [HK.out] at this; rw [this]; rfl, hb⟩
  · have hr : rok cs = false := by
      unfold rok
      cases h1 : decide (1 ≤ cs.length) && decide (cs.length ≤ 64)
      · rfl
      · simp at h1; exact absurd h1 (by omega)
    rw [hr]
    clear hr
    by_cases h0 : cs.length = 0
    · have he : cs = [] := List.eq_nil_of_length_eq_zero h0
      subst he
      rcases h with ⟨rfl, _⟩ | ⟨g, o, cap, rfl, hcap, hcell⟩
      all_goals
        go_enter Try.func33, Try.ntmps33
        go_wp2
        go_ret
        exact ⟨rfl, Below.refl _ _⟩
    · rcases h with ⟨_, h0⟩ | ⟨g, o, cap, rfl, hcap, hcell⟩
      · subst h0; simp at h0
      · clear hcell
        have hl2 : 64 < cs.length := by omega
        clear hlen
        go_enter Try.func33, Try.ntmps33
        go_wp2
        go_ret
        exact ⟨rfl, Below.refl _ _⟩

theorem l01In_any (x a b : Int) (w : World) (hx : -9223372036854775808 ≤ x ∧ x ≤ 9223372036854775807) :
    Calls Try.prog 81 #[.int .i64 x, .int .i64 a, .int .i64 b] w fun e w' => e = .returned (.bool (decide (a ≤ x) && decide (x ≤ b))) ∧ w = w' := by
  by_cases h : a ≤ x
  · go_enter Try.func81, Try.ntmps81
    go_wp2
    go_ret
    exact ⟨by simp [h], rfl⟩
  · go_enter Try.func81, Try.ntmps81
    go_wp2
    go_ret
    exact ⟨by have h' : ¬ a ≤ x := by omega
              simp [h'], rfl⟩

theorem rok_eq (cs : List C3) (p : C3 → Bool) (hp : (fun c : C3 => okc c.1 c.2.1 c.2.2) = p) (h : cs.all p = true) : rok cs = (decide ((1 : Int) ≤ cs.length) && decide ((cs.length : Int) ≤ 64)) := by
  unfold rok
  rw [hp, h, Bool.and_true]
  congr 1
  · exact decide_eq_decide.2 (by omega)
  · exact decide_eq_decide.2 (by omega)
theorem rok_no (cs : List C3) (p : C3 → Bool) (hp : (fun c : C3 => okc c.1 c.2.1 c.2.2) = p) (h : cs.all p = false) : rok cs = false := by
  unfold rok
  rw [hp, h, Bool.and_false]
set_option maxHeartbeats 1000000 in
theorem specRowOk_any (v : Value) (cs : List C3) (w : World) (h : RowV w v cs) (hl : cs.length ≤ 1000000) :
    Calls Try.prog 36 #[v] w fun e w' => e = .returned (.bool (rok cs)) ∧ Below w.heap.size w w' := by
  rcases h with ⟨rfl, rfl⟩ | ⟨g, o, cap, rfl, hcap, hcell⟩
  · have HI := Lib.hid (l01In_any 0 1 64 w (by omega))
    go_enter Try.func36, Try.ntmps36
    go_wp2
    go_loop [3] (fun i => i = .int .i64 0) (fun _ => 0)
    case atStart => exact rfl
    case round =>
      obtain rfl := hrel
      go_wp2_with fail
      refine HI.out.mono ?_
      rintro e w1 ⟨rfl, rfl⟩
      go_wp2
      go_ret
      exact ⟨rfl, Below.refl _ _⟩
  · have HC := Lib.hid hcell
    have HO := fun y u v W => Lib.hid (specCellOk_any y u v W)
    have HI := fun W => Lib.hid (l01In_any cs.length 1 64 W (by omega))
    generalize hp : (fun c : C3 => okc c.1 c.2.1 c.2.2) = p
    have HP := fun c => Lib.hid (congrFun hp c)
    have HY := fun h => Lib.hid (rok_eq cs p hp h)
    have HN := fun h => Lib.hid (rok_no cs p hp h)
    clear hcell hp
    generalize rok cs = r at *
    go_enter Try.func36, Try.ntmps36
    go_wp2
    go_loopw [3] (fun i wr => ∃ k : Nat, k ≤ cs.length ∧ i = .int .i64 (k : Int) ∧ Below w.heap.size w wr ∧ (cs.take k).all p = true) (fun i _ => cs.length - (intOf i).toNat)
    case atStart => exact ⟨0, Nat.zero_le _, rfl, Below.refl _ _, by simp⟩
    case round =>
      obtain ⟨k, hk, rfl, hb, hall⟩ := hrel
      have HALL := Lib.hid hall
      clear hall
      by_cases hlt : k < cs.length
      · obtain ⟨hc0, hc1⟩ := HC.out k hlt
        have hd0 := (grown_of hb).cell hc0 (by simp)
        have hd1 := (grown_of hb).cell hc1 (by simp)
        have hpk := (HP cs[k]).out
        clear hc0 hc1
        generalize hck : cs[k] = c at *
        obtain ⟨y, u, v⟩ := c
        have HPK := Lib.hid hpk
        have HCK := Lib.hid hck
        clear hpk hck
        go_wp2_with fail
        refine (HO y u v _).out.mono ?_
        rintro e w1 ⟨rfl, hb1⟩
        cases hk2 : okc y u v with
        | true =>
          rw [hk2] at HPK
          have hst := all_take hlt HALL.out (by rw [HCK.out]; exact HPK.out.symm)
          have HST := Lib.hid hst
          clear hst hk2
          go_wp2
          go_roundw
          case rel => exact ⟨k + 1, by omega, by go_num, below_trans hb hb1 hb.size, HST.out⟩
          case measure => simp [intOf]; omega
        | false =>
          rw [hk2] at HPK
          have hst := (HN (all_not hlt (by rw [HCK.out]; exact HPK.out.symm))).out
          have HST := Lib.hid hst
          clear hst hk2
          go_wp2
          go_ret
          exact ⟨by rw [HST.out]; rfl, below_trans hb hb1 hb.size⟩
      · have hkk : cs.take k = cs := List.take_of_length_le (by omega)
        have hy := (HY (by have := HALL.out; rwa [hkk] at this)).out
        have HYY := Lib.hid hy
        clear hkk hy
        go_wp2_with fail
        refine (HI _).out.mono ?_
        rintro e w1 ⟨rfl, rfl⟩
        go_wp2
        go_ret
        exact ⟨by rw [HYY.out]; rfl, hb⟩
end Go.Proofs.Ytgecclccmmcdoaa

/-
  What is proved: the law's comparing of floats, colours and rows that are alike answers true.
  Conditions: no number is NaN or above 256.
-/
namespace Go.Proofs.Ytgecclccmmcdoaa
set_option linter.unusedVariables false
open Go.RowKit

theorem qt_add {P : Program} {f : FuncId} {args : Array Value} {w : World} {a n : Nat} {v : Value} (h : Calls P f args (w.drewN (a + n)) fun e w' => e = .returned v ∧ w.drewN (a + n) = w') :
    Calls P f args (w.drewN (a + n)) fun e w'' => e = .returned v ∧ ∃ m, w'' = w.drewN (a + m) := h.mono fun _ _ hh => ⟨hh.1, n, hh.2.symm⟩
theorem qt_one {P : Program} {f : FuncId} {args : Array Value} {w : World} {n : Nat} {v : Value} (h : Calls P f args (w.drewN n) fun e w' => e = .returned v ∧ w.drewN n = w') :
    Calls P f args (w.drewN n) fun e w'' => e = .returned v ∧ ∃ m, w'' = w.drewN m := h.mono fun _ _ hh => ⟨hh.1, n, hh.2.symm⟩
theorem belowDN {B : Nat} {a w : World} (h : Below B a w) (n : Nat) : Below B a (w.drewN n) := ⟨h.os, h.tape, h.output, h.size, h.block⟩
theorem rd0 : Ieee.double.read 0 = .number false 0 (-1074) := by decide +kernel
theorem rd1 : Ieee.double.read 4607182418800017408 = .number false 4503599627370496 (-52) := by decide +kernel
set_option maxHeartbeats 400000 in
theorem same64_self (a : Nat) (w : World) (ha : (Ieee.double.read a).isNaN = false) :
    Calls Try.prog 72 #[.float .f64 a, .float .f64 a] w fun e w' => e = .returned (.bool true) ∧ w = w' := by
  have hs : (FloatKind.f64.format.order a a) = some .eq := Flt.order_self ha
  cases hz : FloatKind.f64.format.order a 0 == some .eq
  · have hz' : (FloatKind.f64.format.order a 0 != some .eq) = true := by unfold bne; rw [hz]; rfl
    go_enter Try.func72, Try.ntmps72
    go_wp2
    go_ret
    exact ⟨rfl, rfl⟩
  · obtain ⟨s, i, he⟩ := Flt.eq_zero rd0 (eq_of_beq hz)
    obtain ⟨r, hr⟩ := Flt.div_zero rd1 (by decide) he
    have hrn : (Ieee.double.read r).isNaN = false := by
      unfold Ieee.Format.div at hr
      rw [rd1, he] at hr
      simp only [Ieee.Datum.quotient, if_true, show (4503599627370496 : Nat) ≠ 0 by decide, if_false, Option.map_some, Option.some.injEq] at hr
      rw [← hr]
      cases s <;> decide +kernel
    have hrs : (FloatKind.f64.format.order r r) = some .eq := Flt.order_self hrn
    have hz' : (FloatKind.f64.format.order a 0 != some .eq) = false := by unfold bne; rw [hz]; rfl
    have hd := fun wx => run_float_arith (P := Try.prog) wx .quo 95 .f64 _ _ r (show floatBits .quo .f64 _ _ = _ from hr)
    clear he hr hrn
    go_enter Try.func72, Try.ntmps72
    go_wp2
    go_ret
    exact ⟨by simp, rfl⟩
theorem same32_self (x : Nat) (w : World) (hx : Flt.fin x = true) :
    Calls Try.prog 29 #[.float .f32 x, .float .f32 x] w fun e w' => e = .returned (.bool true) ∧ w = w' := by
  obtain ⟨r, hr, hn⟩ := Flt.conv_fin hx
  have HS := fun W => Lib.hid (same64_self r W hn)
  have hc := fun W => run_convert_float_float (P := Try.prog) W 26 95 .f32 .f64 x r (by kernel_rfl) Try.underlying95 hr
  clear hr hn hx
  go_enter Try.func29, Try.ntmps29
  go_wp2_with fail
  refine (HS _).out.mono ?_
  rintro e w1 ⟨rfl, rfl⟩
  go_wp2
  go_ret
  exact ⟨rfl, rfl⟩
theorem sameColour_self (u v : Nat) (w : World) (hu : Flt.fin u = true) (hv : Flt.fin v = true) :
    Calls Try.prog 71 #[.complex .f32 u v, .complex .f32 u v] w fun e w' => e = .returned (.bool true) ∧ w = w' := by
  have HU := fun W => Lib.hid (same32_self u W hu)
  have HV := fun W => Lib.hid (same32_self v W hv)
  go_enter Try.func71, Try.ntmps71
  go_wp2_with fail
  refine (HU _).out.mono ?_
  rintro e w1 ⟨rfl, rfl⟩
  go_wp2_with fail
  refine (HV _).out.mono ?_
  rintro e w1 ⟨rfl, rfl⟩
  go_wp2
  go_ret
  exact ⟨rfl, rfl⟩

set_option maxHeartbeats 2000000 in
theorem sameRow_self (v v' : Value) (cs : List C3) (w : World) (h : RowV w v cs) (h' : RowV w v' cs) (hl : cs.length ≤ 1000000) (hf : (cs.all fun c => okc c.1 c.2.1 c.2.2) = true) :
    Calls Try.prog 28 #[v, v'] w fun e w' => e = .returned (.bool true) ∧ Below w.heap.size w w' := by
  by_cases h0 : cs = []
  · subst h0
    rcases h with ⟨rfl, _⟩ | ⟨g, o, cap, rfl, hcap, hcell⟩ <;> rcases h' with ⟨rfl, _⟩ | ⟨g', o', cap', rfl, hcap', hcell'⟩
    all_goals
      clear hl hf
      go_enter Try.func28, Try.ntmps28
      go_wp2
      go_loop [5] (fun i => i = .int .i64 0) (fun _ => 0)
      case atStart => exact rfl
      case round =>
        obtain rfl := hrel
        go_wp2
        go_ret
        exact ⟨rfl, Below.refl _ _⟩
  · rcases h with ⟨_, h1⟩ | ⟨g, o, cap, rfl, hcap, hcell⟩
    · exact absurd h1 h0
    · rcases h' with ⟨_, h1⟩ | ⟨g', o', cap', rfl, hcap', hcell'⟩
      · exact absurd h1 h0
      · have HC := Lib.hid hcell
        have HC' := Lib.hid hcell'
        have HF := Lib.hid (fun k (hk : k < cs.length) => List.all_eq_true.1 hf cs[k] (List.getElem_mem hk))
        clear hcell hcell' hf h0
        go_enter Try.func28, Try.ntmps28
        go_wp2
        go_loopw [5] (fun i wr => ∃ k q : Nat, k ≤ cs.length ∧ i = .int .i64 (k : Int) ∧ wr = w.drewN q) (fun i _ => cs.length - (intOf i).toNat)
        case atStart => exact ⟨0, 0, Nat.zero_le _, rfl, rfl⟩
        case round =>
          obtain ⟨k, q, hk, rfl, rfl⟩ := hrel
          by_cases hlt : k < cs.length
          · obtain ⟨hc0, hc1⟩ := HC.out k hlt
            obtain ⟨hc0', hc1'⟩ := HC'.out k hlt
            have hpk := HF.out k hlt
            generalize cs[k] = c at *
            obtain ⟨y, u, v⟩ := c
            unfold okc at hpk
            simp only [Bool.and_eq_true] at hpk
            have HY := fun W => Lib.hid (same32_self y W hpk.1)
            have HV := fun W => Lib.hid (sameColour_self u v W hpk.2.1 hpk.2.2)
            clear hpk
            go_wp2
            go_quiet (first | (go_at_call 29; exact qt_add (HY _).out) | (go_at_call 71; exact qt_add (HV _).out))
            go_wp2
            go_roundw
            case rel => exact ⟨k + 1, _, by omega, by go_num, rfl⟩
            case measure => simp [intOf]; omega
          · go_wp2
            go_ret
            exact ⟨rfl, belowDN (Below.refl _ _) _⟩
end Go.Proofs.Ytgecclccmmcdoaa

/-
  What is proved: what an operation on single floats may answer, NaN among them; that answers of equal operands are the same for the laws' comparing of floats.
  Conditions: those that each fact names.
-/
namespace Go.Proofs.Ytgecclccmmcdoaa
set_option linter.unusedVariables false
open Go.RowKit
attribute [local go_sem] run_store_float run_store_complex unary_negf neg256

def isN (x : Nat) : Bool := (Ieee.single.read x).isNaN
/-- The same number, or both NaN. -/
def Sm (x y : Nat) : Prop := x = y ∨ (isN x = true ∧ isN y = true)
theorem Sm.refl (x : Nat) : Sm x x := .inl rfl
theorem Sm.symm {x y : Nat} (h : Sm x y) : Sm y x := h.elim (fun e => .inl e.symm) fun h => .inr ⟨h.2, h.1⟩
/-- What an operation may answer. -/
def Res (op : BinOp) (x y r : Nat) : Prop := floatBits op .f32 x y = some r ∨ (floatBits op .f32 x y = none ∧ isN r = true)
theorem rung_lt (x : Nat) : x % Ieee.single.signWeight < 2 ^ 31 := Nat.mod_lt _ (by decide)
theorem nan_read {x : Nat} (h : Ieee.single.infRung < x % Ieee.single.signWeight) : isN x = true := by
  have hb : Ieee.single.binade ≤ Ieee.single.infRung := by decide +kernel
  unfold isN Ieee.Format.read
  simp only
  rw [if_neg (by omega), if_neg (by omega), if_neg (by omega)]
  rfl
theorem nan_cut (x y t : Nat) : isN ((Question.nanBits .f32 x y).cut t) = true ∧ (Question.nanBits .f32 x y).cut t < 2 ^ 32 := by
  have h1 : Ieee.single.infRung = 2139095040 := by decide +kernel
  have h2 : Ieee.single.signWeight = 2147483648 := rfl
  constructor
  · refine nan_read ?_
    rw [h1, h2]
    simp only [Question.cut]
    have ha : t % 2 = 0 ∨ t % 2 = 1 := by omega
    have hb : t / 2 % (2 ^ 23 - 1) < 2 ^ 23 - 1 := Nat.mod_lt _ (by decide)
    generalize t / 2 % (2 ^ 23 - 1) = b at *
    rcases ha with h | h <;> rw [h] <;> omega
  · simp only [Question.cut]
    omega
def arith (op : BinOp) : Prop := op = .add ∨ op = .sub ∨ op = .mul ∨ op = .quo
theorem run_res (op : BinOp) (ho : arith op) (x y : Nat) (W : World) :
    ∃ r n, (binOp op 26 (.float .f32 x) (.float .f32 y)).run Try.prog W = .ok (.float .f32 r) (W.drewN n) ∧ Res op x y r ∧ r < 2 ^ 32 := by
  cases h : floatBits op .f32 x y with
  | some r => exact ⟨r, 0, run_float_arith (P := Try.prog) W op 26 .f32 x y r h, .inl h, by simpa [Lit.wf] using floatBits_wf h⟩
  | none =>
    have key : ∀ r : Option Nat, r = none → floatBits op .f32 x y = r → ∃ r' n, (binOp op 26 (.float .f32 x) (.float .f32 y)).run Try.prog W = .ok (.float .f32 r') (W.drewN n) ∧ (isN r' = true ∧ r' < 2 ^ 32) := by
      rintro _ rfl h
      rcases ho with rfl | rfl | rfl | rfl
      all_goals
        unfold floatBits at h
        simp only at h
        exact ⟨_, 1, by simp [binOp, Op.floatArith, h, Question.forced, World.drewN]; rfl, nan_cut x y _⟩
    obtain ⟨r, n, h1, h2, h3⟩ := key _ rfl h
    exact ⟨r, n, h1, .inr ⟨h, h2⟩, h3⟩
theorem res_any (op : BinOp) (ho : arith op) (x y : Nat) :
    (∃ r, Res op x y r ∧ ∀ W, (binOp op 26 (.float .f32 x) (.float .f32 y)).run Try.prog W = .ok (.float .f32 r) W) ∨
    (∀ W, ∃ r, Res op x y r ∧ (binOp op 26 (.float .f32 x) (.float .f32 y)).run Try.prog W = .ok (.float .f32 r) W.drew) := by
  cases h : floatBits op .f32 x y with
  | some r => exact .inl ⟨r, .inl h, fun W => run_float_arith (P := Try.prog) W op 26 .f32 x y r h⟩
  | none =>
    refine .inr fun W => ?_
    have key : ∀ r : Option Nat, r = none → floatBits op .f32 x y = r → ∃ r', (binOp op 26 (.float .f32 x) (.float .f32 y)).run Try.prog W = .ok (.float .f32 r') (W.drewN 1) ∧ isN r' = true := by
      rintro _ rfl h
      rcases ho with rfl | rfl | rfl | rfl
      all_goals
        unfold floatBits at h
        simp only at h
        exact ⟨_, by simp [binOp, Op.floatArith, h, Question.forced, World.drewN]; rfl, (nan_cut x y _).1⟩
    obtain ⟨r, h1, h2⟩ := key _ rfl h
    exact ⟨r, .inr ⟨h, h2⟩, h1⟩
theorem op_nan {op : BinOp} {x y : Nat} (h : isN x = true ∨ isN y = true) : floatBits op .f32 x y = none := by
  have hx : ∀ x, isN x = true → ∃ s p, Ieee.single.read x = .nan s p := by
    intro x h
    unfold isN at h
    cases hr : Ieee.single.read x <;> rw [hr] at h <;> simp [Ieee.Datum.isNaN] at h
    exact ⟨_, _, rfl⟩
  unfold floatBits
  rcases h with h | h
  · obtain ⟨s, p, e⟩ := hx _ h
    split <;> first | rfl | skip
    all_goals simp only [show FloatKind.f32.format = Ieee.single from rfl, Ieee.Format.add, Ieee.Format.sub, Ieee.Format.mul, Ieee.Format.div, e]
    all_goals cases Ieee.single.read y <;> simp [Ieee.Datum.sum, Ieee.Datum.product, Ieee.Datum.quotient, Ieee.Datum.opposite]
  · obtain ⟨s, p, e⟩ := hx _ h
    split <;> first | rfl | skip
    all_goals simp only [show FloatKind.f32.format = Ieee.single from rfl, Ieee.Format.add, Ieee.Format.sub, Ieee.Format.mul, Ieee.Format.div, e]
    all_goals cases Ieee.single.read x <;> simp [Ieee.Datum.sum, Ieee.Datum.product, Ieee.Datum.quotient, Ieee.Datum.opposite]
theorem Res.same {op : BinOp} {x x' y y' r r' : Nat} (hx : Sm x x') (hy : Sm y y') (h : Res op x y r) (h' : Res op x' y' r') : Sm r r' := by
  by_cases hn : isN x = true ∨ isN y = true
  · have hn' : isN x' = true ∨ isN y' = true := by
      rcases hn with h1 | h1
      · rcases hx with rfl | ⟨_, h2⟩
        · exact .inl h1
        · exact .inl h2
      · rcases hy with rfl | ⟨_, h2⟩
        · exact .inr h1
        · exact .inr h2
    have e := op_nan (op := op) hn
    have e' := op_nan (op := op) hn'
    rcases h with h | ⟨_, h⟩
    · rw [e] at h; cases h
    · rcases h' with h' | ⟨_, h'⟩
      · rw [e'] at h'; cases h'
      · exact .inr ⟨h, h'⟩
  · have ex : x = x' := hx.elim id fun h => absurd (.inl h.1) hn
    have ey : y = y' := hy.elim id fun h => absurd (.inr h.1) hn
    subst ex ey
    rcases h with h | ⟨h, h1⟩
    · rcases h' with h' | ⟨h', _⟩
      · rw [h] at h'; cases h'; exact .inl rfl
      · rw [h] at h'; cases h'
    · rcases h' with h' | ⟨_, h'⟩
      · rw [h] at h'; cases h'
      · exact .inr ⟨h1, h'⟩

theorem exp_le {x : Nat} {s : Bool} {m : Nat} {i : Int} (h : Ieee.single.read x = .number s m i) : i ≤ 104 := by
  have h1 : Ieee.single.infRung = 2139095040 := by decide +kernel
  have h2 : Ieee.single.binade = 8388608 := rfl
  have h3 : Ieee.single.leastPlace = -149 := Flt.place32
  unfold Ieee.Format.read at h
  simp only at h
  split at h
  · cases h; rw [h3]; decide
  · split at h
    · rename_i _ hr
      cases h
      rw [h3]
      rw [h1] at hr
      rw [h2]
      generalize x % Ieee.single.signWeight = r at *
      omega
    · split at h <;> cases h
theorem conv_num {x : Nat} (hx : isN x = false) : ∃ r, floatToFloatBits .f32 x .f64 = some r ∧ (Ieee.double.read r).isNaN = false := by
  unfold isN at hx
  cases hr : Ieee.single.read x with
  | nan s p => rw [hr] at hx; cases hx
  | infinity s =>
    have hdec : FloatKind.f32.decode x = .infinity s := hr
    refine ⟨FloatKind.f64.encode (.infinity s), ?_, by cases s <;> decide +kernel⟩
    unfold floatToFloatBits
    rw [if_neg (by decide)]
    simp only [hdec]
  | number s m i =>
    have hm := Flt.read_bound hr
    rw [Flt.frac32] at hm
    have hi := exp_le hr
    have h2 : -149 ≤ i := by obtain ⟨m', e', h, hle, _⟩ := Flt.read_num hr; rw [hr] at h; cases h; rw [Flt.place32] at hle; exact hle
    have hn : Flt.Num Ieee.double (Ieee.double.nearest s m i) s (m * 2 ^ (i + 1074).toNat) := by
      refine Flt.num_of Flt.fine64 s m _ i ?_ (Flt.rep_mul (Flt.rep_small (by rw [Flt.frc64]; omega)) _) ?_
      · rw [Flt.plc64, show (-1074 - i).toNat = 0 by omega, Nat.pow_zero, Nat.mul_one]; rfl
      · obtain ⟨C, hC, hC2⟩ : ∃ C, Flt.cap Ieee.double = C ∧ C = 2098 := ⟨_, rfl, Flt.cap64⟩
        rw [hC]
        obtain ⟨j, hj, hj2⟩ : ∃ j, (i + 1074).toNat = j ∧ 24 + j ≤ 2098 := ⟨_, rfl, by omega⟩
        rw [hj]
        have h5 : m * 2 ^ j < 2 ^ 24 * 2 ^ j := Nat.mul_lt_mul_of_pos_right hm (Flt.two_pos j)
        rw [← Nat.pow_add] at h5
        exact Nat.lt_of_lt_of_le h5 (Nat.pow_le_pow_right (by decide) (by omega))
    refine ⟨Ieee.double.nearest s m i, ?_, Flt.num_read hn⟩
    obtain ⟨m', e', hr', _, _⟩ := hn
    unfold floatToFloatBits
    rw [if_neg (by decide)]
    have hdec : FloatKind.f32.decode x = .number s m i := hr
    have henc : FloatKind.f64.encode (.number s m i) = Ieee.double.nearest s m i := rfl
    have hdec2 : FloatKind.f64.decode (Ieee.double.nearest s m i) = .number s m' e' := hr'
    simp only [hdec, henc, hdec2, Ieee.Datum.isInfinity]
    rfl
theorem nan64_cut (x t : Nat) : (Ieee.double.read ((Question.nanConv .f64 x).cut t)).isNaN = true := by
  have h1 : Ieee.double.infRung = 9218868437227405312 := by decide +kernel
  have h2 : Ieee.double.signWeight = 9223372036854775808 := rfl
  have hb : Ieee.double.binade ≤ Ieee.double.infRung := by decide +kernel
  have hlt : Ieee.double.infRung < (Question.nanConv .f64 x).cut t % Ieee.double.signWeight := by
    rw [h1, h2]
    simp only [Question.cut]
    have ha : t % 2 = 0 ∨ t % 2 = 1 := by omega
    have hb : t / 2 % (2 ^ 52 - 1) < 2 ^ 52 - 1 := Nat.mod_lt _ (by decide)
    generalize t / 2 % (2 ^ 52 - 1) = b at *
    rcases ha with h | h <;> rw [h] <;> omega
  unfold Ieee.Format.read
  simp only
  rw [if_neg (by omega), if_neg (by omega), if_neg (by omega)]
  rfl
/-- float64(x). -/
theorem conv_any (x : Nat) : (∃ r, (Ieee.double.read r).isNaN = false ∧ isN x = false ∧ ∀ W, (convert 26 95 (.float .f32 x)).run Try.prog W = .ok (.float .f64 r) (W.drewN 0)) ∨
    (isN x = true ∧ ∀ W, ∃ r, (Ieee.double.read r).isNaN = true ∧ (convert 26 95 (.float .f32 x)).run Try.prog W = .ok (.float .f64 r) (W.drewN 1)) := by
  cases h : isN x with
  | false =>
    obtain ⟨r, hr, hn⟩ := conv_num h
    exact .inl ⟨r, hn, rfl, fun W => run_convert_float_float (P := Try.prog) W 26 95 .f32 .f64 x r (by kernel_rfl) Try.underlying95 hr⟩
  | true =>
    refine .inr ⟨rfl, fun W => ?_⟩
    have hs := Try.underlying26
    have hd := Try.underlying95
    unfold isN at h
    cases hr : Ieee.single.read x with
    | number s m i => rw [hr] at h; cases h
    | infinity s => rw [hr] at h; cases h
    | nan s p =>
      have he : FloatKind.f32.decode x = .nan s p := hr
      exact ⟨_, nan64_cut x _, by simp [convert, run_underlying hs, run_underlying hd, Conv.floatToFloat, he, Question.forced, World.drewN]; rfl⟩
end Go.Proofs.Ytgecclccmmcdoaa

/-
  What is proved: sums, differences, products of single floats that are not too large are finite, and so are their quotients by 4 and by -32.
  Conditions: those that each fact names.
-/
namespace Go.Proofs.Ytgecclccmmcdoaa.Flt
set_option linter.unusedVariables false
open Ieee

/-- A number of an amount of less than 2 to the k, counted in units of the least place. -/
def Mag (k : Nat) (x : Nat) : Prop := ∃ s m e, single.read x = .number s m e ∧ (m = 0 ∨ e + m.log2 + 150 ≤ (k : Int))
theorem Mag.mono {k l x : Nat} (h : Mag k x) (hkl : k ≤ l) : Mag l x := by
  obtain ⟨s, m, e, h1, h2⟩ := h
  exact ⟨s, m, e, h1, h2.imp id (fun h => by omega)⟩
theorem Mag.ok {k x : Nat} (h : Mag k x) : (single.read x).isNaN = false := by
  obtain ⟨s, m, e, h1, _⟩ := h
  rw [h1]; rfl
theorem scaled_lt {m a b : Nat} (h : m = 0 ∨ m.log2 + 1 + a ≤ b) : m * 2 ^ a < 2 ^ b := by
  rcases h with rfl | h
  · rw [Nat.zero_mul]; exact two_pos _
  · have h1 : m * 2 ^ a < 2 ^ (m.log2 + 1) * 2 ^ a := Nat.mul_lt_mul_of_pos_right (lt_log m) (two_pos a)
    rw [← Nat.pow_add] at h1
    exact Nat.lt_of_lt_of_le h1 (Nat.pow_le_pow_right (by decide) h)
theorem log_lt {m b : Nat} (h : m < 2 ^ b) (h0 : m ≠ 0) : m.log2 < b := (Nat.log2_lt h0).2 h
theorem mag_num {x u k : Nat} {s : Bool} (h : Num single x s u) (hu : u ≤ 2 ^ k) : Mag (k + 1) x := by
  obtain ⟨m, e, h1, h2, h3⟩ := h
  refine ⟨s, m, e, h1, ?_⟩
  by_cases h0 : m = 0
  · exact .inl h0
  · right
    rw [place32] at h2 h3
    have h4 : 2 ^ m.log2 ≤ m := Nat.log2_self_le h0
    have h5 : 2 ^ m.log2 * 2 ^ (e - -149).toNat ≤ 2 ^ k := Nat.le_trans (Nat.mul_le_mul_right _ h4) (by rw [← h3]; exact hu)
    rw [← Nat.pow_add] at h5
    have h6 := (Nat.pow_le_pow_iff_right (by decide : 1 < 2)).1 h5
    omega
theorem nearest_mag (s : Bool) (mag : Nat) (place : Int) (K : Nat) (hK : K ≤ 275) (h : mag = 0 ∨ place + mag.log2 + 150 ≤ (K : Int)) : Mag (K + 1) (single.nearest s mag place) := by
  by_cases hm : mag = 0
  · refine mag_num (s := s) (u := 0) ?_ (Nat.zero_le _)
    have e : single.nearest s mag place = single.word s 0 := by unfold Format.nearest; rw [if_pos hm]
    rw [e]
    exact num_zero single s (by rw [inf32]; decide)
  · have h := h.resolve_left hm
    obtain ⟨last, hl⟩ : ∃ last : Int, last = max (place + mag.log2 - 23) (-149) := ⟨_, rfl⟩
    obtain ⟨c, hc⟩ : ∃ c, c = (place - last).toNat := ⟨_, rfl⟩
    obtain ⟨d, hd⟩ : ∃ d, d = (last - place).toNat := ⟨_, rfl⟩
    have h1 : Toward.even.cut s (mag * 2 ^ c) d ≤ 2 ^ 24 := by
      apply cut_le
      rw [← Nat.pow_add]
      exact Nat.le_of_lt (scaled_lt (.inr (by omega)))
    have h2 : Toward.even.cut s (mag * 2 ^ c) d ≤ 2 ^ (K - (last + 149).toNat) := by
      apply cut_le
      rw [← Nat.pow_add]
      exact Nat.le_of_lt (scaled_lt (.inr (by omega)))
    have h3 := num_nearest single s mag place hm last (by rw [hl, frac32, place32]; rfl) c d hc hd (by
      rw [place32, inf32, bin32]
      have h4 : (last - -149).toNat ≤ 251 := by omega
      have h5 : (last - -149).toNat * 2 ^ 23 ≤ 251 * 2 ^ 23 := Nat.mul_le_mul_right _ h4
      omega)
    refine mag_num h3 ?_
    rw [place32]
    have h6 : Toward.even.cut s (mag * 2 ^ c) d * 2 ^ (last - -149).toNat ≤ 2 ^ (K - (last + 149).toNat) * 2 ^ (last - -149).toNat := Nat.mul_le_mul_right _ h2
    rw [← Nat.pow_add, show K - (last + 149).toNat + (last - -149).toNat = K by omega] at h6
    exact h6
theorem fin_mag {x : Nat} (h : fin x = true) : Mag 158 x := by
  obtain ⟨s, u, h1, h2⟩ := fin_of h
  exact mag_num h1 (by unfold LIM at h2; exact Nat.le_trans h2 (by decide))
theorem sum_mag {k : Nat} (hk : k ≤ 270) {s t : Bool} {m n : Nat} {i j : Int} (h1 : m = 0 ∨ i + m.log2 + 150 ≤ (k : Int)) (h2 : n = 0 ∨ j + n.log2 + 150 ≤ (k : Int)) :
    ∃ d, (Datum.number s m i).sum (.number t n j) = some d ∧ Mag (k + 2) (single.write d) := by
  refine ⟨_, rfl, ?_⟩
  show Mag (k + 2) (single.nearest _ _ _)
  refine nearest_mag _ _ _ (k + 1) (by omega) ?_
  rw [signed_sg, signed_sg]
  generalize hb : min i j = base
  by_cases h0 : (sg s (m * 2 ^ (i - base).toNat) + sg t (n * 2 ^ (j - base).toNat)).natAbs = 0
  · exact .inl h0
  · right
    have hle : (sg s (m * 2 ^ (i - base).toNat) + sg t (n * 2 ^ (j - base).toNat)).natAbs ≤ m * 2 ^ (i - base).toNat + n * 2 ^ (j - base).toNat := by
      have := Int.natAbs_add_le (sg s (m * 2 ^ (i - base).toNat)) (sg t (n * 2 ^ (j - base).toNat))
      rw [natAbs_sg, natAbs_sg] at this
      exact this
    generalize (sg s (m * 2 ^ (i - base).toNat) + sg t (n * 2 ^ (j - base).toNat)).natAbs = T at *
    have hE : ∃ E : Nat, (E : Int) = k - 149 - base := by
      rcases h1 with rfl | h1
      · rcases h2 with rfl | h2
        · simp at hle; omega
        · exact ⟨((k : Int) - 149 - base).toNat, by omega⟩
      · exact ⟨((k : Int) - 149 - base).toNat, by omega⟩
    obtain ⟨E, hE⟩ := hE
    have l1 : m * 2 ^ (i - base).toNat < 2 ^ E := scaled_lt (h1.imp id (fun h => by omega))
    have l2 : n * 2 ^ (j - base).toNat < 2 ^ E := scaled_lt (h2.imp id (fun h => by omega))
    have l3 : T < 2 ^ (E + 1) := by rw [Nat.pow_succ]; omega
    have l4 := log_lt l3 h0
    omega
def subv (x y : Nat) : Nat := (floatBits .sub .f32 x y).getD 0
def sumv (x y : Nat) : Nat := (floatBits .add .f32 x y).getD 0
def mulv (x y : Nat) : Nat := (floatBits .mul .f32 x y).getD 0
def quov (x y : Nat) : Nat := (floatBits .quo .f32 x y).getD 0
theorem Mag.add {k x y : Nat} (hx : Mag k x) (hy : Mag k y) (hk : k ≤ 270) : floatBits .add .f32 x y = some (sumv x y) ∧ Mag (k + 2) (sumv x y) := by
  obtain ⟨s, m, i, a1, a2⟩ := hx
  obtain ⟨t, n, j, b1, b2⟩ := hy
  obtain ⟨d, hd, hm⟩ := sum_mag hk (s := s) (t := t) a2 b2
  have e : floatBits .add .f32 x y = some (single.write d) := by
    show single.add x y = _
    unfold Format.add
    rw [a1, b1, hd]; rfl
  unfold sumv
  rw [e]
  exact ⟨rfl, hm⟩
theorem Mag.sub {k x y : Nat} (hx : Mag k x) (hy : Mag k y) (hk : k ≤ 270) : floatBits .sub .f32 x y = some (subv x y) ∧ Mag (k + 2) (subv x y) := by
  obtain ⟨s, m, i, a1, a2⟩ := hx
  obtain ⟨t, n, j, b1, b2⟩ := hy
  obtain ⟨d, hd, hm⟩ := sum_mag hk (s := s) (t := !t) a2 b2
  have e : floatBits .sub .f32 x y = some (single.write d) := by
    show single.sub x y = _
    unfold Format.sub
    rw [a1, b1]
    show ((Datum.number s m i).sum (.number (!t) n j)).map single.write = _
    rw [hd]; rfl
  unfold subv
  rw [e]
  exact ⟨rfl, hm⟩
theorem Mag.mul {k l x y : Nat} (hx : Mag k x) (hy : Mag l y) (hk : k + l ≤ 420) (hl : 149 ≤ k + l) : floatBits .mul .f32 x y = some (mulv x y) ∧ Mag (k + l - 148) (mulv x y) := by
  obtain ⟨s, m, i, a1, a2⟩ := hx
  obtain ⟨t, n, j, b1, b2⟩ := hy
  have e : floatBits .mul .f32 x y = some (single.nearest (s ^^ t) (m * n) (i + j)) := by
    show single.mul x y = _
    unfold Format.mul
    rw [a1, b1]; rfl
  unfold mulv
  rw [e]
  refine ⟨rfl, ?_⟩
  have := nearest_mag (s ^^ t) (m * n) (i + j) (k + l - 149) (by omega) (by
    by_cases h0 : m * n = 0
    · exact .inl h0
    · right
      have hm : m ≠ 0 := fun e => h0 (by rw [e, Nat.zero_mul])
      have hn : n ≠ 0 := fun e => h0 (by rw [e, Nat.mul_zero])
      have h1 := a2.resolve_left hm
      have h2 := b2.resolve_left hn
      have h3 : m * n < 2 ^ (m.log2 + 1 + (n.log2 + 1)) := by
        rw [Nat.pow_add]
        exact Nat.mul_lt_mul'' (lt_log m) (lt_log n)
      have h4 := log_lt h3 h0
      omega)
  exact this.mono (by omega)
theorem Mag.quo {k x c : Nat} {t : Bool} {j : Int} (hc : single.read c = .number t 8388608 j) (hj : -23 ≤ j) (hx : Mag k x) (hk : k ≤ 270) : floatBits .quo .f32 x c = some (quov x c) ∧ Mag (k + 1) (quov x c) := by
  obtain ⟨s, m, i, a1, a2⟩ := hx
  have hb := read_bound a1
  rw [frac32] at hb
  have e : floatBits .quo .f32 x c = some (single.nearest (s ^^ t) (2 * ((m <<< (25 + 23 - m.log2)) / 8388608) + ((m <<< (25 + 23 - m.log2)) % 8388608 != 0).toNat) (i - j - ((25 + 23 - m.log2 : Nat) : Int) - 1)) := by
    show single.div x c = _
    unfold Format.div
    rw [a1, hc]
    simp only [Datum.quotient, frac32, Option.map_some]
    rw [if_neg (by decide)]
    rfl
  unfold quov
  rw [e]
  refine ⟨rfl, nearest_mag _ _ _ k (by omega) ?_⟩
  rw [shl]
  by_cases h0 : m = 0
  · left; subst h0; simp
  · right
    have h1 := a2.resolve_left h0
    have h2 : m.log2 < 24 := log_lt hb h0
    have h3 : m * 2 ^ (25 + 23 - m.log2) < 2 ^ 49 := scaled_lt (.inr (by omega))
    generalize m * 2 ^ (25 + 23 - m.log2) = D at *
    have h4 : 2 * (D / 8388608) + (D % 8388608 != 0).toNat < 2 ^ 27 := by
      have : (D % 8388608 != 0).toNat ≤ 1 := by cases (D % 8388608 != 0) <;> decide
      omega
    generalize 2 * (D / 8388608) + (D % 8388608 != 0).toNat = q at *
    by_cases hq : q = 0
    · subst hq
      have : (0 : Nat).log2 = 0 := by decide
      rw [this]; omega
    · have h5 := log_lt h4 hq
      omega
theorem read_four' : single.read 1082130432 = .number false 8388608 (-21) := by decide +kernel
theorem read_n32 : single.read 3254779904 = .number true 8388608 (-18) := by decide +kernel
theorem Mag.quarter {k x : Nat} (hx : Mag k x) (hk : k ≤ 270) : floatBits .quo .f32 x 1082130432 = some (quov x 1082130432) ∧ Mag (k + 1) (quov x 1082130432) := Mag.quo read_four' (by decide) hx hk
theorem Mag.gain {k x : Nat} (hx : Mag k x) (hk : k ≤ 270) : floatBits .quo .f32 x 3254779904 = some (quov x 3254779904) ∧ Mag (k + 1) (quov x 3254779904) := Mag.quo read_n32 (by decide) hx hk
end Go.Proofs.Ytgecclccmmcdoaa.Flt

/-
  What is proved: sums, differences and products of numbers of opposite signs have opposite signs.
  Conditions: none (two NaNs count as opposite, and so do two zeros).
-/
namespace Go.Proofs.Ytgecclccmmcdoaa
set_option linter.unusedVariables false
open Ieee

/-- Two data that are each other's negatives; of zeros the signs may be any. -/
def OppD : Datum → Datum → Prop
  | .nan .., .nan .. => True
  | .infinity s, .infinity t => t = !s
  | .number s m e, .number t n e' => e = e' ∧ m = n ∧ (m = 0 ∨ t = !s)
  | _, _ => False
def Opp (x y : Nat) : Prop := OppD (single.read x) (single.read y)
theorem cut_sign (s t : Bool) (n d : Nat) : Toward.even.cut s n d = Toward.even.cut t n d := rfl
theorem opp_word (s t : Bool) (r : Nat) (h : r < 2 ^ 31) (hs : r = 0 ∨ t = !s) : OppD (single.read (single.word s r)) (single.read (single.word t r)) := by
  rw [Flt.read_word single s r h, Flt.read_word single t r h]
  by_cases h1 : r < single.binade
  · rw [if_pos h1, if_pos h1]; exact ⟨rfl, rfl, hs⟩
  · rw [if_neg h1, if_neg h1]
    have h0 : t = !s := hs.elim (fun e => by subst e; exact absurd (show 0 < single.binade by decide) h1) id
    by_cases h2 : r < single.infRung
    · rw [if_pos h2, if_pos h2]; exact ⟨rfl, rfl, .inr h0⟩
    · rw [if_neg h2, if_neg h2]
      by_cases h3 : r = single.infRung
      · rw [if_pos h3, if_pos h3]; exact h0
      · rw [if_neg h3, if_neg h3]; trivial
theorem opp_nearest (s t : Bool) (mag : Nat) (place : Int) (hs : mag = 0 ∨ t = !s) : OppD (single.read (single.nearest s mag place)) (single.read (single.nearest t mag place)) := by
  unfold Format.nearest
  by_cases h : mag = 0
  · rw [if_pos h, if_pos h]; exact opp_word s t 0 (by decide) (.inl rfl)
  · rw [if_neg h, if_neg h]
    have h0 : t = !s := hs.elim (fun e => absurd e h) id
    simp only [cut_sign t s]
    refine opp_word s t _ (Nat.lt_of_le_of_lt (Nat.min_le_right _ _) single.infRung_lt) (.inr h0)
/-- Both fail, or both answer opposite data. -/
def OppO : Option Datum → Option Datum → Prop
  | none, none => True
  | some a, some b => OppD a b ∧ a.isNaN = false
  | _, _ => False
theorem opp_write {a b : Option Datum} (h : OppO a b) : (a.map single.write = none ∧ b.map single.write = none) ∨ ∃ x y, a.map single.write = some x ∧ b.map single.write = some y ∧ Opp x y := by
  cases a with
  | none => cases b with
    | none => exact .inl ⟨rfl, rfl⟩
    | some d => exact h.elim
  | some c => cases b with
    | none => exact h.elim
    | some d =>
      refine .inr ⟨_, _, rfl, rfl, ?_⟩
      obtain ⟨h', hn⟩ : OppD c d ∧ c.isNaN = false := h
      cases c <;> cases d <;> try exact h'.elim
      · obtain ⟨rfl, rfl, h3⟩ := h'
        exact opp_nearest _ _ _ _ h3
      · rename_i s t
        have e : t = !s := h'
        subst e
        exact opp_word _ _ _ (by decide) (.inr rfl)
      · cases hn
theorem signed_opp {s t : Bool} {m : Nat} (k : Nat) (h : m = 0 ∨ t = !s) : signed t m k = - signed s m k := by
  unfold signed
  rcases h with rfl | rfl
  · cases s <;> cases t <;> simp
  · cases s <;> simp
theorem opp_total {s t u v : Bool} {a b : Int} (e : b = -a) (base : Int) : OppD (.number (if a = 0 then s && t else decide (a < 0)) a.natAbs base) (.number (if b = 0 then u && v else decide (b < 0)) b.natAbs base) := by
  subst e
  refine ⟨rfl, by simp, ?_⟩
  by_cases h : a = 0
  · left; rw [h]; rfl
  · right
    rw [if_neg h, if_neg (by omega)]
    by_cases h1 : a < 0
    · rw [decide_eq_true h1, decide_eq_false (by omega)]; rfl
    · rw [decide_eq_false h1, decide_eq_true (by omega)]; rfl
theorem opp_sum {a a' b b' : Datum} (h : OppD a a') (h' : OppD b b') : OppO (a.sum b) (a'.sum b') := by
  cases a <;> cases a' <;> (try exact h.elim) <;> cases b <;> cases b' <;> (try exact h'.elim)
  · rename_i s m i s' m' i' t n j t' n' j'
    obtain ⟨rfl, rfl, h3⟩ := h
    obtain ⟨rfl, rfl, h4⟩ := h'
    refine ⟨opp_total (a := signed s m (i - min i j).toNat + signed t n (j - min i j).toNat) ?_ _, rfl⟩
    rw [signed_opp _ h3, signed_opp _ h4]; omega
  · exact ⟨h', rfl⟩
  · trivial
  · exact ⟨h, rfl⟩
  · rename_i s s' t t'
    have e : s' = !s := h
    have e' : t' = !t := h'
    subst e e'
    by_cases hst : s = t
    · subst hst
      show OppO (if s = s then _ else _) (if (!s) = (!s) then _ else _)
      rw [if_pos rfl, if_pos rfl]
      exact ⟨rfl, rfl⟩
    · show OppO (if s = t then _ else _) (if (!s) = (!t) then _ else _)
      rw [if_neg hst, if_neg (by cases s <;> cases t <;> simp_all)]
      trivial
  · trivial
  · trivial
  · trivial
  · trivial
theorem opp_opp {a a' : Datum} (h : OppD a a') : OppD a.opposite a'.opposite := by
  cases a <;> cases a' <;> (try exact h.elim)
  · obtain ⟨rfl, rfl, h3⟩ := h
    exact ⟨rfl, rfl, h3.imp id (fun e => by rw [e])⟩
  · have e := h
    show _ = _
    rw [show _ = _ from e]
  · trivial
theorem opp_self (a : Datum) : OppD a a.opposite := by
  cases a
  · exact ⟨rfl, rfl, .inr rfl⟩
  · exact rfl
  · trivial
theorem OppD.symm {a b : Datum} (h : OppD a b) : OppD b a := by
  cases a <;> cases b <;> (try exact h.elim)
  · obtain ⟨rfl, rfl, h3⟩ := h
    exact ⟨rfl, rfl, h3.imp id (fun e => by rw [e]; simp)⟩
  · have e : _ = !_ := h
    show _ = !_
    rw [e]; simp
  · trivial
theorem opp_product {a a' c : Datum} (h : OppD a a') : OppO (a.product c) (a'.product c) := by
  cases a <;> cases a' <;> (try exact h.elim) <;> cases c
  · rename_i s m i s' m' i' t n j
    obtain ⟨rfl, rfl, h3⟩ := h
    refine ⟨⟨rfl, rfl, ?_⟩, rfl⟩
    rcases h3 with rfl | rfl
    · left; simp
    · right; cases s <;> cases t <;> rfl
  · rename_i s m i s' m' i' t
    obtain ⟨rfl, rfl, h3⟩ := h
    by_cases hm : m = 0
    · subst hm; simp [Datum.product]; trivial
    · have e : s' = !s := h3.elim (fun e => absurd e hm) id
      subst e
      simp only [Datum.product, if_neg hm]
      exact ⟨by cases s <;> cases t <;> rfl, rfl⟩
  · trivial
  · rename_i s s' t n j
    have e : s' = !s := h
    subst e
    by_cases hn : n = 0
    · subst hn; simp [Datum.product]; trivial
    · simp only [Datum.product, if_neg hn]
      exact ⟨by cases s <;> cases t <;> rfl, rfl⟩
  · rename_i s s' t
    have e : s' = !s := h
    subst e
    exact ⟨by cases s <;> cases t <;> rfl, rfl⟩
  · trivial
  · trivial
  · trivial
  · trivial
theorem opp_nan {x y : Nat} (hx : isN x = true) (hy : isN y = true) : Opp x y := by
  unfold isN at hx hy
  unfold Opp
  cases h1 : single.read x <;> cases h2 : single.read y <;> rw [h1] at hx <;> rw [h2] at hy <;> simp [Datum.isNaN] at hx hy
  trivial
theorem opp_res {op op' : BinOp} {x y x' y' r r' : Nat} {a b : Option Datum} (h : OppO a b) (ha : floatBits op .f32 x y = a.map single.write) (hb : floatBits op' .f32 x' y' = b.map single.write)
    (hr : Res op x y r) (hr' : Res op' x' y' r') : Opp r r' := by
  rcases opp_write h with ⟨h1, h2⟩ | ⟨p, q, h1, h2, h3⟩
  · rcases hr with hr | ⟨_, hr⟩
    · rw [ha, h1] at hr; cases hr
    · rcases hr' with hr' | ⟨_, hr'⟩
      · rw [hb, h2] at hr'; cases hr'
      · exact opp_nan hr hr'
  · rcases hr with hr | ⟨hr, _⟩
    · rcases hr' with hr' | ⟨hr', _⟩
      · rw [ha, h1] at hr
        rw [hb, h2] at hr'
        cases hr
        cases hr'
        exact h3
      · rw [hb, h2] at hr'; cases hr'
    · rw [ha, h1] at hr; cases hr
theorem Opp.symm {x y : Nat} (h : Opp x y) : Opp y x := OppD.symm h
theorem sum_comm (a b : Datum) : a.sum b = b.sum a := by
  cases a <;> cases b <;> simp only [Datum.sum]
  · rename_i s m i t n j
    rw [Int.min_comm, Int.add_comm, Bool.and_comm]
  · rename_i s t
    by_cases h : s = t
    · subst h; rfl
    · rw [if_neg h, if_neg (fun e => h e.symm)]
theorem product_comm (a b : Datum) : a.product b = b.product a := by
  cases a <;> cases b <;> simp only [Datum.product, Bool.xor_comm, Nat.mul_comm, Int.add_comm]
theorem Res.opp_swap {x y r r' : Nat} (h : Res .sub x y r) (h' : Res .sub y x r') : Opp r r' := by
  refine opp_res (a := (single.read x).sum (single.read y).opposite) (b := (single.read y).sum (single.read x).opposite) ?_ rfl rfl h h'
  rw [sum_comm (single.read y)]
  exact opp_sum (opp_self _) (OppD.symm (opp_self _))
theorem Res.opp_sub {x y x' y' r r' : Nat} (hx : Opp x x') (hy : Opp y y') (h : Res .sub x y r) (h' : Res .sub x' y' r') : Opp r r' :=
  opp_res (a := (single.read x).sum (single.read y).opposite) (b := (single.read x').sum (single.read y').opposite) (opp_sum hx (opp_opp hy)) rfl rfl h h'
theorem Res.opp_mul {x x' y r r' : Nat} (hx : Opp x x') (h : Res .mul x y r) (h' : Res .mul x' y r') : Opp r r' :=
  opp_res (a := (single.read x).product (single.read y)) (b := (single.read x').product (single.read y)) (opp_product hx) rfl rfl h h'
theorem Res.mul_comm {x y r : Nat} (h : Res .mul x y r) : Res .mul y x r := by
  have e : floatBits .mul .f32 x y = floatBits .mul .f32 y x := by
    show single.mul x y = single.mul y x
    unfold Format.mul
    rw [product_comm]
  unfold Res at h ⊢
  rwa [← e]
theorem Res.add_comm {x y r : Nat} (h : Res .add x y r) : Res .add y x r := by
  unfold Res at h ⊢
  rwa [Flt.add_comm32]
/-- x is less than 0 exactly if its opposite is greater. -/
theorem Opp.lt {x y : Nat} (h : Opp x y) : (single.order x 0 == some .lt) = (single.order y 0 == some .gt) := by
  unfold Opp at h
  have h0 := Flt.read_zero
  unfold Format.order
  rw [h0]
  cases hx : single.read x <;> cases hy : single.read y <;> rw [hx, hy] at h <;> (try exact h.elim)
  · rename_i s m e t n e'
    obtain ⟨rfl, rfl, h3⟩ := h
    simp only [Datum.order, Flt.signed_sg]
    have z : Flt.sg false (0 * 2 ^ ((-149 : Int) - min e (-149)).toNat) = 0 := by simp [Flt.sg]
    rw [z]
    have o : Flt.sg t (m * 2 ^ (e - min e (-149)).toNat) = - Flt.sg s (m * 2 ^ (e - min e (-149)).toNat) := by
      rcases h3 with rfl | rfl
      · simp [Flt.sg]
      · exact Flt.sg_not _ _
    rw [o]
    generalize Flt.sg s (m * 2 ^ (e - min e (-149)).toNat) = k
    rcases (by omega : k < 0 ∨ k = 0 ∨ 0 < k) with hk | hk | hk
    · rw [Flt.cmp_lt hk, Flt.cmp_gt (by omega)]; rfl
    · subst hk; rfl
    · rw [Flt.cmp_gt hk, Flt.cmp_lt (by omega)]; rfl
  · rename_i s t
    have e : t = !s := h
    subst e
    cases s <;> rfl
  · rfl
theorem Res.nan {op : BinOp} {x y r : Nat} (h : isN x = true ∨ isN y = true) (hr : Res op x y r) : isN r = true := by
  rcases hr with hr | ⟨_, hr⟩
  · rw [op_nan h] at hr; cases hr
  · exact hr
theorem Res.opp_mul_sm {x x' y y' r r' : Nat} (hx : Opp x x') (hy : Sm y y') (h : Res .mul x y r) (h' : Res .mul x' y' r') : Opp r r' := by
  rcases hy with rfl | ⟨h1, h2⟩
  · exact Res.opp_mul hx h h'
  · exact opp_nan (Res.nan (.inr h1) h) (Res.nan (.inr h2) h')
/-- What is compared with 0 to tell which of two lines is odd: a + bi and c + di are the colours of their bursts. -/
def SwX (a b c d x : Nat) : Prop := ∃ d1 d2 s1 s2 m1 m2, Res .sub a c d1 ∧ Res .sub b d d2 ∧ Res .add a c s1 ∧ Res .add b d s2 ∧ Res .mul d2 s1 m1 ∧ Res .mul d1 s2 m2 ∧ Res .sub m1 m2 x
theorem SwX.same {a b c d x x' : Nat} (h : SwX a b c d x) (h' : SwX a b c d x') : Sm x x' := by
  obtain ⟨d1, d2, s1, s2, m1, m2, h1, h2, h3, h4, h5, h6, h7⟩ := h
  obtain ⟨e1, e2, t1, t2, n1, n2, g1, g2, g3, g4, g5, g6, g7⟩ := h'
  have k1 := Res.same (Sm.refl _) (Sm.refl _) h1 g1
  have k2 := Res.same (Sm.refl _) (Sm.refl _) h2 g2
  have k3 := Res.same (Sm.refl _) (Sm.refl _) h3 g3
  have k4 := Res.same (Sm.refl _) (Sm.refl _) h4 g4
  exact Res.same (Res.same k2 k3 h5 g5) (Res.same k1 k4 h6 g6) h7 g7
theorem SwX.turned {a b c d x x' : Nat} (h : SwX a b c d x) (h' : SwX c d a b x') : Opp x x' := by
  obtain ⟨d1, d2, s1, s2, m1, m2, h1, h2, h3, h4, h5, h6, h7⟩ := h
  obtain ⟨e1, e2, t1, t2, n1, n2, g1, g2, g3, g4, g5, g6, g7⟩ := h'
  have k1 := Res.opp_swap h1 g1
  have k2 := Res.opp_swap h2 g2
  have k3 := Res.same (Sm.refl _) (Sm.refl _) h3 g3.add_comm
  have k4 := Res.same (Sm.refl _) (Sm.refl _) h4 g4.add_comm
  exact Res.opp_sub (Res.opp_mul_sm k2 k3 h5 g5) (Res.opp_mul_sm k1 k4 h6 g6) h7 g7
/-- Which line is odd. -/
def swing (x : Nat) : Int := if (single.order x 0 == some .lt) = true then 1 else if (single.order x 0 == some .gt) = true then -1 else 0
theorem order_one (x : Nat) : ¬((single.order x 0 == some .lt) = true ∧ (single.order x 0 == some .gt) = true) := by
  rintro ⟨h1, h2⟩
  have e1 := eq_of_beq h1
  have e2 := eq_of_beq h2
  rw [e1] at e2; cases e2
theorem order_sm {x y : Nat} (h : Sm x y) : single.order x 0 = single.order y 0 := by
  rcases h with rfl | ⟨h1, h2⟩
  · rfl
  · rw [Flt.order_nan (.inl h1), Flt.order_nan (.inl h2)]
theorem swing_sm {x y : Nat} (h : Sm x y) : swing x = swing y := by unfold swing; rw [order_sm h]
theorem Opp.gt {x y : Nat} (h : Opp x y) : (single.order x 0 == some .gt) = (single.order y 0 == some .lt) := h.symm.lt.symm
theorem swing_opp {x y : Nat} (h : Opp x y) : swing x = - swing y := by
  unfold swing
  rw [h.lt, h.gt]
  have k := order_one y
  by_cases h1 : (single.order y 0 == some .lt) = true <;> by_cases h2 : (single.order y 0 == some .gt) = true
  · exact absurd ⟨h1, h2⟩ k
  · rw [if_neg h2, if_pos h1, if_pos h1]
  · rw [if_pos h2, if_neg h1, if_pos h2]; rfl
  · rw [if_neg h2, if_neg h1, if_neg h1, if_neg h2]; rfl
end Go.Proofs.Ytgecclccmmcdoaa
