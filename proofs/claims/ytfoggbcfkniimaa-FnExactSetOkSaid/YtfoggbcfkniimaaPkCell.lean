/-
  What is proved: the walks of the functions that tell whether a cell is valid (the program's and the model's), and of those that compare floats and colours for the laws.
  Conditions: those that each fact names.
-/
import Derived.Test.YtfoggbcfkniimaaRows
import Derived.Test.YtfoggbcfkniimaaPkNum
import Derived.WalkKit
import Derived.WalkSpells
import Derived.WalkLawsBesides
import Derived.Below
import Derived.Lib.Hide
import Derived.Laws.AppendOwn
import Derived.Lib.BufferWrite
import Derived.Lib.BufferOwn
import Derived.RegionTactic
import Derived.Deep.QuietTactic
import Derived.BigQuiet
namespace Go.Proofs.Ytfoggbcfkniimaa
set_option linter.unusedVariables false
open Go.RowKit

theorem run_store_float (P : Program) (w : World) (a : Addr) (m : Mode) (k : FloatKind) (b : Nat) : (store a (.float k b) m).run P w = stored P w a (.float k b) m := run_store P w a _ m rfl
theorem run_store_complex (P : Program) (w : World) (a : Addr) (m : Mode) (k : FloatKind) (x y : Nat) : (store a (.complex k x y) m).run P w = stored P w a (.complex k x y) m := run_store P w a _ m rfl
theorem unary_negf (k : FloatKind) (b : Nat) : Op.unary .neg (.float k b) = pure (.float k (Op.negFloat k b)) := rfl
theorem neg256 : Op.negFloat .f32 1132462080 = 3279945728 := by decide
attribute [local go_sem] run_store_float run_store_complex unary_negf neg256

theorem dorder_swap (x y : Ieee.Datum) : (x.order y == some .gt) = (y.order x == some .lt) ∧ (x.order y == some .eq) = (y.order x == some .eq) := by
  cases x with
  | number s m i => cases y with
    | number t n j =>
      simp only [Ieee.Datum.order]
      rw [Int.min_comm j i]
      generalize Ieee.signed s m (i - min i j).toNat = a
      generalize Ieee.signed t n (j - min i j).toNat = b
      rcases Int.lt_trichotomy a b with h | h | h
      · rw [Int.compare_eq_lt.2 h, Int.compare_eq_gt.2 h]; exact ⟨rfl, rfl⟩
      · subst h; rw [Int.compare_eq_eq.2 rfl]; exact ⟨rfl, rfl⟩
      · rw [Int.compare_eq_lt.2 h, Int.compare_eq_gt.2 h]; exact ⟨rfl, rfl⟩
    | infinity t => cases t <;> exact ⟨rfl, rfl⟩
    | nan t q => exact ⟨rfl, rfl⟩
  | infinity s => cases y with
    | number t n j => cases s <;> exact ⟨rfl, rfl⟩
    | infinity t => cases s <;> cases t <;> exact ⟨rfl, rfl⟩
    | nan t q => exact ⟨rfl, rfl⟩
  | nan s q => cases y <;> exact ⟨rfl, rfl⟩
theorem geq_lo (x : Nat) : (FloatKind.f32.format.order x 3279945728 == some .gt || FloatKind.f32.format.order x 3279945728 == some .eq) = Flt.lo x := by
  obtain ⟨h1, h2⟩ := dorder_swap (Ieee.single.read x) (Ieee.single.read 3279945728)
  show (Ieee.single.order x 3279945728 == some .gt || Ieee.single.order x 3279945728 == some .eq) = _
  unfold Flt.lo Ieee.Format.order
  rw [h1, h2]
theorem leq_lo (x : Nat) : (FloatKind.f32.format.order 3279945728 x == some .lt || FloatKind.f32.format.order 3279945728 x == some .eq) = Flt.lo x := rfl
theorem leq_hi (x : Nat) : (FloatKind.f32.format.order x 1132462080 == some .lt || FloatKind.f32.format.order x 1132462080 == some .eq) = Flt.hi x := rfl
attribute [local go_sem] geq_lo leq_lo leq_hi

theorem within_any (x : Nat) (w : World) :
    Calls Try.prog 29 #[.float .f32 x, .float .f32 1132462080] w fun e w' => e = .returned (.bool (Flt.fin x)) ∧ w = w' := by
  unfold Flt.fin
  cases h : Flt.lo x
  · go_enter Try.func29, Try.ntmps29
    go_wp2
    go_ret
    exact ⟨rfl, rfl⟩
  · go_enter Try.func29, Try.ntmps29
    go_wp2
    go_ret
    exact ⟨rfl, rfl⟩
theorem l02Fine_any (x : Nat) (w : World) :
    Calls Try.prog 63 #[.float .f32 x] w fun e w' => e = .returned (.bool (Flt.fin x)) ∧ w = w' := by
  unfold Flt.fin
  cases h : Flt.lo x
  · go_enter Try.func63, Try.ntmps63
    go_wp2
    go_ret
    exact ⟨rfl, rfl⟩
  · go_enter Try.func63, Try.ntmps63
    go_wp2
    go_ret
    exact ⟨rfl, rfl⟩

/-- A cell: the bits of its brightness and of both parts of its colour. -/
abbrev C3 := Nat × Nat × Nat
def cv (y u v : Nat) : Value := .agg #[.float .f32 y, .complex .f32 u v]
def okc (y u v : Nat) : Bool := Flt.fin y && (Flt.fin u && Flt.fin v)
theorem l02Colour_any (u v : Nat) (w : World) :
    Calls Try.prog 64 #[.complex .f32 u v] w fun e w' => e = .returned (.bool (Flt.fin u && Flt.fin v)) ∧ w = w' := by
  have hu := l02Fine_any u w
  have hv := l02Fine_any v w
  cases h : Flt.fin u
  · rw [h] at hu
    have HU := Lib.hid hu
    clear hu hv
    go_enter Try.func64, Try.ntmps64
    go_wp2_with (go_at_call 63; refine HU.out.mono ?_; rintro e w1 ⟨rfl, rfl⟩)
    go_ret
    exact ⟨rfl, rfl⟩
  · rw [h] at hu
    have HU := Lib.hid hu
    have HV := Lib.hid hv
    clear hu hv
    go_enter Try.func64, Try.ntmps64
    go_wp2_with (go_at_call 63; first | (refine HU.out.mono ?_; clear HU; rintro e w1 ⟨rfl, rfl⟩) | (refine HV.out.mono ?_; rintro e w1 ⟨rfl, rfl⟩))
    go_ret
    exact ⟨rfl, rfl⟩

theorem cellOk_any (y u v : Nat) (w : World) :
    Calls Try.prog 62 #[.agg #[.float .f32 y, .complex .f32 u v]] w fun e w' => e = .returned (.bool (okc y u v)) ∧ Below w.heap.size w w' := by
  have HW := fun x W => Lib.hid (within_any x W)
  unfold okc
  cases h : Flt.fin y
  · go_enter Try.func62, Try.ntmps62
    go_wp2_with fail
    refine (HW y _).out.mono ?_
    rintro e w1 ⟨rfl, rfl⟩
    rw [h]
    go_wp2
    go_ret
    exact ⟨rfl, (Below.refl _ _).alloc (Nat.le_refl _) _⟩
  · cases h1 : Flt.fin u
    · go_enter Try.func62, Try.ntmps62
      go_wp2_with fail
      refine (HW y _).out.mono ?_
      rintro e w1 ⟨rfl, rfl⟩
      rw [h]
      go_wp2_with fail
      refine (HW u _).out.mono ?_
      rintro e w1 ⟨rfl, rfl⟩
      rw [h1]
      go_wp2
      go_ret
      exact ⟨rfl, (Below.refl _ _).alloc (Nat.le_refl _) _⟩
    · go_enter Try.func62, Try.ntmps62
      go_wp2_with fail
      refine (HW y _).out.mono ?_
      rintro e w1 ⟨rfl, rfl⟩
      rw [h]
      go_wp2_with fail
      refine (HW u _).out.mono ?_
      rintro e w1 ⟨rfl, rfl⟩
      rw [h1]
      go_wp2_with fail
      refine (HW v _).out.mono ?_
      rintro e w1 ⟨rfl, rfl⟩
      go_wp2
      go_ret
      exact ⟨rfl, (Below.refl _ _).alloc (Nat.le_refl _) _⟩
theorem specCellOk_any (y u v : Nat) (w : World) :
    Calls Try.prog 57 #[.agg #[.float .f32 y, .complex .f32 u v]] w fun e w' => e = .returned (.bool (okc y u v)) ∧ Below w.heap.size w w' := by
  have HW := fun x W => Lib.hid (l02Fine_any x W)
  have HC := fun x y W => Lib.hid (l02Colour_any x y W)
  unfold okc
  cases h : Flt.fin y
  · go_enter Try.func57, Try.ntmps57
    go_wp2_with fail
    refine (HW y _).out.mono ?_
    rintro e w1 ⟨rfl, rfl⟩
    rw [h]
    go_wp2
    go_ret
    exact ⟨rfl, (Below.refl _ _).alloc (Nat.le_refl _) _⟩
  · go_enter Try.func57, Try.ntmps57
    go_wp2_with fail
    refine (HW y _).out.mono ?_
    rintro e w1 ⟨rfl, rfl⟩
    rw [h]
    go_wp2_with fail
    refine (HC u v _).out.mono ?_
    rintro e w1 ⟨rfl, rfl⟩
    go_wp2
    go_ret
    exact ⟨rfl, (Below.refl _ _).alloc (Nat.le_refl _) _⟩
end Go.Proofs.Ytfoggbcfkniimaa

/-
  What is proved: rows of cells as they lie in memory; the walks of RowOk (the program's and the model's), and of the law's comparing of two rows that are alike.
  Conditions: those that each fact names.
-/
namespace Go.Proofs.Ytfoggbcfkniimaa
set_option linter.unusedVariables false
open Go.RowKit
attribute [local go_sem] run_store_float run_store_complex unary_negf neg256

/-- The slice v of cells reads as cs. -/
def RowV (w : World) (v : Value) (cs : List C3) : Prop :=
  (v = .slice none 0 0 ∧ cs = []) ∨ ∃ g o cap, v = .slice (some ⟨g, o, none⟩) cs.length cap ∧ cs.length ≤ cap ∧
    ∀ i (h : i < cs.length), w.cell? ⟨g, o + i * 2, none⟩ = some (.float .f32 cs[i].1) ∧ w.cell? ⟨g, o + i * 2 + 1, none⟩ = some (.complex .f32 cs[i].2.1 cs[i].2.2)
theorem RowV.grown {w w' : World} {v : Value} {cs : List C3} (h : RowV w v cs) (hg : w.grownBy w' none) : RowV w' v cs := by
  rcases h with h | ⟨g, o, cap, h1, h2, h3⟩
  · exact .inl h
  · exact .inr ⟨g, o, cap, h1, h2, fun i hi => ⟨hg.cell (h3 i hi).1 (by simp), hg.cell (h3 i hi).2 (by simp)⟩⟩
theorem grown_of {w w' : World} (hb : Below w.heap.size w w') : w.grownBy w' none := ⟨hb.os, hb.tape, hb.output, hb.size, fun k hk _ => hb.block k hk⟩
theorem RowV.below {w w' : World} {v : Value} {cs : List C3} (h : RowV w v cs) (hb : Below w.heap.size w w') : RowV w' v cs := h.grown (grown_of hb)
theorem below_trans {a b c : World} {n m : Nat} (h1 : Below n a b) (h2 : Below m b c) (h : n ≤ m) : Below n a c := h1.trans (h2.mono h)
/-- Is a row valid? -/
def rok (cs : List C3) : Bool := (decide (1 ≤ cs.length) && decide (cs.length ≤ 64)) && cs.all fun c => okc c.1 c.2.1 c.2.2
theorem all_take {α : Type} {p : α → Bool} {l : List α} {k : Nat} (hk : k < l.length) (h : (l.take k).all p = true) (hc : p l[k] = true) : (l.take (k + 1)).all p = true := by
  rw [List.take_succ_eq_append_getElem hk, List.all_append, h]; simp [hc]
theorem all_not {α : Type} {p : α → Bool} {l : List α} {k : Nat} (hk : k < l.length) (hc : p l[k] = false) : l.all p = false := by
  cases h : l.all p
  · rfl
  · rw [List.all_eq_true.1 h _ (List.getElem_mem hk)] at hc; cases hc

set_option maxHeartbeats 1000000 in
theorem rowOk_any (v : Value) (cs : List C3) (w : World) (h : RowV w v cs) (hl : cs.length ≤ 1000000) :
    Calls Try.prog 53 #[v] w fun e w' => e = .returned (.bool (rok cs)) ∧ Below w.heap.size w w' := by
  by_cases hlen : 1 ≤ cs.length ∧ cs.length ≤ 64
  · have hr : rok cs = cs.all fun c => okc c.1 c.2.1 c.2.2 := by unfold rok; rw [decide_eq_true hlen.1, decide_eq_true hlen.2]; rfl
    rw [hr]
    clear hr
    rcases h with ⟨_, h0⟩ | ⟨g, o, cap, rfl, hcap, hcell⟩
    · subst h0; simp at hlen
    · have HC := Lib.hid hcell
      have HO := fun y u v W => Lib.hid (cellOk_any y u v W)
      obtain ⟨hl1, hl2⟩ := hlen
      generalize hp : (fun c : C3 => okc c.1 c.2.1 c.2.2) = p
      have HP := fun c => Lib.hid (congrFun hp c)
      clear hcell hp
      go_enter Try.func53, Try.ntmps53
      go_wp2
      go_loopw [15] (fun i wr => ∃ k : Nat, k ≤ cs.length ∧ i = .int .i64 (k : Int) ∧ Below w.heap.size w wr ∧ (cs.take k).all p = true) (fun i _ => cs.length - (intOf i).toNat)
      case atStart => exact ⟨0, Nat.zero_le _, rfl, Below.refl _ _, by simp⟩
      case round =>
        obtain ⟨k, hk, rfl, hb, hall⟩ := hrel
        have HALL := Lib.hid hall
        clear hall
        by_cases hlt : k < cs.length
        · obtain ⟨hc0, hc1⟩ := HC.out k hlt
          have hd0 := (grown_of hb).cell hc0 (by simp)
          have hd1 := (grown_of hb).cell hc1 (by simp)
          have hpk := (HP cs[k]).out
          clear hc0 hc1
          generalize hck : cs[k] = c at *
          obtain ⟨y, u, v⟩ := c
          have HPK := Lib.hid hpk
          have HCK := Lib.hid hck
          clear hpk hck
          go_wp2_with fail
          refine (HO y u v _).out.mono ?_
          rintro e w1 ⟨rfl, hb1⟩
          cases hk2 : okc y u v with
          | true =>
            rw [hk2] at HPK
            have hst := all_take hlt HALL.out (by rw [HCK.out]; exact HPK.out.symm)
            have HST := Lib.hid hst
            clear hst hk2
            go_wp2
            go_roundw
            case rel => exact ⟨k + 1, by omega, by go_num, below_trans hb (below_trans ((Below.refl _ _).alloc (Nat.le_refl _) _) hb1 (by simp)) hb.size, HST.out⟩
            case measure => simp [intOf]; omega
          | false =>
            rw [hk2] at HPK
            have hst := all_not hlt (by rw [HCK.out]; exact HPK.out.symm)
            have HST := Lib.hid hst
            clear hst hk2
            go_wp2
            go_ret
            exact ⟨by rw [HST.out]; rfl, below_trans hb (below_trans ((Below.refl _ _).alloc (Nat.le_refl _) _) hb1 (by simp)) hb.size⟩
        · have hkk : cs.take k = cs := List.take_of_length_le (by omega)
          have HK := Lib.hid hkk
          clear hkk
          go_wp2
          go_ret
          exact ⟨by have := HALL.out; rw [HK.out] at this; rw [this]; rfl, hb⟩
  · have hr : rok cs = false := by
      unfold rok
      cases h1 : decide (1 ≤ cs.length) && decide (cs.length ≤ 64)
      · rfl
      · simp at h1; exact absurd h1 (by omega)
    rw [hr]
    clear hr
    by_cases h0 : cs.length = 0
    · have he : cs = [] := List.eq_nil_of_length_eq_zero h0
      subst he
      rcases h with ⟨rfl, _⟩ | ⟨g, o, cap, rfl, hcap, hcell⟩
      all_goals
        go_enter Try.func53, Try.ntmps53
        go_wp2
        go_ret
        exact ⟨rfl, Below.refl _ _⟩
    · rcases h with ⟨_, h0⟩ | ⟨g, o, cap, rfl, hcap, hcell⟩
      · subst h0; simp at h0
      · clear hcell
        have hl2 : 64 < cs.length := by omega
        clear hlen
        go_enter Try.func53, Try.ntmps53
        go_wp2
        go_ret
        exact ⟨rfl, Below.refl _ _⟩

theorem l01In_any (x a b : Int) (w : World) (hx : -9223372036854775808 ≤ x ∧ x ≤ 9223372036854775807) :
    Calls Try.prog 25 #[.int .i64 x, .int .i64 a, .int .i64 b] w fun e w' => e = .returned (.bool (decide (a ≤ x) && decide (x ≤ b))) ∧ w = w' := by
  by_cases h : a ≤ x
  · go_enter Try.func25, Try.ntmps25
    go_wp2
    go_ret
    exact ⟨by simp [h], rfl⟩
  · go_enter Try.func25, Try.ntmps25
    go_wp2
    go_ret
    exact ⟨by have h' : ¬ a ≤ x := by omega
              simp [h'], rfl⟩

theorem rok_eq (cs : List C3) (p : C3 → Bool) (hp : (fun c : C3 => okc c.1 c.2.1 c.2.2) = p) (h : cs.all p = true) : rok cs = (decide ((1 : Int) ≤ cs.length) && decide ((cs.length : Int) ≤ 64)) := by
  unfold rok
  rw [hp, h, Bool.and_true]
  congr 1
  · exact decide_eq_decide.2 (by omega)
  · exact decide_eq_decide.2 (by omega)
theorem rok_no (cs : List C3) (p : C3 → Bool) (hp : (fun c : C3 => okc c.1 c.2.1 c.2.2) = p) (h : cs.all p = false) : rok cs = false := by
  unfold rok
  rw [hp, h, Bool.and_false]
set_option maxHeartbeats 1000000 in
theorem specRowOk_any (v : Value) (cs : List C3) (w : World) (h : RowV w v cs) (hl : cs.length ≤ 1000000) :
    Calls Try.prog 42 #[v] w fun e w' => e = .returned (.bool (rok cs)) ∧ Below w.heap.size w w' := by
  rcases h with ⟨rfl, rfl⟩ | ⟨g, o, cap, rfl, hcap, hcell⟩
  · have HI := Lib.hid (l01In_any 0 1 64 w (by omega))
    go_enter Try.func42, Try.ntmps42
    go_wp2
    go_loop [3] (fun i => i = .int .i64 0) (fun _ => 0)
    case atStart => exact rfl
    case round =>
      obtain rfl := hrel
      go_wp2_with fail
      refine HI.out.mono ?_
      rintro e w1 ⟨rfl, rfl⟩
      go_wp2
      go_ret
      exact ⟨rfl, Below.refl _ _⟩
  · have HC := Lib.hid hcell
    have HO := fun y u v W => Lib.hid (specCellOk_any y u v W)
    have HI := fun W => Lib.hid (l01In_any cs.length 1 64 W (by omega))
    generalize hp : (fun c : C3 => okc c.1 c.2.1 c.2.2) = p
    have HP := fun c => Lib.hid (congrFun hp c)
    have HY := fun h => Lib.hid (rok_eq cs p hp h)
    have HN := fun h => Lib.hid (rok_no cs p hp h)
    clear hcell hp
    generalize rok cs = r at *
    go_enter Try.func42, Try.ntmps42
    go_wp2
    go_loopw [3] (fun i wr => ∃ k : Nat, k ≤ cs.length ∧ i = .int .i64 (k : Int) ∧ Below w.heap.size w wr ∧ (cs.take k).all p = true) (fun i _ => cs.length - (intOf i).toNat)
    case atStart => exact ⟨0, Nat.zero_le _, rfl, Below.refl _ _, by simp⟩
    case round =>
      obtain ⟨k, hk, rfl, hb, hall⟩ := hrel
      have HALL := Lib.hid hall
      clear hall
      by_cases hlt : k < cs.length
      · obtain ⟨hc0, hc1⟩ := HC.out k hlt
        have hd0 := (grown_of hb).cell hc0 (by simp)
        have hd1 := (grown_of hb).cell hc1 (by simp)
        have hpk := (HP cs[k]).out
        clear hc0 hc1
        generalize hck : cs[k] = c at *
        obtain ⟨y, u, v⟩ := c
        have HPK := Lib.hid hpk
        have HCK := Lib.hid hck
        clear hpk hck
        go_wp2_with fail
        refine (HO y u v _).out.mono ?_
        rintro e w1 ⟨rfl, hb1⟩
        cases hk2 : okc y u v with
        | true =>
          rw [hk2] at HPK
          have hst := all_take hlt HALL.out (by rw [HCK.out]; exact HPK.out.symm)
          have HST := Lib.hid hst
          clear hst hk2
          go_wp2
          go_roundw
          case rel => exact ⟨k + 1, by omega, by go_num, below_trans hb hb1 hb.size, HST.out⟩
          case measure => simp [intOf]; omega
        | false =>
          rw [hk2] at HPK
          have hst := (HN (all_not hlt (by rw [HCK.out]; exact HPK.out.symm))).out
          have HST := Lib.hid hst
          clear hst hk2
          go_wp2
          go_ret
          exact ⟨by rw [HST.out]; rfl, below_trans hb hb1 hb.size⟩
      · have hkk : cs.take k = cs := List.take_of_length_le (by omega)
        have hy := (HY (by have := HALL.out; rwa [hkk] at this)).out
        have HYY := Lib.hid hy
        clear hkk hy
        go_wp2_with fail
        refine (HI _).out.mono ?_
        rintro e w1 ⟨rfl, rfl⟩
        go_wp2
        go_ret
        exact ⟨by rw [HYY.out]; rfl, hb⟩
end Go.Proofs.Ytfoggbcfkniimaa

/-
  What is proved: the law's comparing of floats, colours and rows that are alike answers true.
  Conditions: no number is NaN or above 256.
-/
namespace Go.Proofs.Ytfoggbcfkniimaa
set_option linter.unusedVariables false
open Go.RowKit

theorem qt_add {P : Program} {f : FuncId} {args : Array Value} {w : World} {a n : Nat} {v : Value} (h : Calls P f args (w.drewN (a + n)) fun e w' => e = .returned v ∧ w.drewN (a + n) = w') :
    Calls P f args (w.drewN (a + n)) fun e w'' => e = .returned v ∧ ∃ m, w'' = w.drewN (a + m) := h.mono fun _ _ hh => ⟨hh.1, n, hh.2.symm⟩
theorem qt_one {P : Program} {f : FuncId} {args : Array Value} {w : World} {n : Nat} {v : Value} (h : Calls P f args (w.drewN n) fun e w' => e = .returned v ∧ w.drewN n = w') :
    Calls P f args (w.drewN n) fun e w'' => e = .returned v ∧ ∃ m, w'' = w.drewN m := h.mono fun _ _ hh => ⟨hh.1, n, hh.2.symm⟩
theorem belowDN {B : Nat} {a w : World} (h : Below B a w) (n : Nat) : Below B a (w.drewN n) := ⟨h.os, h.tape, h.output, h.size, h.block⟩
theorem rd0 : Ieee.double.read 0 = .number false 0 (-1074) := by decide +kernel
theorem rd1 : Ieee.double.read 4607182418800017408 = .number false 4503599627370496 (-52) := by decide +kernel
set_option maxHeartbeats 400000 in
theorem same64_self (a : Nat) (w : World) (ha : (Ieee.double.read a).isNaN = false) :
    Calls Try.prog 58 #[.float .f64 a, .float .f64 a] w fun e w' => e = .returned (.bool true) ∧ w = w' := by
  have hs : (FloatKind.f64.format.order a a) = some .eq := Flt.order_self ha
  cases hz : FloatKind.f64.format.order a 0 == some .eq
  · have hz' : (FloatKind.f64.format.order a 0 != some .eq) = true := by unfold bne; rw [hz]; rfl
    go_enter Try.func58, Try.ntmps58
    go_wp2
    go_ret
    exact ⟨rfl, rfl⟩
  · obtain ⟨s, i, he⟩ := Flt.eq_zero rd0 (eq_of_beq hz)
    obtain ⟨r, hr⟩ := Flt.div_zero rd1 (by decide) he
    have hrn : (Ieee.double.read r).isNaN = false := by
      unfold Ieee.Format.div at hr
      rw [rd1, he] at hr
      simp only [Ieee.Datum.quotient, if_true, show (4503599627370496 : Nat) ≠ 0 by decide, if_false, Option.map_some, Option.some.injEq] at hr
      rw [← hr]
      cases s <;> decide +kernel
    have hrs : (FloatKind.f64.format.order r r) = some .eq := Flt.order_self hrn
    have hz' : (FloatKind.f64.format.order a 0 != some .eq) = false := by unfold bne; rw [hz]; rfl
    have hd := fun wx => run_float_arith (P := Try.prog) wx .quo 58 .f64 _ _ r (show floatBits .quo .f64 _ _ = _ from hr)
    clear he hr hrn
    go_enter Try.func58, Try.ntmps58
    go_wp2
    go_ret
    exact ⟨by simp, rfl⟩
theorem same32_self (x : Nat) (w : World) (hx : Flt.fin x = true) :
    Calls Try.prog 43 #[.float .f32 x, .float .f32 x] w fun e w' => e = .returned (.bool true) ∧ w = w' := by
  obtain ⟨r, hr, hn⟩ := Flt.conv_fin hx
  have HS := fun W => Lib.hid (same64_self r W hn)
  have hc := fun W => run_convert_float_float (P := Try.prog) W 22 58 .f32 .f64 x r (by kernel_rfl) Try.underlying58 hr
  clear hr hn hx
  go_enter Try.func43, Try.ntmps43
  go_wp2_with fail
  refine (HS _).out.mono ?_
  rintro e w1 ⟨rfl, rfl⟩
  go_wp2
  go_ret
  exact ⟨rfl, rfl⟩
theorem sameColour_self (u v : Nat) (w : World) (hu : Flt.fin u = true) (hv : Flt.fin v = true) :
    Calls Try.prog 44 #[.complex .f32 u v, .complex .f32 u v] w fun e w' => e = .returned (.bool true) ∧ w = w' := by
  have HU := fun W => Lib.hid (same32_self u W hu)
  have HV := fun W => Lib.hid (same32_self v W hv)
  go_enter Try.func44, Try.ntmps44
  go_wp2_with fail
  refine (HU _).out.mono ?_
  rintro e w1 ⟨rfl, rfl⟩
  go_wp2_with fail
  refine (HV _).out.mono ?_
  rintro e w1 ⟨rfl, rfl⟩
  go_wp2
  go_ret
  exact ⟨rfl, rfl⟩

set_option maxHeartbeats 2000000 in
theorem sameRow_self (v v' : Value) (cs : List C3) (w : World) (h : RowV w v cs) (h' : RowV w v' cs) (hl : cs.length ≤ 1000000) (hf : (cs.all fun c => okc c.1 c.2.1 c.2.2) = true) :
    Calls Try.prog 21 #[v, v'] w fun e w' => e = .returned (.bool true) ∧ Below w.heap.size w w' := by
  by_cases h0 : cs = []
  · subst h0
    rcases h with ⟨rfl, _⟩ | ⟨g, o, cap, rfl, hcap, hcell⟩ <;> rcases h' with ⟨rfl, _⟩ | ⟨g', o', cap', rfl, hcap', hcell'⟩
    all_goals
      clear hl hf
      go_enter Try.func21, Try.ntmps21
      go_wp2
      go_loop [5] (fun i => i = .int .i64 0) (fun _ => 0)
      case atStart => exact rfl
      case round =>
        obtain rfl := hrel
        go_wp2
        go_ret
        exact ⟨rfl, Below.refl _ _⟩
  · rcases h with ⟨_, h1⟩ | ⟨g, o, cap, rfl, hcap, hcell⟩
    · exact absurd h1 h0
    · rcases h' with ⟨_, h1⟩ | ⟨g', o', cap', rfl, hcap', hcell'⟩
      · exact absurd h1 h0
      · have HC := Lib.hid hcell
        have HC' := Lib.hid hcell'
        have HF := Lib.hid (fun k (hk : k < cs.length) => List.all_eq_true.1 hf cs[k] (List.getElem_mem hk))
        clear hcell hcell' hf h0
        go_enter Try.func21, Try.ntmps21
        go_wp2
        go_loopw [5] (fun i wr => ∃ k q : Nat, k ≤ cs.length ∧ i = .int .i64 (k : Int) ∧ wr = w.drewN q) (fun i _ => cs.length - (intOf i).toNat)
        case atStart => exact ⟨0, 0, Nat.zero_le _, rfl, rfl⟩
        case round =>
          obtain ⟨k, q, hk, rfl, rfl⟩ := hrel
          by_cases hlt : k < cs.length
          · obtain ⟨hc0, hc1⟩ := HC.out k hlt
            obtain ⟨hc0', hc1'⟩ := HC'.out k hlt
            have hpk := HF.out k hlt
            generalize cs[k] = c at *
            obtain ⟨y, u, v⟩ := c
            unfold okc at hpk
            simp only [Bool.and_eq_true] at hpk
            have HY := fun W => Lib.hid (same32_self y W hpk.1)
            have HV := fun W => Lib.hid (sameColour_self u v W hpk.2.1 hpk.2.2)
            clear hpk
            go_wp2
            go_quiet (first | (go_at_call 43; exact qt_add (HY _).out) | (go_at_call 44; exact qt_add (HV _).out))
            go_wp2
            go_roundw
            case rel => exact ⟨k + 1, _, by omega, by go_num, rfl⟩
            case measure => simp [intOf]; omega
          · go_wp2
            go_ret
            exact ⟨rfl, belowDN (Below.refl _ _) _⟩
end Go.Proofs.Ytfoggbcfkniimaa
