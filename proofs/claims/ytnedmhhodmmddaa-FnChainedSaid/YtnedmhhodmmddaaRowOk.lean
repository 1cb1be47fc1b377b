/-
  What is proved: rows of cells as they lie in memory; the walks of RowOk (the program's and the model's), and of the law's comparing of two rows that are alike.
  Conditions: those that each fact names.
-/
import Derived.Test.YtnedmhhodmmddaaCell
namespace Go.Proofs.Ytnedmhhodmmddaa
set_option linter.unusedVariables false
open Go.RowKit
attribute [local go_sem] run_store_float run_store_complex unary_negf neg256

/-- The slice v of cells reads as cs. -/
def RowV (w : World) (v : Value) (cs : List C3) : Prop :=
  (v = .slice none 0 0 ∧ cs = []) ∨ ∃ g o cap, v = .slice (some ⟨g, o, none⟩) cs.length cap ∧ cs.length ≤ cap ∧
    ∀ i (h : i < cs.length), w.cell? ⟨g, o + i * 2, none⟩ = some (.float .f32 cs[i].1) ∧ w.cell? ⟨g, o + i * 2 + 1, none⟩ = some (.complex .f32 cs[i].2.1 cs[i].2.2)
theorem RowV.grown {w w' : World} {v : Value} {cs : List C3} (h : RowV w v cs) (hg : w.grownBy w' none) : RowV w' v cs := by
  rcases h with h | ⟨g, o, cap, h1, h2, h3⟩
  · exact .inl h
  · exact .inr ⟨g, o, cap, h1, h2, fun i hi => ⟨hg.cell (h3 i hi).1 (by simp), hg.cell (h3 i hi).2 (by simp)⟩⟩
theorem grown_of {w w' : World} (hb : Below w.heap.size w w') : w.grownBy w' none := ⟨hb.os, hb.tape, hb.output, hb.size, fun k hk _ => hb.block k hk⟩
theorem RowV.below {w w' : World} {v : Value} {cs : List C3} (h : RowV w v cs) (hb : Below w.heap.size w w') : RowV w' v cs := h.grown (grown_of hb)
theorem below_trans {a b c : World} {n m : Nat} (h1 : Below n a b) (h2 : Below m b c) (h : n ≤ m) : Below n a c := h1.trans (h2.mono h)
/-- Is a row valid? -/
def rok (cs : List C3) : Bool := (decide (1 ≤ cs.length) && decide (cs.length ≤ 64)) && cs.all fun c => okc c.1 c.2.1 c.2.2
theorem all_take {α : Type} {p : α → Bool} {l : List α} {k : Nat} (hk : k < l.length) (h : (l.take k).all p = true) (hc : p l[k] = true) : (l.take (k + 1)).all p = true := by
  rw [List.take_succ_eq_append_getElem hk, List.all_append, h]; simp [hc]
theorem all_not {α : Type} {p : α → Bool} {l : List α} {k : Nat} (hk : k < l.length) (hc : p l[k] = false) : l.all p = false := by
  cases h : l.all p
  · rfl
  · rw [List.all_eq_true.1 h _ (List.getElem_mem hk)] at hc; cases hc

set_option maxHeartbeats 1000000 in
theorem rowOk_any (v : Value) (cs : List C3) (w : World) (h : RowV w v cs) (hl : cs.length ≤ 1000000) :
    Calls Try.prog 33 #[v] w fun e w' => e = .returned (.bool (rok cs)) ∧ Below w.heap.size w w' := by
  by_cases hlen : 1 ≤ cs.length ∧ cs.length ≤ 64
  · have hr : rok cs = cs.all fun c => okc c.1 c.2.1 c.2.2 := by unfold rok; rw [decide_eq_true hlen.1, decide_eq_true hlen.2]; rfl
    rw [hr]
    clear hr
    rcases h with ⟨_, h0⟩ | ⟨g, o, cap, rfl, hcap, hcell⟩
    · subst h0; simp at hlen
    · have HC := Lib.hid hcell
      have HO := fun y u v W => Lib.hid (cellOk_any y u v W)
      obtain ⟨hl1, hl2⟩ := hlen
      generalize hp : (fun c : C3 => okc c.1 c.2.1 c.2.2) = p
      have HP := fun c => Lib.hid (congrFun hp c)
      clear hcell hp
      go_enter Try.func33, Try.ntmps33
      go_wp2
      go_loopw [15] (fun i wr => ∃ k : Nat, k ≤ cs.length ∧ i = .int .i64 (k : Int) ∧ Below w.heap.size w wr ∧ (cs.take k).all p = true) (fun i _ => cs.length - (intOf i).toNat)
      case atStart => exact ⟨0, Nat.zero_le _, rfl, Below.refl _ _, by simp⟩
      case round =>
        obtain ⟨k, hk, rfl, hb, hall⟩ := hrel
        have HALL := Lib.hid hall
        clear hall
        by_cases hlt : k < cs.length
        · obtain ⟨hc0, hc1⟩ := HC.out k hlt
          have hd0 := (grown_of hb).cell hc0 (by simp)
          have hd1 := (grown_of hb).cell hc1 (by simp)
          have hpk := (HP cs[k]).out
          clear hc0 hc1
          generalize hck : cs[k] = c at *
          obtain ⟨y, u, v⟩ := c
          have HPK := Lib.hid hpk
          have HCK := Lib.hid hck
          clear hpk hck
          go_wp2_with fail
          refine (HO y u v _).out.mono ?_
          rintro e w1 ⟨rfl, hb1⟩
          cases hk2 : okc y u v with
          | true =>
            rw [hk2] at HPK
            have hst := all_take hlt HALL.out (by rw [HCK.out]; exact HPK.out.symm)
            have HST := Lib.hid hst
            clear hst hk2
            go_wp2
            go_roundw
            case rel => exact ⟨k + 1, by omega, by go_num, below_trans hb (below_trans ((Below.refl _ _).alloc (Nat.le_refl _) _) hb1 (by simp)) hb.size, HST.out⟩
            case measure => simp [intOf]; omega
          | false =>
            rw [hk2] at HPK
            have hst := all_not hlt (by rw [HCK.out]; exact HPK.out.symm)
            have HST := Lib.hid hst
            clear hst hk2
            go_wp2
            go_ret
            exact ⟨by rw [HST.out]; rfl, below_trans hb (below_trans ((Below.refl _ _).alloc (Nat.le_refl _) _) hb1 (by simp)) hb.size⟩
        · have hkk : cs.take k = cs := List.take_of_length_le (by omega)
          have HK := Lib.hid hkk
          clear hkk
          go_wp2
          go_ret
          exact ⟨by have := HALL.out; rw [HK.out] at this; rw [this]; rfl, hb⟩
  · have hr : rok cs = false := by
      unfold rok
      cases h1 : decide (1 ≤ cs.length) && decide (cs.length ≤ 64)
      · rfl
      · simp at h1; exact absurd h1 (by omega)
    rw [hr]
    clear hr
    by_cases h0 : cs.length = 0
    · have he : cs = [] := List.eq_nil_of_length_eq_zero h0
      subst he
      rcases h with ⟨rfl, _⟩ | ⟨g, o, cap, rfl, hcap, hcell⟩
      all_goals
        go_enter Try.func33, Try.ntmps33
        go_wp2
        go_ret
        exact ⟨rfl, Below.refl _ _⟩
    · rcases h with ⟨_, h0⟩ | ⟨g, o, cap, rfl, hcap, hcell⟩
      · subst h0; simp at h0
      · clear hcell
        have hl2 : 64 < cs.length := by omega
        clear hlen
        go_enter Try.func33, Try.ntmps33
        go_wp2
        go_ret
        exact ⟨rfl, Below.refl _ _⟩

theorem l01In_any (x a b : Int) (w : World) (hx : -9223372036854775808 ≤ x ∧ x ≤ 9223372036854775807) :
    Calls Try.prog 50 #[.int .i64 x, .int .i64 a, .int .i64 b] w fun e w' => e = .returned (.bool (decide (a ≤ x) && decide (x ≤ b))) ∧ w = w' := by
  by_cases h : a ≤ x
  · go_enter Try.func50, Try.ntmps50
    go_wp2
    go_ret
    exact ⟨by simp [h], rfl⟩
  · go_enter Try.func50, Try.ntmps50
    go_wp2
    go_ret
    exact ⟨by have h' : ¬ a ≤ x := by omega
              simp [h'], rfl⟩

theorem rok_eq (cs : List C3) (p : C3 → Bool) (hp : (fun c : C3 => okc c.1 c.2.1 c.2.2) = p) (h : cs.all p = true) : rok cs = (decide ((1 : Int) ≤ cs.length) && decide ((cs.length : Int) ≤ 64)) := by
  unfold rok
  rw [hp, h, Bool.and_true]
  congr 1
  · exact decide_eq_decide.2 (by omega)
  · exact decide_eq_decide.2 (by omega)
theorem rok_no (cs : List C3) (p : C3 → Bool) (hp : (fun c : C3 => okc c.1 c.2.1 c.2.2) = p) (h : cs.all p = false) : rok cs = false := by
  unfold rok
  rw [hp, h, Bool.and_false]
set_option maxHeartbeats 1000000 in
theorem specRowOk_any (v : Value) (cs : List C3) (w : World) (h : RowV w v cs) (hl : cs.length ≤ 1000000) :
    Calls Try.prog 71 #[v] w fun e w' => e = .returned (.bool (rok cs)) ∧ Below w.heap.size w w' := by
  rcases h with ⟨rfl, rfl⟩ | ⟨g, o, cap, rfl, hcap, hcell⟩
  · have HI := Lib.hid (l01In_any 0 1 64 w (by omega))
    go_enter Try.func71, Try.ntmps71
    go_wp2
    go_loop [3] (fun i => i = .int .i64 0) (fun _ => 0)
    case atStart => exact rfl
    case round =>
      obtain rfl := hrel
      go_wp2_with fail
      refine HI.out.mono ?_
      rintro e w1 ⟨rfl, rfl⟩
      go_wp2
      go_ret
      exact ⟨rfl, Below.refl _ _⟩
  · have HC := Lib.hid hcell
    have HO := fun y u v W => Lib.hid (specCellOk_any y u v W)
    have HI := fun W => Lib.hid (l01In_any cs.length 1 64 W (by omega))
    generalize hp : (fun c : C3 => okc c.1 c.2.1 c.2.2) = p
    have HP := fun c => Lib.hid (congrFun hp c)
    have HY := fun h => Lib.hid (rok_eq cs p hp h)
    have HN := fun h => Lib.hid (rok_no cs p hp h)
    clear hcell hp
    generalize rok cs = r at *
    go_enter Try.func71, Try.ntmps71
    go_wp2
    go_loopw [3] (fun i wr => ∃ k : Nat, k ≤ cs.length ∧ i = .int .i64 (k : Int) ∧ Below w.heap.size w wr ∧ (cs.take k).all p = true) (fun i _ => cs.length - (intOf i).toNat)
    case atStart => exact ⟨0, Nat.zero_le _, rfl, Below.refl _ _, by simp⟩
    case round =>
      obtain ⟨k, hk, rfl, hb, hall⟩ := hrel
      have HALL := Lib.hid hall
      clear hall
      by_cases hlt : k < cs.length
      · obtain ⟨hc0, hc1⟩ := HC.out k hlt
        have hd0 := (grown_of hb).cell hc0 (by simp)
        have hd1 := (grown_of hb).cell hc1 (by simp)
        have hpk := (HP cs[k]).out
        clear hc0 hc1
        generalize hck : cs[k] = c at *
        obtain ⟨y, u, v⟩ := c
        have HPK := Lib.hid hpk
        have HCK := Lib.hid hck
        clear hpk hck
        go_wp2_with fail
        refine (HO y u v _).out.mono ?_
        rintro e w1 ⟨rfl, hb1⟩
        cases hk2 : okc y u v with
        | true =>
          rw [hk2] at HPK
          have hst := all_take hlt HALL.out (by rw [HCK.out]; exact HPK.out.symm)
          have HST := Lib.hid hst
          clear hst hk2
          go_wp2
          go_roundw
          case rel => exact ⟨k + 1, by omega, by go_num, below_trans hb hb1 hb.size, HST.out⟩
          case measure => simp [intOf]; omega
        | false =>
          rw [hk2] at HPK
          have hst := (HN (all_not hlt (by rw [HCK.out]; exact HPK.out.symm))).out
          have HST := Lib.hid hst
          clear hst hk2
          go_wp2
          go_ret
          exact ⟨by rw [HST.out]; rfl, below_trans hb hb1 hb.size⟩
      · have hkk : cs.take k = cs := List.take_of_length_le (by omega)
        have hy := (HY (by have := HALL.out; rwa [hkk] at this)).out
        have HYY := Lib.hid hy
        clear hkk hy
        go_wp2_with fail
        refine (HI _).out.mono ?_
        rintro e w1 ⟨rfl, rfl⟩
        go_wp2
        go_ret
        exact ⟨by rw [HYY.out]; rfl, hb⟩
end Go.Proofs.Ytnedmhhodmmddaa
