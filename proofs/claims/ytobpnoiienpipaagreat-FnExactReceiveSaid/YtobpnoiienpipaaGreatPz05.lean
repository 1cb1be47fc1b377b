/-
  What is proved: the walks of LineOk, the program's and the model's.
  Conditions: the list can be read, and has at most 4000000 numbers.
-/
import Derived.Test.YtobpnoiienpipaaGreatPz03
namespace Go.Proofs.YtobpnoiienpipaaGreat
set_option linter.unusedVariables false
open Go.RowKit
theorem neg1024 : Op.negFloat .f32 1149239296 = 3296722944 := by decide
attribute [local go_sem] run_store_float run_store_complex unary_negf neg256 neg1024

def lo1 (x : Nat) : Bool := Ieee.single.order 3296722944 x == some .lt || Ieee.single.order 3296722944 x == some .eq
def hi1 (x : Nat) : Bool := Ieee.single.order x 1149239296 == some .lt || Ieee.single.order x 1149239296 == some .eq
/-- Has a sample an amount of at most MaxSample? -/
def fin1 (x : Nat) : Bool := lo1 x && hi1 x
theorem geq_lo1 (x : Nat) : (FloatKind.f32.format.order x 3296722944 == some .gt || FloatKind.f32.format.order x 3296722944 == some .eq) = lo1 x := by
  obtain ⟨h1, h2⟩ := dorder_swap (Ieee.single.read x) (Ieee.single.read 3296722944)
  show (Ieee.single.order x 3296722944 == some .gt || Ieee.single.order x 3296722944 == some .eq) = _
  unfold lo1 Ieee.Format.order
  rw [h1, h2]
theorem leq_lo1 (x : Nat) : (FloatKind.f32.format.order 3296722944 x == some .lt || FloatKind.f32.format.order 3296722944 x == some .eq) = lo1 x := rfl
theorem leq_hi1 (x : Nat) : (FloatKind.f32.format.order x 1149239296 == some .lt || FloatKind.f32.format.order x 1149239296 == some .eq) = hi1 x := rfl
attribute [local go_sem] geq_lo1 leq_lo1 leq_hi1
def lineLen (n : Nat) : Bool := decide (n % 4 = 0) && (decide (28 ≤ n) && decide (n ≤ 280))
/-- Is a list a valid line? -/
def lineOk (xs : List Nat) : Bool := lineLen xs.length && xs.all fin1

theorem within1_any (x : Nat) (w : World) :
    Calls Tryz.prog 61 #[.float .f32 x, .float .f32 1149239296] w fun e w' => e = .returned (.bool (fin1 x)) ∧ w = w' := by
  unfold fin1
  cases h : lo1 x
  · go_enter Tryz.func61, Tryz.ntmps61
    go_wp2
    go_ret
    exact ⟨rfl, rfl⟩
  · go_enter Tryz.func61, Tryz.ntmps61
    go_wp2
    go_ret
    exact ⟨rfl, rfl⟩

set_option maxHeartbeats 1000000 in
theorem allWithin_any (v : Value) (xs : List Nat) (w : World) (h : FRow w v xs) (hl : xs.length ≤ 1000000) :
    Calls Tryz.prog 139 #[v, .float .f32 1149239296] w fun e w' => e = .returned (.bool (xs.all fin1)) ∧ w = w' := by
  obtain ⟨a, c, rfl, hcell⟩ := h.any
  have HC := Lib.hid hcell
  have HO := fun x W => Lib.hid (within1_any x W)
  clear hcell h
  go_enter Tryz.func139, Tryz.ntmps139
  go_wp2
  go_loopw [9] (fun i wr => ∃ k : Nat, k ≤ xs.length ∧ i = .int .i64 (k : Int) ∧ w = wr ∧ (xs.take k).all fin1 = true) (fun i _ => xs.length - (intOf i).toNat)
  case atStart => exact ⟨0, Nat.zero_le _, rfl, rfl, by simp⟩
  case round =>
    obtain ⟨k, hk, rfl, rfl, hall⟩ := hrel
    have HALL := Lib.hid hall
    clear hall
    by_cases hlt : k < xs.length
    · obtain ⟨g, o, rfl, hcap, hc0⟩ := HC.out k hlt
      cases hk2 : fin1 xs[k] with
      | true =>
        have hst := all_take hlt HALL.out hk2
        have HST := Lib.hid hst
        have HK2 := Lib.hid hk2
        clear hst hk2
        generalize xs[k] = x at *
        go_wp2_with fail
        refine (HO x _).out.mono ?_
        rintro e w1 ⟨rfl, rfl⟩
        rw [HK2.out]
        go_wp2
        go_roundw
        case rel => exact ⟨k + 1, by omega, by go_num, by trivial, HST.out⟩
        case measure => simp [intOf]; omega
      | false =>
        have hst := all_not hlt hk2
        have HST := Lib.hid hst
        have HK2 := Lib.hid hk2
        clear hst hk2
        generalize xs[k] = x at *
        go_wp2_with fail
        refine (HO x _).out.mono ?_
        rintro e w1 ⟨rfl, rfl⟩
        rw [HK2.out]
        go_wp2
        go_ret
        exact ⟨by rw [HST.out]; rfl, rfl⟩
    · have hkk : xs.take k = xs := List.take_of_length_le (by omega)
      have HK := Lib.hid hkk
      clear hkk
      go_wp2
      go_ret
      exact ⟨by have h9 := HALL.out; rw [HK.out] at h9; rw [h9]; rfl, rfl⟩

set_option maxHeartbeats 1000000 in
theorem specFine_any (v : Value) (xs : List Nat) (w : World) (h : FRow w v xs) (hl : xs.length ≤ 1000000) :
    Calls Tryz.prog 103 #[v] w fun e w' => e = .returned (.bool (xs.all fin1)) ∧ w = w' := by
  obtain ⟨a, c, rfl, hcell⟩ := h.any
  have HC := Lib.hid hcell
  clear hcell h
  go_enter Tryz.func103, Tryz.ntmps103
  go_wp2
  go_loopw [3] (fun i wr => ∃ k : Nat, k ≤ xs.length ∧ i = .int .i64 (k : Int) ∧ w = wr ∧ (xs.take k).all fin1 = true) (fun i _ => xs.length - (intOf i).toNat)
  case atStart => exact ⟨0, Nat.zero_le _, rfl, rfl, by simp⟩
  case round =>
    obtain ⟨k, hk, rfl, rfl, hall⟩ := hrel
    have HALL := Lib.hid hall
    clear hall
    by_cases hlt : k < xs.length
    · obtain ⟨g, o, rfl, hcap, hc0⟩ := HC.out k hlt
      cases hk2 : fin1 xs[k] with
      | true =>
        have hst := all_take hlt HALL.out hk2
        have HST := Lib.hid hst
        have hk3 : lo1 xs[k] = true ∧ hi1 xs[k] = true := by simpa [fin1] using hk2
        obtain ⟨hk4, hk5⟩ := hk3
        clear hst hk2
        generalize xs[k] = x at *
        go_wp2
        go_roundw
        case rel => exact ⟨k + 1, by omega, by go_num, by trivial, HST.out⟩
        case measure => simp [intOf]; omega
      | false =>
        have hst := all_not hlt hk2
        have HST := Lib.hid hst
        have HK2 := Lib.hid hk2
        clear hst hk2
        generalize xs[k] = x at *
        cases hk4 : lo1 x with
        | false =>
          go_wp2
          go_ret
          exact ⟨by rw [HST.out]; rfl, rfl⟩
        | true =>
          have hk5 : hi1 x = false := by have := HK2.out; unfold fin1 at this; rw [hk4] at this; simpa using this
          go_wp2
          go_ret
          exact ⟨by rw [HST.out]; rfl, rfl⟩
    · have hkk : xs.take k = xs := List.take_of_length_le (by omega)
      have HK := Lib.hid hkk
      clear hkk
      go_wp2
      go_ret
      exact ⟨by have h9 := HALL.out; rw [HK.out] at h9; rw [h9]; rfl, rfl⟩

theorem lineLen_no {n : Nat} (h : ¬(n % 4 = 0 ∧ 28 ≤ n ∧ n ≤ 280)) : lineLen n = false := by
  unfold lineLen
  cases h1 : decide (n % 4 = 0) && (decide (28 ≤ n) && decide (n ≤ 280))
  · rfl
  · simp at h1; exact absurd h1 h
theorem lineLen_yes {n : Nat} (h : n % 4 = 0 ∧ 28 ≤ n ∧ n ≤ 280) : lineLen n = true := by
  unfold lineLen
  rw [decide_eq_true h.1, decide_eq_true h.2.1, decide_eq_true h.2.2]; rfl
theorem lineLen_iff {n : Nat} : lineLen n = true ↔ n % 4 = 0 ∧ 28 ≤ n ∧ n ≤ 280 := by
  constructor
  · intro h
    by_cases h1 : n % 4 = 0 ∧ 28 ≤ n ∧ n ≤ 280
    · exact h1
    · rw [lineLen_no h1] at h; cases h
  · exact lineLen_yes
theorem lineOk_no {xs : List Nat} (h : lineLen xs.length = false) : lineOk xs = false := by unfold lineOk; rw [h]; rfl
theorem lineOk_yes {xs : List Nat} (h : lineLen xs.length = true) : lineOk xs = xs.all fin1 := by unfold lineOk; rw [h]; rfl
theorem lineOk_len {xs : List Nat} (h : lineOk xs = true) : xs.length % 4 = 0 ∧ 28 ≤ xs.length ∧ xs.length ≤ 280 := by
  cases h1 : lineLen xs.length with
  | true => exact lineLen_iff.1 h1
  | false => rw [lineOk_no h1] at h; cases h
theorem lineOk_all {xs : List Nat} (h : lineOk xs = true) : ∀ x ∈ xs, fin1 x = true := by
  have h1 : xs.all fin1 = true := by
    cases h1 : lineLen xs.length with
    | true => rw [lineOk_yes h1] at h; exact h
    | false => rw [lineOk_no h1] at h; cases h
  exact List.all_eq_true.1 h1

theorem l04Head_any (w : World) : Calls Tryz.prog 39 #[] w fun e w' => e = .returned (.int .i64 24) ∧ w = w' := by
  go_enter Tryz.func39, Tryz.ntmps39
  go_wp2
  go_ret
  exact ⟨rfl, rfl⟩
set_option maxHeartbeats 1000000 in
theorem lineOk_any (v : Value) (xs : List Nat) (w : World) (h : FRow w v xs) (hl : xs.length ≤ 4000000) :
    Calls Tryz.prog 127 #[v] w fun e w' => e = .returned (.bool (lineOk xs)) ∧ w = w' := by
  by_cases hm : xs.length % 4 = 0
  · have hmod : (Int.tmod ((xs.length : Int) - 24) 4 != 0) = false := by
      have : Int.tmod ((xs.length : Int) - 24) 4 = 0 := Int.tmod_eq_zero_of_dvd (by omega)
      rw [this]; rfl
    have hmod2 : (((xs.length : Int) - 24) % 4 != 0) = false := by simp; omega
    by_cases hlen : 28 ≤ xs.length ∧ xs.length ≤ 280
    · have HL := Lib.hid (lineOk_yes (lineLen_yes ⟨hm, hlen.1, hlen.2⟩))
      have HA := fun W hr => Lib.hid (allWithin_any v xs W hr (by omega))
      have HR := Lib.hid h
      obtain ⟨a, c, rfl⟩ := h.lenv
      obtain ⟨hl1, hl2⟩ := hlen
      clear h hm
      go_enter Tryz.func127, Tryz.ntmps127
      go_wp2_with fail
      refine (HA _ HR.out).out.mono ?_
      rintro e w1 ⟨rfl, rfl⟩
      go_wp2
      go_ret
      exact ⟨by rw [HL.out]; rfl, rfl⟩
    · have HL := Lib.hid (lineOk_no (xs := xs) (lineLen_no (by omega)))
      obtain ⟨a, c, rfl⟩ := h.lenv
      clear h hm
      by_cases h28 : xs.length < 28
      · clear hlen
        go_enter Tryz.func127, Tryz.ntmps127
        go_wp2
        go_ret
        exact ⟨by rw [HL.out]; rfl, rfl⟩
      · have h280 : 280 < xs.length := by omega
        clear hlen
        go_enter Tryz.func127, Tryz.ntmps127
        go_wp2
        go_ret
        exact ⟨by rw [HL.out]; rfl, rfl⟩
  · have hmod : (Int.tmod ((xs.length : Int) - 24) 4 != 0) = true := by
      simp only [bne_iff_ne]
      intro e
      have := Int.dvd_of_tmod_eq_zero e
      omega
    have hmod2 : (((xs.length : Int) - 24) % 4 != 0) = true := by simp; omega
    have HL := Lib.hid (lineOk_no (xs := xs) (lineLen_no (by omega)))
    obtain ⟨a, c, rfl⟩ := h.lenv
    clear h hm
    go_enter Tryz.func127, Tryz.ntmps127
    go_wp2
    go_ret
    exact ⟨by rw [HL.out]; rfl, rfl⟩
set_option maxHeartbeats 1000000 in
theorem specLineOk_any (v : Value) (xs : List Nat) (w : World) (h : FRow w v xs) (hl : xs.length ≤ 4000000) :
    Calls Tryz.prog 72 #[v] w fun e w' => e = .returned (.bool (lineOk xs)) ∧ w = w' := by
  have HH := fun W => Lib.hid (l04Head_any W)
  by_cases hm : xs.length % 4 = 0
  · have hmod : (Int.tmod ((xs.length : Int) - 24) 4 != 0) = false := by
      have : Int.tmod ((xs.length : Int) - 24) 4 = 0 := Int.tmod_eq_zero_of_dvd (by omega)
      rw [this]; rfl
    have hmod2 : (((xs.length : Int) - 24) % 4 != 0) = false := by simp; omega
    by_cases hlen : 28 ≤ xs.length ∧ xs.length ≤ 280
    · have HL := Lib.hid (lineOk_yes (lineLen_yes ⟨hm, hlen.1, hlen.2⟩))
      have HA := fun W hr => Lib.hid (specFine_any v xs W hr (by omega))
      have HI := fun W => Lib.hid (l01In_any (Int.tdiv ((xs.length : Int) - 24) 4) 1 64 W (by rw [Int.tdiv_eq_ediv_of_nonneg (by omega)]; omega))
      have hdiv : (decide (1 ≤ Int.tdiv ((xs.length : Int) - 24) 4) && decide (Int.tdiv ((xs.length : Int) - 24) 4 ≤ 64)) = true := by
        rw [Int.tdiv_eq_ediv_of_nonneg (by omega), decide_eq_true (by omega), decide_eq_true (by omega)]; rfl
      rw [hdiv] at HI
      have HR := Lib.hid h
      obtain ⟨a, c, rfl⟩ := h.lenv
      clear h hm hdiv hlen
      go_enter Tryz.func72, Tryz.ntmps72
      go_wp2_with fail
      refine (HH _).out.mono ?_
      rintro e w1 ⟨rfl, rfl⟩
      go_wp2_with fail
      refine (HI _).out.mono ?_
      rintro e w1 ⟨rfl, rfl⟩
      go_wp2_with fail
      refine (HA _ HR.out).out.mono ?_
      rintro e w1 ⟨rfl, rfl⟩
      go_wp2
      go_ret
      exact ⟨by rw [HL.out]; rfl, rfl⟩
    · have HL := Lib.hid (lineOk_no (xs := xs) (lineLen_no (by omega)))
      obtain ⟨m, hx⟩ : ∃ m : Nat, xs.length = 4 * m := ⟨xs.length / 4, by omega⟩
      have htd : Int.tdiv ((xs.length : Int) - 24) 4 = (m : Int) - 6 := Int.tdiv_eq_of_eq_mul_right (by decide) (by omega)
      have HI := fun W => Lib.hid (l01In_any (Int.tdiv ((xs.length : Int) - 24) 4) 1 64 W (by rw [htd]; omega))
      have hdiv : (decide (1 ≤ Int.tdiv ((xs.length : Int) - 24) 4) && decide (Int.tdiv ((xs.length : Int) - 24) 4 ≤ 64)) = false := by
        rw [htd]
        cases h1 : decide (1 ≤ (m : Int) - 6) && decide ((m : Int) - 6 ≤ 64)
        · rfl
        · simp at h1; omega
      rw [hdiv] at HI
      obtain ⟨a, c, rfl⟩ := h.lenv
      clear h hm hdiv hlen htd hx
      go_enter Tryz.func72, Tryz.ntmps72
      go_wp2_with fail
      refine (HH _).out.mono ?_
      rintro e w1 ⟨rfl, rfl⟩
      go_wp2_with fail
      refine (HI _).out.mono ?_
      rintro e w1 ⟨rfl, rfl⟩
      go_wp2
      go_ret
      exact ⟨by rw [HL.out]; rfl, rfl⟩
  · have hmod : (Int.tmod ((xs.length : Int) - 24) 4 != 0) = true := by
      simp only [bne_iff_ne]
      intro e
      have := Int.dvd_of_tmod_eq_zero e
      omega
    have hmod2 : (((xs.length : Int) - 24) % 4 != 0) = true := by simp; omega
    have HL := Lib.hid (lineOk_no (xs := xs) (lineLen_no (by omega)))
    obtain ⟨a, c, rfl⟩ := h.lenv
    clear h hm
    go_enter Tryz.func72, Tryz.ntmps72
    go_wp2_with fail
    refine (HH _).out.mono ?_
    rintro e w1 ⟨rfl, rfl⟩
    go_wp2
    go_ret
    exact ⟨by rw [HL.out]; rfl, rfl⟩
end Go.Proofs.YtobpnoiienpipaaGreat

/-
  What is proved: the walks of PulseOf, BurstOf and CellsOf, the program's and the model's.
  Conditions: the list can be read, and has at most 4000000 numbers.
-/
namespace Go.Proofs.YtobpnoiienpipaaGreat
set_option linter.unusedVariables false
open Go.RowKit
attribute [local go_sem] run_store_float run_store_complex unary_negf neg256

/-- The samples of a list from place i on, m of them. -/
def part (xs : List Nat) (i m : Nat) : List Nat := (xs.drop i).take m
theorem part_len (xs : List Nat) (i m : Nat) (h : i + m ≤ xs.length) : (part xs i m).length = m := by simp [part]; omega
theorem part_get (xs : List Nat) (i m k : Nat) (h : k < (part xs i m).length) (h' : i + k < xs.length) : (part xs i m)[k] = xs[i + k] := by simp [part]
def GotF (ys : List Nat) (w : World) (e : Ending) (w' : World) : Prop := ∃ v', e = .returned v' ∧ FNew w' w.heap.size v' ys ∧ Below w.heap.size w w'
theorem GotF.mk {ys : List Nat} {w w' : World} {v' : Value} (h : FNew w' w.heap.size v' ys) (hb : Below w.heap.size w w') : GotF ys w (.returned v') w' := ⟨v', rfl, h, hb⟩
theorem GotF.own {ys : List Nat} {w w' : World} {g n cap : Nat} (hn : ys.length = n) (h : OwnF w' w.heap.size (.slice (some ⟨g, 0, none⟩) n cap) ys) (hb : Below w.heap.size w w') : GotF ys w (.returned (.slice (some ⟨g, 0, none⟩) n cap)) w' := ⟨_, rfl, h.new, hb⟩
theorem FRow.part {w : World} {xs : List Nat} {g o n cap : Nat} (h : FRow w (.slice (some ⟨g, o, none⟩) n cap) xs) (hn : xs.length = n) (i m c : Nat) (hi : i + m ≤ n) (hc : m ≤ c) (h0 : 0 < m) : FRow w (.slice (some ⟨g, o + i, none⟩) m c) (part xs i m) := by
  have hm := part_len xs i m (by omega)
  rcases h with ⟨⟨a, c', e⟩, h1⟩ | ⟨g', o', cap', e, hcap, hcell⟩
  · subst h1; simp at hn; omega
  · cases e
    refine .inr ⟨g, o + i, c, by rw [hm], by omega, fun k hk => ?_⟩
    rw [part_get xs i m k hk (by omega), Nat.add_assoc]
    exact hcell (i + k) (by omega)

theorem eql_nil (w : World) (a : Option Addr) (l c : Nat) : (binOp .eql 31 (.slice a l c) (.slice none 0 0)).run Tryz.prog w = .ok (.bool a.isNone) w := by
  simp only [binOp]
  simp [run_equal_slice_nil w 31 25 a l c Tryz.underlying31]
set_option maxHeartbeats 1000000 in
set_option maxRecDepth 100000 in
theorem cloneF_any (v : Value) (xs : List Nat) (w : World) (h : FRow w v xs) (h0 : 0 < xs.length) (hl : xs.length ≤ 4000000) :
    Calls Tryz.prog 93 #[v] w fun e w' => GotF xs w e w' := by
  rcases h with ⟨_, h1⟩ | ⟨g, o, cap, rfl, hcap, hcell⟩
  · subst h1; simp at h0
  · have HO := Lib.hid (OwnF.made0 w)
    have HB := Lib.hid ((Below.refl w.heap.size w).alloc (Nat.le_refl _) (.cells #[] 25))
    have HC := Lib.hid (fun i (hi : i < xs.length) => (show (w.alloc (.cells #[] 25)).cell? ⟨g, o + i, none⟩ = some (.float .f32 xs[i]) from (grown_of HB.out).cell (hcell i hi) (by simp)))
    have hnil : ∀ W, (binOp .eql 31 (.slice (some ⟨g, o, none⟩) xs.length cap) (.slice none 0 0)).run Tryz.prog W = .ok (.bool false) W := fun W => eql_nil W (some ⟨g, o, none⟩) xs.length cap
    clear hcell
    go_enter Tryz.func93, Tryz.ntmps93
    go_wp2_with (at_builtin; refine ownF_append rfl (.tmp 5) (.tmp 6) rfl w.heap.size _ [] xs rfl HO.out _ _ _ rfl HC.out h0 (by simp; omega) (by simp) ?_; intro g6 cap6 w6 ho6 hg6 hor6 hlt6)
    have HO6 := Lib.hid (show OwnF w6 w.heap.size (.slice (some ⟨g6, 0, none⟩) xs.length cap6) xs by simpa using ho6)
    have HB6 := Lib.hid (HB.out.grown hg6 HB.out.size (fun k hk => (HO.out.lt k hk).1))
    clear ho6 hg6 hor6
    go_wp2
    go_ret
    exact GotF.own rfl HO6.out HB6.out

theorem pulse_any (g o n cap : Nat) (w : World) (hn : 8 ≤ n) (hc : n ≤ cap) (hl : n ≤ 4000000) :
    Calls Tryz.prog 113 #[.slice (some ⟨g, o, none⟩) n cap] w fun e w' => e = .returned (.slice (some ⟨g, o, none⟩) 8 8) ∧ w = w' := by
  go_enter Tryz.func113, Tryz.ntmps113
  go_wp2
  go_ret
  exact ⟨rfl, rfl⟩
theorem burst_any (g o n cap : Nat) (w : World) (hn : 24 ≤ n) (hc : n ≤ cap) (hl : n ≤ 4000000) :
    Calls Tryz.prog 115 #[.slice (some ⟨g, o, none⟩) n cap] w fun e w' => e = .returned (.slice (some ⟨g, o + 8, none⟩) 16 16) ∧ w = w' := by
  go_enter Tryz.func115, Tryz.ntmps115
  go_wp2
  go_ret
  exact ⟨rfl, rfl⟩
theorem cells_any (g o n cap : Nat) (w : World) (hn : 28 ≤ n) (hc : n ≤ cap) (hl : n ≤ 4000000) :
    Calls Tryz.prog 118 #[.slice (some ⟨g, o, none⟩) n cap] w fun e w' => e = .returned (.slice (some ⟨g, o + 24, none⟩) (n - 24) (n - 24)) ∧ w = w' := by
  go_enter Tryz.func118, Tryz.ntmps118
  go_wp2
  go_ret
  exact ⟨rfl, rfl⟩
/-- The part of a line that a walk answers: nothing, if the line is not valid. -/
def lpart (xs : List Nat) (i m : Nat) : List Nat := if lineOk xs = true then part xs i m else []
theorem lpart_yes {xs : List Nat} (h : lineOk xs = true) (i m : Nat) : lpart xs i m = part xs i m := if_pos h
theorem lpart_no {xs : List Nat} (h : lineOk xs = false) (i m : Nat) : lpart xs i m = [] := if_neg (by rw [h]; decide)
theorem lpart_le (xs : List Nat) (i m : Nat) : (lpart xs i m).length ≤ xs.length := by
  unfold lpart part
  split
  · simp; omega
  · simp
/-- What a walk that cuts a line answers. -/
def CutsF (k : FuncId) (i : Nat) (m : Nat → Nat) : Prop := ∀ (g o n cap : Nat) (W : World), 28 ≤ n → n ≤ cap → n ≤ 4000000 →
  Calls Tryz.prog k #[.slice (some ⟨g, o, none⟩) n cap] W fun e w' => e = .returned (.slice (some ⟨g, o + i, none⟩) (m n) (m n)) ∧ W = w'
theorem cells_cuts : CutsF 118 24 (fun n => n - 24) := fun g o n cap W hn hc hl => cells_any g o n cap W (by omega) hc hl
set_option maxHeartbeats 1000000 in
set_option maxRecDepth 100000 in
theorem partOf_cells (v : Value) (xs : List Nat) (w : World) (h : FRow w v xs) (hl : xs.length ≤ 4000000) :
    Calls Tryz.prog 179 #[v, .func (.func 118) #[] #[]] w fun e w' => GotF (lpart xs 24 (xs.length - 24)) w e w' := by
  have HO := Lib.hid (lineOk_any v xs w h hl)
  cases ho : lineOk xs with
  | false =>
    rw [ho] at HO
    rw [lpart_no ho]
    clear h ho
    go_enter Tryz.func179, Tryz.ntmps179
    go_wp2_with fail
    refine HO.out.mono ?_
    rintro e w1 ⟨rfl, rfl⟩
    go_wp2
    go_ret
    exact GotF.mk (FNew.nil _ _) (Below.refl _ _)
  | true =>
    rw [ho] at HO
    rw [lpart_yes ho]
    have hlen := lineOk_len ho
    rcases h with ⟨_, h1⟩ | ⟨g, o, cap, rfl, hcap, hcell⟩
    · subst h1; simp at hlen
    · have hpos : 24 + (xs.length - 24) ≤ xs.length ∧ 0 < (xs.length - 24) := by have := hlen.2.1; constructor <;> omega
      have HR := Lib.hid (FRow.part (.inr ⟨g, o, cap, rfl, hcap, hcell⟩) rfl 24 (xs.length - 24) (xs.length - 24) hpos.1 (Nat.le_refl _) hpos.2)
      have hpl := part_len xs 24 (xs.length - 24) hpos.1
      have HCL := fun hr => Lib.hid (cloneF_any (.slice (some ⟨g, o + 24, none⟩) (xs.length - 24) (xs.length - 24)) (part xs 24 (xs.length - 24)) w hr (by omega) (by omega))
      have HK := Lib.hid (cells_cuts g o xs.length cap w hlen.2.1 hcap hl)
      clear hcell ho hpos hpl hlen
      go_enter Tryz.func179, Tryz.ntmps179
      go_wp2_with fail
      refine HO.out.mono ?_
      rintro e w1 ⟨rfl, rfl⟩
      go_wp2_with fail
      refine HK.out.mono ?_
      rintro e w1 ⟨rfl, rfl⟩
      go_wp2_with fail
      refine (HCL HR.out).out.mono ?_
      rintro e w1 ⟨v', rfl, hn', hb'⟩
      have HN := Lib.hid hn'
      clear hn'
      go_wp2
      go_ret
      exact GotF.mk HN.out hb'
set_option maxRecDepth 100000 in
theorem cellsOf_any (v : Value) (xs : List Nat) (w : World) (h : FRow w v xs) (hl : xs.length ≤ 4000000) :
    Calls Tryz.prog 174 #[v] w fun e w' => GotF (lpart xs 24 (xs.length - 24)) w e w' := by
  have HP := Lib.hid (partOf_cells v xs w h hl)
  go_enter Tryz.func174, Tryz.ntmps174
  go_wp2_with fail
  refine HP.out.mono ?_
  rintro e w1 ⟨v', rfl, hn', hb'⟩
  have HN := Lib.hid hn'
  clear hn'
  go_wp2
  go_ret
  exact GotF.mk HN.out hb'
set_option maxHeartbeats 1000000 in
set_option maxRecDepth 100000 in
theorem specPart_any (i m : Nat) (v : Value) (xs : List Nat) (w : World) (h : FRow w v xs) (hl : xs.length ≤ 4000000) (hm : 28 ≤ xs.length → i + m ≤ xs.length ∧ 0 < m) :
    Calls Tryz.prog 134 #[v, .int .i64 (i : Int), .int .i64 ((i + m : Nat) : Int)] w fun e w' => GotF (lpart xs i m) w e w' := by
  have HO := Lib.hid (specLineOk_any v xs w h hl)
  have HOW := Lib.hid (OwnF.made0 w)
  have HB := Lib.hid ((Below.refl w.heap.size w).alloc (Nat.le_refl _) (.cells #[] 25))
  cases ho : lineOk xs with
  | false =>
    rw [ho] at HO
    rw [lpart_no ho]
    clear h ho hm
    go_enter Tryz.func134, Tryz.ntmps134
    go_wp2_with fail
    refine HO.out.mono ?_
    rintro e w1 ⟨rfl, rfl⟩
    go_wp2
    go_ret
    exact GotF.own rfl HOW.out HB.out
  | true =>
    rw [ho] at HO
    rw [lpart_yes ho]
    have hlen := lineOk_len ho
    rcases h with ⟨_, h1⟩ | ⟨g, o, cap, rfl, hcap, hcell⟩
    · subst h1; simp at hlen
    · obtain ⟨hp1, hp2⟩ := hm hlen.2.1
      have HPL := Lib.hid (part_len xs i m hp1)
      have HC := Lib.hid (fun j (hj : j < (part xs i m).length) => (show (w.alloc (.cells #[] 25)).cell? ⟨g, o + i + j, none⟩ = some (.float .f32 (part xs i m)[j]) from by
        rw [part_get xs i m j hj (by have := HPL.out; omega), Nat.add_assoc]
        exact (grown_of HB.out).cell (hcell (i + j) (by have := HPL.out; omega)) (by simp)))
      clear hcell hm ho hlen
      generalize part xs i m = ys at *
      go_enter Tryz.func134, Tryz.ntmps134
      go_wp2_with fail
      refine HO.out.mono ?_
      rintro e w1 ⟨rfl, rfl⟩
      go_wp2_with (at_builtin; refine ownF_append rfl (.tmp 11) (.tmp 15) rfl w.heap.size _ [] ys rfl HOW.out g (o + i) (cap - i) (by rw [HPL.out]; show Value.slice _ (i + m - i) _ = _; rw [Nat.add_sub_cancel_left]) HC.out (by have := HPL.out; omega) (by have := HPL.out; simp; omega) (by simp) ?_; intro g6 cap6 w6 ho6 hg6 hor6 hlt6)
      have HO6 := Lib.hid (show OwnF w6 w.heap.size (.slice (some ⟨g6, 0, none⟩) ys.length cap6) ys by simpa using ho6)
      have HB6 := Lib.hid (HB.out.grown hg6 HB.out.size (fun k hk => (HOW.out.lt k hk).1))
      clear ho6 hg6 hor6
      go_wp2
      go_ret
      exact GotF.own rfl HO6.out HB6.out
theorem specPartNo_any (i j : Int) (v : Value) (xs : List Nat) (w : World) (h : FRow w v xs) (hl : xs.length ≤ 4000000) (ho : lineOk xs = false) :
    Calls Tryz.prog 134 #[v, .int .i64 i, .int .i64 j] w fun e w' => GotF [] w e w' := by
  have HO := Lib.hid (specLineOk_any v xs w h hl)
  have HOW := Lib.hid (OwnF.made0 w)
  have HB := Lib.hid ((Below.refl w.heap.size w).alloc (Nat.le_refl _) (.cells #[] 25))
  rw [ho] at HO
  clear h ho
  go_enter Tryz.func134, Tryz.ntmps134
  go_wp2_with fail
  refine HO.out.mono ?_
  rintro e w1 ⟨rfl, rfl⟩
  go_wp2
  go_ret
  exact GotF.own rfl HOW.out HB.out
theorem specPulse_any (v : Value) (xs : List Nat) (w : World) (h : FRow w v xs) (hl : xs.length ≤ 4000000) :
    Calls Tryz.prog 101 #[v] w fun e w' => GotF (lpart xs 0 8) w e w' := by
  have HP := Lib.hid (specPart_any 0 8 v xs w h hl (by omega))
  go_enter Tryz.func101, Tryz.ntmps101
  go_wp2_with fail
  refine HP.out.mono ?_
  rintro e w1 ⟨v', rfl, hn', hb'⟩
  have HN := Lib.hid hn'
  clear hn'
  go_wp2
  go_ret
  exact GotF.mk HN.out hb'
theorem specBurst_any (v : Value) (xs : List Nat) (w : World) (h : FRow w v xs) (hl : xs.length ≤ 4000000) :
    Calls Tryz.prog 102 #[v] w fun e w' => GotF (lpart xs 8 16) w e w' := by
  have HP := Lib.hid (specPart_any 8 16 v xs w h hl (by omega))
  have HH := fun W => Lib.hid (l04Head_any W)
  go_enter Tryz.func102, Tryz.ntmps102
  go_wp2_with fail
  refine (HH _).out.mono ?_
  rintro e w1 ⟨rfl, rfl⟩
  go_wp2_with fail
  refine HP.out.mono ?_
  rintro e w1 ⟨v', rfl, hn', hb'⟩
  have HN := Lib.hid hn'
  clear hn'
  go_wp2
  go_ret
  exact GotF.mk HN.out hb'
theorem specCells_any (v : Value) (xs : List Nat) (w : World) (h : FRow w v xs) (hl : xs.length ≤ 4000000) :
    Calls Tryz.prog 136 #[v] w fun e w' => GotF (lpart xs 24 (xs.length - 24)) w e w' := by
  by_cases h28 : 28 ≤ xs.length
  · have HP := Lib.hid (specPart_any 24 (xs.length - 24) v xs w h hl (by omega))
    rw [show ((24 + (xs.length - 24) : Nat) : Int) = (xs.length : Int) by omega] at HP
    have HH := fun W => Lib.hid (l04Head_any W)
    obtain ⟨a, c, rfl⟩ := h.lenv
    clear h
    go_enter Tryz.func136, Tryz.ntmps136
    go_wp2_with fail
    refine (HH _).out.mono ?_
    rintro e w1 ⟨rfl, rfl⟩
    go_wp2_with fail
    refine HP.out.mono ?_
    rintro e w1 ⟨v', rfl, hn', hb'⟩
    have HN := Lib.hid hn'
    clear hn'
    go_wp2
    go_ret
    exact GotF.mk HN.out hb'
  · have ho : lineOk xs = false := lineOk_no (lineLen_no (by omega))
    have HP := Lib.hid (specPartNo_any 24 xs.length v xs w h hl ho)
    rw [lpart_no ho]
    have HH := fun W => Lib.hid (l04Head_any W)
    obtain ⟨a, c, rfl⟩ := h.lenv
    clear h
    go_enter Tryz.func136, Tryz.ntmps136
    go_wp2_with fail
    refine (HH _).out.mono ?_
    rintro e w1 ⟨rfl, rfl⟩
    go_wp2_with fail
    refine HP.out.mono ?_
    rintro e w1 ⟨v', rfl, hn', hb'⟩
    have HN := Lib.hid hn'
    clear hn'
    go_wp2
    go_ret
    exact GotF.mk HN.out hb'
end Go.Proofs.YtobpnoiienpipaaGreat
