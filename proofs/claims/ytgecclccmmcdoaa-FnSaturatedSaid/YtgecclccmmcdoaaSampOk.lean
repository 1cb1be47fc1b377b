/-
  What is proved: the walks of SamplesOk, the program's and the model's.
  Conditions: the list can be read, and has at most 4000000 numbers.
-/
import Derived.Test.YtgecclccmmcdoaaPkLine
namespace Go.Proofs.Ytgecclccmmcdoaa
set_option linter.unusedVariables false
open Go.RowKit
attribute [local go_sem] run_store_float run_store_complex unary_negf neg256 neg1024
attribute [local go_sem] geq_lo1 leq_lo1 leq_hi1

def sampLen (n : Nat) : Bool := decide (n % 4 = 0) && (decide (4 ≤ n) && decide (n ≤ 4096))
/-- Are samples valid? -/
def sampOk (xs : List Nat) : Bool := sampLen xs.length && xs.all fin1
theorem sampLen_iff {n : Nat} : sampLen n = true ↔ n % 4 = 0 ∧ 4 ≤ n ∧ n ≤ 4096 := by
  unfold sampLen
  simp [and_assoc]
theorem sampLen_no {n : Nat} (h : ¬(n % 4 = 0 ∧ 4 ≤ n ∧ n ≤ 4096)) : sampLen n = false := by
  cases h1 : sampLen n with
  | false => rfl
  | true => exact absurd (sampLen_iff.1 h1) h
theorem sampOk_no {xs : List Nat} (h : sampLen xs.length = false) : sampOk xs = false := by unfold sampOk; rw [h]; rfl
theorem sampOk_yes {xs : List Nat} (h : sampLen xs.length = true) : sampOk xs = xs.all fin1 := by unfold sampOk; rw [h]; rfl
theorem sampOk_len {xs : List Nat} (h : sampOk xs = true) : xs.length % 4 = 0 ∧ 4 ≤ xs.length ∧ xs.length ≤ 4096 := by
  cases h1 : sampLen xs.length with
  | true => exact sampLen_iff.1 h1
  | false => rw [sampOk_no h1] at h; cases h
theorem sampOk_all {xs : List Nat} (h : sampOk xs = true) : ∀ x ∈ xs, fin1 x = true := by
  have h1 : xs.all fin1 = true := by
    cases h1 : sampLen xs.length with
    | true => rw [sampOk_yes h1] at h; exact h
    | false => rw [sampOk_no h1] at h; cases h
  exact List.all_eq_true.1 h1
theorem sampOk_mk {xs : List Nat} (h : xs.length % 4 = 0 ∧ 4 ≤ xs.length ∧ xs.length ≤ 4096) (h' : ∀ x ∈ xs, fin1 x = true) : sampOk xs = true := by
  rw [sampOk_yes (sampLen_iff.2 h)]
  exact List.all_eq_true.2 h'
set_option maxHeartbeats 1000000 in
theorem samplesOk_any (v : Value) (xs : List Nat) (w : World) (h : FRow w v xs) (hl : xs.length ≤ 4000000) :
    Calls Try.prog 95 #[v] w fun e w' => e = .returned (.bool (sampOk xs)) ∧ w = w' := by
  by_cases h4 : xs.length < 4
  · have HL := Lib.hid (sampOk_no (xs := xs) (sampLen_no (by omega)))
    obtain ⟨a, c, rfl⟩ := h.lenv
    clear h
    go_enter Try.func95, Try.ntmps95
    go_wp2
    go_ret
    exact ⟨by rw [HL.out]; rfl, rfl⟩
  · by_cases h40 : 4096 < xs.length
    · have HL := Lib.hid (sampOk_no (xs := xs) (sampLen_no (by omega)))
      obtain ⟨a, c, rfl⟩ := h.lenv
      clear h
      go_enter Try.func95, Try.ntmps95
      go_wp2
      go_ret
      exact ⟨by rw [HL.out]; rfl, rfl⟩
    · by_cases hm : xs.length % 4 = 0
      · have hmod : (Int.tmod (xs.length : Int) 4 == 0) = true := by
          have : Int.tmod (xs.length : Int) 4 = 0 := Int.tmod_eq_zero_of_dvd (by omega)
          rw [this]; rfl
        have hmod2 : ((xs.length : Int) % 4 == 0) = true := by simp; omega
        have HL := Lib.hid (sampOk_yes (sampLen_iff.2 ⟨hm, by omega, by omega⟩))
        have HA := fun W hr => Lib.hid (allWithin_any v xs W hr (by omega))
        have HR := Lib.hid h
        obtain ⟨a, c, rfl⟩ := h.lenv
        clear h hm
        go_enter Try.func95, Try.ntmps95
        go_wp2_with fail
        refine (HA _ HR.out).out.mono ?_
        rintro e w1 ⟨rfl, rfl⟩
        go_wp2
        go_ret
        exact ⟨by rw [HL.out]; rfl, rfl⟩
      · have hmod : (Int.tmod (xs.length : Int) 4 == 0) = false := by
          simp only [beq_eq_false_iff_ne, ne_eq]
          intro e
          have := Int.dvd_of_tmod_eq_zero e
          omega
        have hmod2 : ((xs.length : Int) % 4 == 0) = false := by simp; omega
        have HL := Lib.hid (sampOk_no (xs := xs) (sampLen_no (by omega)))
        obtain ⟨a, c, rfl⟩ := h.lenv
        clear h hm
        go_enter Try.func95, Try.ntmps95
        go_wp2
        go_ret
        exact ⟨by rw [HL.out]; rfl, rfl⟩
set_option maxHeartbeats 1000000 in
theorem specSamplesOk_any (v : Value) (xs : List Nat) (w : World) (h : FRow w v xs) (hl : xs.length ≤ 4000000) :
    Calls Try.prog 151 #[v] w fun e w' => e = .returned (.bool (sampOk xs)) ∧ w = w' := by
  have HI := fun W => Lib.hid (l01In_any (xs.length : Int) 4 4096 W (⟨by omega, by omega⟩))
  by_cases hin : 4 ≤ xs.length ∧ xs.length ≤ 4096
  · have hd : (decide ((4 : Int) ≤ xs.length) && decide ((xs.length : Int) ≤ 4096)) = true := by simp; omega
    rw [hd] at HI
    by_cases hm : xs.length % 4 = 0
    · have hmod : (Int.tmod (xs.length : Int) 4 == 0) = true := by
        have : Int.tmod (xs.length : Int) 4 = 0 := Int.tmod_eq_zero_of_dvd (by omega)
        rw [this]; rfl
      have hmod2 : ((xs.length : Int) % 4 == 0) = true := by simp; omega
      have HL := Lib.hid (sampOk_yes (sampLen_iff.2 ⟨hm, hin.1, hin.2⟩))
      have HA := fun W hr => Lib.hid (specFine_any v xs W hr (by omega))
      have HR := Lib.hid h
      obtain ⟨a, c, rfl⟩ := h.lenv
      clear h hm hd hin
      go_enter Try.func151, Try.ntmps151
      go_wp2_with fail
      refine (HI _).out.mono ?_
      rintro e w1 ⟨rfl, rfl⟩
      go_wp2_with fail
      refine (HA _ HR.out).out.mono ?_
      rintro e w1 ⟨rfl, rfl⟩
      go_wp2
      go_ret
      exact ⟨by rw [HL.out]; rfl, rfl⟩
    · have hmod : (Int.tmod (xs.length : Int) 4 == 0) = false := by
        simp only [beq_eq_false_iff_ne, ne_eq]
        intro e
        have := Int.dvd_of_tmod_eq_zero e
        omega
      have hmod2 : ((xs.length : Int) % 4 == 0) = false := by simp; omega
      have HL := Lib.hid (sampOk_no (xs := xs) (sampLen_no (by omega)))
      obtain ⟨a, c, rfl⟩ := h.lenv
      clear h hm hd hin
      go_enter Try.func151, Try.ntmps151
      go_wp2_with fail
      refine (HI _).out.mono ?_
      rintro e w1 ⟨rfl, rfl⟩
      go_wp2
      go_ret
      exact ⟨by rw [HL.out]; rfl, rfl⟩
  · have hd : (decide ((4 : Int) ≤ xs.length) && decide ((xs.length : Int) ≤ 4096)) = false := by
      cases h1 : (decide ((4 : Int) ≤ xs.length) && decide ((xs.length : Int) ≤ 4096)) with
      | false => rfl
      | true => simp at h1; omega
    rw [hd] at HI
    have HL := Lib.hid (sampOk_no (xs := xs) (sampLen_no (by omega)))
    obtain ⟨a, c, rfl⟩ := h.lenv
    clear h hd hin
    go_enter Try.func151, Try.ntmps151
    go_wp2_with fail
    refine (HI _).out.mono ?_
    rintro e w1 ⟨rfl, rfl⟩
    go_wp2
    go_ret
    exact ⟨by rw [HL.out]; rfl, rfl⟩
end Go.Proofs.Ytgecclccmmcdoaa
