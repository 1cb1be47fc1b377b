/-
  What is proved: the lines that are made of what a link carries are low in their pulses alone.
  Conditions: those that each fact names.
-/
import Derived.Test.YtmelnpimoiipgaaPicL
import Derived.Test.YtmelnpimoiipgaaCutJ
import Derived.Test.YtmelnpimoiipgaaPkMake
import Derived.Test.YtmelnpimoiipgaaPlainOk
namespace Go.Proofs.Ytmelnpimoiipgaa
set_option linter.unusedVariables false
open Go.RowKit

def under16 (x : Nat) : Bool := Ieee.single.order x 1098907648 == some .lt
/-- A cell whose brightness is raised to 16. -/
def upC (c : C3) : C3 := if under16 c.1 = true then (1098907648, c.2) else c
theorem upC_yes {c : C3} (h : under16 c.1 = true) : upC c = (1098907648, c.2) := if_pos h
theorem upC_no {c : C3} (h : under16 c.1 = false) : upC c = c := if_neg (by rw [h]; decide)
def HighC (c : C3) : Prop := ∃ a b d : Int, Flt.Sx c.1 a ∧ Flt.Sx c.2.1 b ∧ Flt.Sx c.2.2 d ∧ (256 ≤ a ∧ a ≤ 960) ∧ b.natAbs ≤ 32 ∧ d.natAbs ≤ 32
theorem sx16 : Flt.Sx 1098907648 256 := Flt.Q.sx (Flt.q_word (by decide) (show Ieee.single.read 1098907648 = .number false 8388608 (-19) by decide +kernel) (by decide +kernel))
theorem sxn40 : Flt.Sx 3256877056 (-640) := Flt.Q.sx (Flt.q_word (by decide) (show Ieee.single.read 3256877056 = .number true 10485760 (-18) by decide +kernel) (by decide +kernel))
theorem LinkC.high {c : C3} (h : LinkC c) : HighC (upC c) := by
  obtain ⟨a, b, d, h1, h2, h3, h4, h5, h6⟩ := h
  have ho : Ieee.single.order c.1 1098907648 = some (compare a 256) := h1.q.order sx16.q
  by_cases e : a < 256
  · rw [upC_yes (by unfold under16; rw [ho, Flt.cmp_lt e]; rfl)]
    exact ⟨256, b, d, sx16, h2, h3, ⟨by omega, by omega⟩, h5, h6⟩
  · have hn : under16 c.1 = false := by
      unfold under16
      rw [ho]
      rcases Int.lt_or_eq_of_le (Int.not_lt.1 e) with h | h
      · rw [Flt.cmp_gt h]; rfl
      · rw [Flt.cmp_eq h.symm]; rfl
    rw [upC_no hn]
    exact ⟨a, b, d, h1, h2, h3, ⟨by omega, by omega⟩, h5, h6⟩
theorem HighC.cj {c : C3} (h : HighC c) : HighC (cj c) := by
  obtain ⟨a, b, d, h1, h2, h3, h4, h5, h6⟩ := h
  exact ⟨a, b, -d, h1, h2, h3.neg, h4, h5, by omega⟩
theorem high_plain {cs : List C3} (h : ∀ c ∈ cs, HighC c) : PlainR cs := fun c hc => by
  obtain ⟨a, b, d, h1, h2, h3, h4, h5, h6⟩ := h c hc
  exact ⟨a, b, d, h1, h2, h3, by omega, by omega, by omega⟩
theorem leb_high {x : Nat} {a : Int} (h : Flt.Sx x a) (ha : -640 < a) : leb x 3256877056 = false := by
  have ho : Ieee.single.order x 3256877056 = some (compare a (-640)) := h.q.order sxn40.q
  unfold leb
  rw [ho, Flt.cmp_gt ha]
  rfl
theorem leb_pulse : leb 3263168512 3256877056 = true := by decide +kernel
theorem leb_zero : leb 0 3256877056 = false := by decide +kernel
theorem enc4_high {c : C3} (h : HighC c) : ∀ x ∈ enc4 c, leb x 3256877056 = false := by
  obtain ⟨a, b, d, h1, h2, h3, h4, h5, h6⟩ := h
  intro x hx
  unfold enc4 at hx
  simp only [List.mem_cons, List.not_mem_nil, or_false] at hx
  rcases hx with rfl | rfl | rfl | rfl
  · exact leb_high (sx_addv h1 h2 (by omega)) (by omega)
  · exact leb_high (sx_addv h1 h3.neg (by omega)) (by omega)
  · exact leb_high (sx_addv h1 h2.neg (by omega)) (by omega)
  · exact leb_high (sx_addv h1 h3 (by omega)) (by omega)
theorem enc_high {cs : List C3} (h : ∀ c ∈ cs, HighC c) (odd : Bool) : ∀ x ∈ enc (oddRow cs odd), leb x 3256877056 = false := by
  intro x hx
  unfold enc at hx
  obtain ⟨c, hc, hx⟩ := List.mem_flatMap.1 hx
  refine enc4_high ?_ x hx
  unfold oddRow at hc
  split at hc
  · obtain ⟨e, he, rfl⟩ := List.mem_map.1 hc
    exact (h e he).cj
  · exact h c hc
theorem burst_high (odd : Bool) : ∀ x ∈ enc (oddRow (bcells 4) odd), leb x 3256877056 = false := by
  cases odd <;> decide +kernel
/-- A line is low in its pulse alone. -/
theorem lineL_low {cs : List C3} (h : ∀ c ∈ cs, HighC c) (odd : Bool) (t : Nat) (ht : t < 24 + 4 * cs.length) : leb ((lineL cs odd).getD t 0) 3256877056 = decide (t < 8) := by
  have hlen := lineL_len cs odd
  have ht' : t < (lineL cs odd).length := by omega
  unfold lineL at ht' ⊢
  rw [List.append_assoc] at ht' ⊢
  by_cases h8 : t < 8
  · rw [decide_eq_true h8, List.getD_eq_getElem?_getD, List.getElem?_append_left (by rw [List.length_replicate]; exact h8), List.getElem?_replicate, if_pos h8]
    exact leb_pulse
  · rw [decide_eq_false h8, getD_lt ht']
    have hm : ((List.replicate 8 3263168512) ++ (enc (oddRow (bcells 4) odd) ++ enc (oddRow cs odd)))[t] ∈ enc (oddRow (bcells 4) odd) ++ enc (oddRow cs odd) := by
      rw [List.getElem_append_right (by rw [List.length_replicate]; omega)]
      exact List.getElem_mem _
    rcases List.mem_append.1 hm with h1 | h1
    · exact burst_high odd _ h1
    · exact enc_high h odd _ h1
end Go.Proofs.Ytmelnpimoiipgaa
