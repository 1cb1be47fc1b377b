/-
  What is proved: the walk of the law FnBurstsSwing.
  Conditions: none beyond the argument's own.
-/
import Derived.Test.YtgecclccmmcdoaaPkMake
import Derived.Test.YtgecclccmmcdoaaPkBS
import Derived.Test.YtgecclccmmcdoaaPlain
namespace Go.Proofs.Ytgecclccmmcdoaa
set_option linter.unusedVariables false
open Go.RowKit
open Flt (Mag sumv subv mulv quov)
attribute [local go_sem] run_store_float run_store_complex unary_negf neg256

abbrev m16 : Nat := 3246391296
abbrev p16 : Nat := 1098907648
theorem num_k : Flt.Num Ieee.single 1149239296 false (2 ^ 159) := ⟨8388608, -13, by decide +kernel, by decide, by rw [Flt.place32]; decide +kernel⟩
theorem num_nk : Flt.Num Ieee.single 3296722944 true (2 ^ 159) := ⟨8388608, -13, by decide +kernel, by decide, by rw [Flt.place32]; decide +kernel⟩
theorem fin_fin1 {x : Nat} (h : Flt.fin x = true) : fin1 x = true := by
  obtain ⟨s, u, hx, hu⟩ := Flt.fin_of h
  have hu2 : u ≤ 2 ^ 159 := Nat.le_trans hu (by unfold Flt.LIM; decide +kernel)
  unfold fin1 lo1 hi1
  rw [Flt.le_iff num_nk hx, Flt.le_iff hx num_k]
  have h1 : Flt.sg true (2 ^ 159) ≤ Flt.sg s u := by
    unfold Flt.sg; cases s <;> simp only [Bool.false_eq_true, if_true, if_false] <;> omega
  have h2 : Flt.sg s u ≤ Flt.sg false (2 ^ 159) := by
    unfold Flt.sg; cases s <;> simp only [Bool.false_eq_true, if_true, if_false] <;> omega
  rw [decide_eq_true h1, decide_eq_true h2]; rfl
theorem PC.enc {c : C3} {a b d : Int} (h : PC c a b d) : ∀ x ∈ enc4 c, Flt.fin x = true := by
  obtain ⟨h1, h2, h3, ha, hb, hd⟩ := h
  intro x hx
  simp only [enc4, List.mem_cons, List.not_mem_nil, or_false] at hx
  rcases hx with rfl | rfl | rfl | rfl
  · exact (sx_addv h1 h2 (by omega)).fin (by omega)
  · exact (sx_addv h1 h3.neg (by omega)).fin (by omega)
  · exact (sx_addv h1 h2.neg (by omega)).fin (by omega)
  · exact (sx_addv h1 h3 (by omega)).fin (by omega)
theorem PlainR.enc {cs : List C3} (h : PlainR cs) : ∀ x ∈ enc cs, fin1 x = true := by
  intro x hx
  obtain ⟨c, hc, hx⟩ := List.mem_flatMap.1 hx
  obtain ⟨a, b, d, hp⟩ := h c hc
  exact fin_fin1 (hp.enc x hx)
theorem PlainR.odd {cs : List C3} (h : PlainR cs) (o : Bool) : PlainR (oddRow cs o) := by
  unfold oddRow
  split
  · exact h.cj
  · exact h
theorem bursts_even : enc (oddRow (bcells 4) false) = [m16, m16, p16, p16, m16, m16, p16, p16, m16, m16, p16, p16, m16, m16, p16, p16] := by decide +kernel
theorem bursts_odd : enc (oddRow (bcells 4) true) = [m16, p16, p16, m16, m16, p16, p16, m16, m16, p16, p16, m16, m16, p16, p16, m16] := by decide +kernel
theorem bursts_fin (odd : Bool) : ∀ x ∈ enc (oddRow (bcells 4) odd), fin1 x = true := by
  cases odd
  · rw [bursts_even]; decide +kernel
  · rw [bursts_odd]; decide +kernel
theorem lineL_ok {cs : List C3} (h : PlainR cs) (h1 : 1 ≤ cs.length) (h2 : cs.length ≤ 64) (odd : Bool) : lineOk (lineL cs odd) = true := by
  rw [lineOk_yes (lineLen_yes ⟨by rw [lineL_len]; omega, by rw [lineL_len]; omega, by rw [lineL_len]; omega⟩)]
  refine List.all_eq_true.2 fun x hx => ?_
  unfold lineL at hx
  rw [List.mem_append, List.mem_append] at hx
  rcases hx with (hx | hx) | hx
  · obtain ⟨_, rfl⟩ := List.mem_replicate.1 hx
    decide +kernel
  · exact bursts_fin odd x hx
  · exact (h.odd odd).enc x hx
theorem lineL_part (cs : List C3) (odd : Bool) : part (lineL cs odd) 8 16 = enc (oddRow (bcells 4) odd) := by
  have hB : (enc (oddRow (bcells 4) odd)).length = 16 := by rw [enc_len, oddRow_len, bcells_len]
  unfold part lineL
  generalize enc (oddRow (bcells 4) odd) = B at *
  rw [List.append_assoc, List.drop_left' (by simp), List.take_left' hB]
theorem dec_even {c : C3} (h : DecR m16 m16 p16 p16 c) : c = (0, m16, p16) := by
  obtain ⟨⟨r1, r2, r3, a1, a2, a3, a4⟩, ⟨d1, b1, b2⟩, ⟨d2, e1, e2⟩, _⟩ := h
  have k1 := a1.is (r' := 3254779904) (by decide +kernel)
  subst k1
  have k2 := a2.is (r' := 3246391296) (by decide +kernel)
  subst k2
  have k3 := a3.is (r' := 0) (by decide +kernel)
  subst k3
  have k4 := a4.is (r' := 0) (by decide +kernel)
  have l1 := b1.is (r' := 3254779904) (by decide +kernel)
  subst l1
  have l2 := b2.is (r' := m16) (by decide +kernel)
  have n1 := e1.is (r' := 1107296256) (by decide +kernel)
  subst n1
  have n2 := e2.is (r' := p16) (by decide +kernel)
  exact Prod.ext k4 (Prod.ext l2 n2)
theorem dec_odd {c : C3} (h : DecR m16 p16 p16 m16 c) : c = (0, m16, m16) := by
  obtain ⟨⟨r1, r2, r3, a1, a2, a3, a4⟩, ⟨d1, b1, b2⟩, ⟨d2, e1, e2⟩, _⟩ := h
  have k1 := a1.is (r' := 0) (by decide +kernel)
  subst k1
  have k2 := a2.is (r' := p16) (by decide +kernel)
  subst k2
  have k3 := a3.is (r' := 0) (by decide +kernel)
  subst k3
  have k4 := a4.is (r' := 0) (by decide +kernel)
  have l1 := b1.is (r' := 3254779904) (by decide +kernel)
  subst l1
  have l2 := b2.is (r' := m16) (by decide +kernel)
  have n1 := e1.is (r' := 3254779904) (by decide +kernel)
  subst n1
  have n2 := e2.is (r' := m16) (by decide +kernel)
  exact Prod.ext k4 (Prod.ext l2 n2)
/-- The imaginary part of the colour of a burst. -/
def bim (odd : Bool) : Nat := if odd = true then m16 else p16
theorem burst_line {cs : List C3} {odd : Bool} {u z : Nat} {ok : Bool} (ho : lineOk (lineL cs odd) = true) (h : BurstR (lineL cs odd) u z ok) : ok = true ∧ u = m16 ∧ z = bim odd := by
  unfold BurstR at h
  rw [if_pos ho, lineL_part] at h
  obtain ⟨c0, c1, c2, c3, hd, hr, hy, _⟩ := h
  have f0 := hd.2 0 (by simp)
  have f1 := hd.2 1 (by simp)
  have f2 := hd.2 2 (by simp)
  have f3 := hd.2 3 (by simp)
  cases odd with
  | false =>
    rw [bursts_even] at f0 f1 f2 f3
    obtain rfl := dec_even f0
    obtain rfl := dec_even f1
    obtain rfl := dec_even f2
    obtain rfl := dec_even f3
    have e : ok = true := hr.trans (by decide +kernel)
    obtain ⟨rfl, rfl⟩ := hy e
    exact ⟨e, by decide +kernel, by decide +kernel⟩
  | true =>
    rw [bursts_odd] at f0 f1 f2 f3
    obtain rfl := dec_odd f0
    obtain rfl := dec_odd f1
    obtain rfl := dec_odd f2
    obtain rfl := dec_odd f3
    have e : ok = true := hr.trans (by decide +kernel)
    obtain ⟨rfl, rfl⟩ := hy e
    exact ⟨e, by decide +kernel, by decide +kernel⟩
theorem hue_one {cs : List C3} {o o' : Bool} {u z : Nat} {ok : Bool} (ho : lineOk (lineL cs o) = true) (ho' : lineOk (lineL cs o') = true) (hne : o' = !o) (h : HueR (lineL cs o) (lineL cs o') u z ok) : ok = true ∧ u = 1065353216 ∧ z = 2147483648 := by
  obtain ⟨p, q, p', q', o1, o2, h1, h2, h3, h4, _⟩ := h
  obtain ⟨rfl, rfl, rfl⟩ := burst_line ho h1
  obtain ⟨rfl, rfl, rfl⟩ := burst_line ho' h2
  obtain ⟨rfl, rfl⟩ := h4 h3
  subst hne
  exact ⟨h3, by decide +kernel, by cases o <;> decide +kernel⟩
theorem swing_of {cs : List C3} {o o' : Bool} {n : Int} (ho : lineOk (lineL cs o) = true) (ho' : lineOk (lineL cs o') = true) (h : SwingR (lineL cs o) (lineL cs o') n) : n = if o = o' then 0 else if o' = true then 1 else -1 := by
  obtain ⟨p, q, p', q', o1, o2, h1, h2, rfl⟩ := h
  obtain ⟨rfl, rfl, rfl⟩ := burst_line ho h1
  obtain ⟨rfl, rfl, rfl⟩ := burst_line ho' h2
  cases o <;> cases o' <;> decide +kernel
end Go.Proofs.Ytgecclccmmcdoaa
