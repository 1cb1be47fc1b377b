/-
  What is proved: what is taken of two lines of a pair is determined.
  Conditions: none.
-/
import Derived.Test.YtgecclccmmcdoaaPairD
import Derived.Test.YtgecclccmmcdoaaPkScale
import Derived.Test.YtgecclccmmcdoaaPkKill
namespace Go.Proofs.Ytgecclccmmcdoaa
set_option linter.unusedVariables false
open Go.RowKit
attribute [local go_sem] run_store_float run_store_complex unary_negf neg256

theorem PairR.ne {xs ys : List Nat} {rows : List (List C3)} (h : PairR xs ys rows true) : ∀ r ∈ rows, r ≠ [] := by
  obtain ⟨ps, qs, o1, o2, a1, a2, ho, a3, _⟩ := h
  obtain ⟨n, _, rfl⟩ := a3 rfl
  have ho := ho.symm
  rw [Bool.and_eq_true, Bool.and_eq_true, decide_eq_true_iff] at ho
  obtain ⟨h1, h2, h3⟩ := ho
  have r1 := (rok_iff.1 (aloneRR_rok a1 h1)).1.1
  intro r hr e
  subst e
  rcases List.mem_cons.1 hr with e | hr
  · have e2 := congrArg List.length e
    unfold rowA at e2
    rw [List.length_zipWith] at e2
    simp at e2
    omega
  · have e := List.mem_singleton.1 hr
    have e2 := congrArg List.length e
    unfold rowB at e2
    rw [List.length_zipWith] at e2
    simp at e2
    omega
/-- What is taken of two lines. -/
def TakeRR (xs ys : List Nat) (least k : Nat) (out : List (List C3)) (ok : Bool) : Prop := ∃ rows o, PairR xs ys rows o ∧ ((o = false ∧ ok = false ∧ out = []) ∨ (o = true ∧ ∃ b, KillR xs ys least b ∧
  ((b = true ∧ ok = true ∧ out = greyL rows) ∨ (b = false ∧ ∃ u z f, HueR xs ys u z f ∧ ∃ sz o2, SizeRR rows u sz o2 ∧ ((o2 = false ∧ ok = false ∧ out = []) ∨ (o2 = true ∧ SatRR sz k out ok))))))
theorem TakeRR.same {xs ys : List Nat} {least k : Nat} {out out' : List (List C3)} {a b : Bool} (h : TakeRR xs ys least k out a) (h' : TakeRR xs ys least k out' b) : a = b ∧ out = out' := by
  obtain ⟨rows, o, h1, h⟩ := h
  obtain ⟨rows', o', k1, h'⟩ := h'
  obtain ⟨rfl, rfl⟩ := h1.same k1
  rcases h with ⟨rfl, rfl, rfl⟩ | ⟨rfl, b1, h2, h⟩
  · rcases h' with ⟨_, rfl, rfl⟩ | ⟨e, _⟩
    · exact ⟨rfl, rfl⟩
    · cases e
  · rcases h' with ⟨e, _⟩ | ⟨_, b2, k2, h'⟩
    · cases e
    · obtain rfl := h2.same k2
      rcases h with ⟨rfl, rfl, rfl⟩ | ⟨rfl, u, z, f, h3, sz, o2, h4, h⟩
      · rcases h' with ⟨_, rfl, rfl⟩ | ⟨e, _⟩
        · exact ⟨rfl, rfl⟩
        · cases e
      · rcases h' with ⟨e, _⟩ | ⟨_, u', z', f', k3, sz', o2', k4, h'⟩
        · cases e
        · obtain ⟨_, rfl, _⟩ := h3.same k3
          obtain ⟨rfl, rfl⟩ := h4.same k4
          rcases h with ⟨rfl, rfl, rfl⟩ | ⟨rfl, h5⟩
          · rcases h' with ⟨_, rfl, rfl⟩ | ⟨e, _⟩
            · exact ⟨rfl, rfl⟩
            · cases e
          · rcases h' with ⟨e, _⟩ | ⟨_, k5⟩
            · cases e
            · exact h5.sm (Sm.refl _) k5
abbrev Two2 (LL : List (List C3)) : Prop := LL.length ≤ 2 ∧ (∀ r ∈ LL, r.length ≤ 64 ∧ NumL r) ∧ csum LL ≤ 128 ∧ ∀ k, k < LL.length → 2 * csum (LL.take k) ≤ 128
theorem two2_of {LL : List (List C3)} (h : LL.length ≤ 2) (hr : ∀ r ∈ LL, r.length ≤ 64 ∧ NumL r) : Two2 LL := by
  refine ⟨h, hr, ?_, fun k hk => ?_⟩
  · match LL, h, hr with
    | [], _, _ => exact Nat.zero_le _
    | [r], _, hr =>
      have := (hr r (by simp)).1
      show r.length + 0 ≤ 128
      omega
    | [r, s], _, hr =>
      have := (hr r (by simp)).1
      have := (hr s (by simp)).1
      show r.length + (s.length + 0) ≤ 128
      omega
    | r :: s :: t :: l, h, _ => simp at h
  · match LL, h, hr, k, hk with
    | [], _, _, k, hk => exact absurd hk (Nat.not_lt_zero _)
    | [r], _, hr, 0, _ => show 2 * 0 ≤ 128; decide
    | [r, s], _, hr, 0, _ => show 2 * 0 ≤ 128; decide
    | [r, s], _, hr, 1, _ =>
      have := (hr r (by simp)).1
      show 2 * (r.length + 0) ≤ 128
      omega
    | [r], _, _, k + 1, hk => simp at hk
    | [r, s], _, _, k + 2, hk => have hk : k + 2 < 2 := hk; omega
    | r :: s :: t :: l, h, _, _, _ => simp at h
theorem numL_rok {l : List C3} (h : rok l = true) : l.length ≤ 64 ∧ NumL l :=
  ⟨(rok_iff.1 h).1.2, fun c hc => by
    obtain ⟨a, b, d⟩ := (rok_iff.1 h).2 c hc
    exact ⟨fin_isN a, fin_isN b, fin_isN d⟩⟩
theorem SatRR.two {rows out : List (List C3)} {k : Nat} {ok : Bool} (h : SatRR rows k out ok) (hl : rows.length ≤ 2) : Two2 out := by
  rcases h with ⟨_, h1, h2⟩ | ⟨_, rfl, _⟩
  · refine two2_of (by omega) fun r hr => ?_
    obtain ⟨i, hi, rfl⟩ := List.mem_iff_getElem.1 hr
    exact numL_rok (h2 i hi (by omega)).yes.1
  · exact two2_of (Nat.zero_le _) fun r hr => by cases hr
theorem SizeRR.two {rows out : List (List C3)} {k : Nat} {ok : Bool} (h : SizeRR rows k out ok) (hl : rows.length ≤ 2) : Two2 out := by
  rcases h with ⟨_, _, rfl⟩ | ⟨_, q, _, h⟩
  · exact two2_of (Nat.zero_le _) fun r hr => by cases hr
  · exact h.two hl
theorem isN_zero : isN 0 = false := by decide +kernel
theorem grey_two {rows : List (List C3)} (h : Two2 rows) : Two2 (greyL rows) := by
  refine two2_of (by unfold greyL; rw [List.length_map]; exact h.1) fun r hr => ?_
  unfold greyL at hr
  obtain ⟨s, hs, rfl⟩ := List.mem_map.1 hr
  obtain ⟨h1, h2⟩ := h.2.1 s hs
  refine ⟨by rw [List.length_map]; exact h1, fun c hc => ?_⟩
  obtain ⟨d, hd, rfl⟩ := List.mem_map.1 hc
  exact ⟨(h2 d hd).1, isN_zero, isN_zero⟩
theorem TakeRR.two {xs ys : List Nat} {least k : Nat} {out : List (List C3)} {ok : Bool} (h : TakeRR xs ys least k out ok) : Two2 out := by
  obtain ⟨rows, o, h1, h⟩ := h
  have hp := h1.ok
  rcases h with ⟨_, _, rfl⟩ | ⟨_, b, _, ⟨_, _, rfl⟩ | ⟨_, u, z, f, _, sz, o2, h4, ⟨_, _, rfl⟩ | ⟨_, h5⟩⟩⟩
  · exact two2_of (Nat.zero_le _) fun r hr => by cases hr
  · exact grey_two hp
  · exact two2_of (Nat.zero_le _) fun r hr => by cases hr
  · exact h5.two (h4.two hp.1).1
def TakeA (xs ys : List Nat) (least k : Nat) (w : World) (e : Ending) (w' : World) : Prop := ∃ v out ss ok, e = .returned (.tuple #[v, .bool ok]) ∧ TakeRR xs ys least k out ok ∧ GridN w' w.heap.size v out ss ∧ Below w.heap.size w w'
theorem take_fix (xs ys : List Nat) (least k : Nat) : ∃ (LL : List (List C3)) (okk : Bool), Two2 LL ∧ ∀ out ok, TakeRR xs ys least k out ok → ok = okk ∧ out = LL := by
  by_cases h : ∃ out ok, TakeRR xs ys least k out ok
  · obtain ⟨out, ok, h⟩ := h
    exact ⟨out, ok, h.two, fun r o h' => h'.same h⟩
  · exact ⟨[], false, two2_of (Nat.zero_le _) (fun r hr => by cases hr), fun r o h' => absurd ⟨r, o, h'⟩ h⟩
theorem take_got {xs ys : List Nat} {least q : Nat} {LL : List (List C3)} {okk : Bool} (hf : ∀ out ok, TakeRR xs ys least q out ok → ok = okk ∧ out = LL) {k : FuncId} {args : Array Value} {w : World} (h : Calls Try.prog k args w fun e w' => TakeA xs ys least q w e w') :
    Calls Try.prog k args w fun e w' => ∃ v ss, e = .returned (.tuple #[v, .bool okk]) ∧ GridN w' w.heap.size v LL ss ∧ Below w.heap.size w w' :=
  h.mono fun e w' ⟨v, out, ss, ok, h1, h2, h3, h4⟩ => by
    obtain ⟨rfl, rfl⟩ := hf out ok h2
    exact ⟨v, ss, h1, h3, h4⟩
end Go.Proofs.Ytgecclccmmcdoaa
