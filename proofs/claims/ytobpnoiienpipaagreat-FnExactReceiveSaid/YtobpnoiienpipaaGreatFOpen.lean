/-
  What is proved: a list of single floats that came in can be read.
  Conditions: none.
-/
import Derived.Test.YtobpnoiienpipaaGreatPz03
import Derived.Deep.Slices
import Derived.ChangeShapes
import Derived.ChangeSlices
namespace Go.Proofs.YtobpnoiienpipaaGreat
set_option linter.unusedVariables false
open Go.RowKit Go.ChangeShapes Go.WideShapes Go.Deep

theorem trod_single {H : Type} {enc : TypeId × Value → H} {P : Program} {w : World} {base : Nat} {spare : Nat → Bool} {held : Bool} {fuel : Nat} {t : TypeId} {cs : List Value} {x : DataW H × List MemPlace}
    (ht : P.underlying t = some (.float .f32)) (h : DataW.trod enc P w base spare held fuel t cs = some x) : ∃ b, cs = [.float .f32 b] ∧ (Lit.float .f32 b).wf = true := by
  cases fuel with
  | zero => exact absurd h (by unfold DataW.trod; exact fun e => by cases e)
  | succ n =>
    unfold DataW.trod at h
    rw [ht] at h
    split at h <;> simp_all
theorem open_floats {H : Type} {enc : TypeId × Value → H} {W : World} {base : Nat} {held : Bool} {fuel : Nat} {a : Option Addr} {len cap : Nat} {x : DataW H × List MemPlace}
    (h : DataW.trod enc Tryz.prog W base (fun _ => true) held fuel 31 [.slice a len cap] = some x) : ∃ xs, FRow W (.slice a len cap) xs ∧ (∀ z ∈ xs, z < 2 ^ 32) ∧ xs.length = len := by
  rcases open_slice1 Tryz.underlying31 (by kernel_rfl) h with ⟨h0, _⟩ | ⟨ad, l, c, m, n, V, D, Pl, hcs, hb, hl, hm, hmm, rfl, hx⟩
  · simp at h0
    obtain ⟨rfl, rfl, rfl⟩ := h0
    exact ⟨[], .inl ⟨⟨_, _, rfl⟩, rfl⟩, by simp, rfl⟩
  · simp at hcs
    obtain ⟨rfl, rfl, rfl⟩ := hcs
    simp only [if_true] at hmm
    subst hmm
    have key : ∀ i, i < m → ∃ z, z < 2 ^ 32 ∧ W.cell? (ad.add i) = some (.float .f32 z) := by
      intro i hi
      obtain ⟨h1, h2⟩ := hx i hi
      obtain ⟨b, hb1, hb2⟩ := trod_single Tryz.underlying25 h2
      simp at hb1
      rw [hb1] at h1
      exact ⟨b, lt32 hb2, h1⟩
    obtain ⟨f, hf⟩ : ∃ f : Nat → Nat, ∀ i, i < m → f i < 2 ^ 32 ∧ W.cell? (ad.add i) = some (.float .f32 (f i)) := by
      refine ⟨fun i => if h : i < m then (key i h).choose else 0, fun i hi => ?_⟩
      show (if h : i < m then (key i h).choose else 0) < 2 ^ 32 ∧ W.cell? (ad.add i) = some (.float .f32 (if h : i < m then (key i h).choose else 0))
      rw [dif_pos hi]
      exact (key i hi).choose_spec
    refine ⟨(List.range len).map f, ?_, ?_, by simp⟩
    · by_cases h0 : len = 0
      · subst h0
        exact .inl ⟨⟨_, _, rfl⟩, rfl⟩
      · obtain ⟨g, o, spot⟩ := ad
        have hc0 := (hf 0 (by omega)).2
        have hspot : spot = none := by simpa [Addr.add] using World.cell?_spot hc0
        subst hspot
        refine .inr ⟨g, o, m, by simp, by simpa using hl, fun i hi => ?_⟩
        have hi' : i < len := by simpa using hi
        have hadd : (⟨g, o, none⟩ : Addr).add i = ⟨g, o + i, none⟩ := by unfold Addr.add; split <;> simp_all
        have := (hf i (by omega)).2
        rw [hadd] at this
        rw [this]
        simp
    · intro z hz
      obtain ⟨i, hi, rfl⟩ := List.mem_map.1 hz
      exact (hf i (by have := List.mem_range.1 hi; omega)).1
end Go.Proofs.YtobpnoiienpipaaGreat
