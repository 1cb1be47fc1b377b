/-
  What is proved: colours multiplied by 0 are 0, by 1 they stay; what Saturate and ToSize tell by these.
  Conditions: none.
-/
import Derived.Test.YtgecclccmmcdoaaRowsC
namespace Go.Proofs.Ytgecclccmmcdoaa
set_option linter.unusedVariables false
open Go.RowKit
open Flt (mulv)

/-- A number times 1. -/
theorem res_one {x r : Nat} (hx : Flt.fin x = true) (h : Res .mul x 1065353216 r) : feq r x = true ∧ Flt.fin r = true := by
  obtain ⟨s, u, h1, h2, h3⟩ := num_fin hx
  have hone : Flt.Num Ieee.single 1065353216 false (2 ^ Flt.unit Ieee.single) := by
    have := Flt.read_num (show Ieee.single.read 1065353216 = .number false 8388608 (-23) by decide +kernel)
    have e : 8388608 * 2 ^ ((-23 : Int) - Ieee.single.leastPlace).toNat = 2 ^ Flt.unit Ieee.single := by decide +kernel
    rwa [e] at this
  obtain ⟨r', hr, hn⟩ := Flt.mul_num Flt.fine32 h1 hone u rfl h2 h3
  have hr' : floatBits .mul .f32 x 1065353216 = some r' := hr
  rw [Bool.xor_false] at hn
  have e : r = r' := by
    rcases h with h | h
    · rw [hr'] at h; exact (Option.some.inj h).symm
    · rw [hr'] at h; cases h.1
  subst e
  refine ⟨?_, ?_⟩
  · have h5 := Flt.order_num hn h1
    rw [Flt.cmp_eq rfl] at h5
    have h6 : FloatKind.f32.format.order r x = some .eq := h5
    unfold feq
    rw [h6]
    rfl
  · rw [Flt.fin_num hn]
    rwa [Flt.fin_num h1] at hx
/-- A number times 0. -/
theorem res_zero {x r : Nat} (hx : Flt.fin x = true) (h : Res .mul x 0 r) : feq r 0 = true ∧ Flt.fin r = true := by
  obtain ⟨s, hr, hn⟩ := mul_zero32 hx
  have e : r = mulv x 0 := by
    rcases h with h | h
    · rw [hr] at h; exact (Option.some.inj h).symm
    · rw [hr] at h; cases h.1
  subst e
  refine ⟨?_, ?_⟩
  · have h5 := Flt.order_num hn num_zero0
    have e0 : Flt.sg s 0 = Flt.sg false 0 := by cases s <;> rfl
    rw [Flt.cmp_eq e0] at h5
    have h6 : FloatKind.f32.format.order (mulv x 0) 0 = some .eq := h5
    unfold feq
    rw [h6]
    rfl
  · rw [Flt.fin_num hn]
    exact decide_eq_true (Nat.zero_le _)
theorem fin_self {x : Nat} (h : Flt.fin x = true) : feq x x = true := by
  obtain ⟨s, u, hn, _⟩ := Flt.fin_of h
  exact feq_self (Flt.num_read hn)
/-- What a row is like when its colours were multiplied. -/
structure ScaleW (cs l : List C3) (ok : Bool) (t : C3 → C3) : Prop where
  ok : ok = rok cs
  alike : rok cs = true → Alike l (cs.map t)
theorem ScaleRR.told {cs l : List C3} {k : Nat} {ok : Bool} {t : C3 → C3} (h : ScaleRR cs k l ok)
    (hk : ∀ c d : C3, ScC k c d → Flt.fin c.1 = true → Flt.fin c.2.1 = true → Flt.fin c.2.2 = true → (feq d.1 (t c).1 && (feq d.2.1 (t c).2.1 && feq d.2.2 (t c).2.2)) = true ∧ Flt.fin d.1 = true ∧ Flt.fin d.2.1 = true ∧ Flt.fin d.2.2 = true) : ScaleW cs l ok t := by
  rcases h with ⟨h1, ds, h2, rfl, rfl⟩ | ⟨h1, rfl, rfl⟩
  · obtain ⟨hl, hf⟩ := rok_iff.1 h1
    have hd : ∀ i (h : i < ds.length) (h' : i < cs.length), _ := fun i h h' => hk _ _ (h2.2 i h h') (hf _ (List.getElem_mem h')).1 (hf _ (List.getElem_mem h')).2.1 (hf _ (List.getElem_mem h')).2.2
    have hlen := h2.1
    have hrd : rok ds = true := by
      refine rok_iff.2 ⟨by rw [hlen]; exact hl, fun d hd' => ?_⟩
      obtain ⟨i, hi, rfl⟩ := List.getElem_of_mem hd'
      exact (hd i hi (by omega)).2
    refine ⟨by rw [hrd, h1], fun _ => ?_⟩
    rw [if_pos hrd]
    refine ⟨by rw [List.length_map]; exact hlen, fun i hi hi' => ?_⟩
    rw [List.getElem_map]
    exact (hd i hi (by omega)).1
  · exact ⟨h1.symm, fun e => by rw [h1] at e; cases e⟩
theorem told_one {cs l : List C3} {ok : Bool} (h : ScaleRR cs 1065353216 l ok) : ScaleW cs l ok id :=
  h.told fun c d hs h1 h2 h3 => by
    obtain ⟨e, ⟨a, b⟩, _⟩ := hs
    have ha := res_one h2 a
    have hb := res_one h3 b
    refine ⟨?_, by rw [e]; exact h1, ha.2, hb.2⟩
    show (feq d.1 c.1 && (feq d.2.1 c.2.1 && feq d.2.2 c.2.2)) = true
    rw [e, ha.1, hb.1, fin_self h1]
    rfl
theorem told_zero {cs l : List C3} {ok : Bool} (h : ScaleRR cs 0 l ok) : ScaleW cs l ok gc :=
  h.told fun c d hs h1 h2 h3 => by
    obtain ⟨e, ⟨a, b⟩, _⟩ := hs
    have ha := res_zero h2 a
    have hb := res_zero h3 b
    refine ⟨?_, by rw [e]; exact h1, ha.2, hb.2⟩
    show (feq d.1 c.1 && (feq d.2.1 0 && feq d.2.2 0)) = true
    rw [e, ha.1, hb.1, fin_self h1]
    rfl
/-- All rows. -/
theorem SatRR.told {rows out : List (List C3)} {k : Nat} {ok : Bool} {t : C3 → C3} (h : SatRR rows k out ok) (hk : ∀ cs l o, ScaleRR cs k l o → ScaleW cs l o t) : ok = rows.all rok ∧ (ok = true → AlikeR out (rows.map (List.map t))) := by
  rcases h with ⟨rfl, h1, h2⟩ | ⟨rfl, rfl, i, hi, h2⟩
  · refine ⟨?_, fun _ => ⟨by rw [List.length_map]; exact h1, fun i hi hi' => ?_⟩⟩
    · symm
      rw [List.all_eq_true]
      intro r hr
      obtain ⟨i, hi, rfl⟩ := List.getElem_of_mem hr
      exact (hk _ _ _ (h2 i (by omega) hi)).ok.symm
    · rw [List.getElem_map]
      have h3 := hk _ _ _ (h2 i hi (by omega))
      exact h3.alike h3.ok.symm
  · refine ⟨?_, fun e => by cases e⟩
    symm
    rw [Bool.eq_false_iff]
    intro e
    have := List.all_eq_true.1 e _ (List.getElem_mem hi)
    rw [← (hk _ _ _ h2).ok] at this
    cases this
theorem sat_one {rows out : List (List C3)} {ok : Bool} (h : SatRR rows 1065353216 out ok) : ok = rows.all rok ∧ (ok = true → AlikeR out rows) := by
  have := h.told (t := id) (fun cs l o h => told_one h)
  have e : rows.map (List.map id) = rows := by simp
  rwa [e] at this
theorem sat_zero {rows out : List (List C3)} {ok : Bool} (h : SatRR rows 0 out ok) : ok = rows.all rok ∧ (ok = true → AlikeR out (greyL rows)) := h.told (t := gc) (fun cs l o h => told_zero h)
theorem size_one {rows out : List (List C3)} {ok : Bool} (h : SizeRR rows 1065353216 out ok) : ok = rows.all rok ∧ (ok = true → AlikeR out rows) := by
  rcases h with ⟨h1, _⟩ | ⟨_, q, h2, h3⟩
  · have : feq0 1065353216 = false := by decide +kernel
    rw [this] at h1; cases h1
  · have hq : floatBits .quo .f32 1065353216 1065353216 = some 1065353216 := by decide +kernel
    have e : q = 1065353216 := by
      rcases h2 with h2 | h2
      · rw [hq] at h2; exact (Option.some.inj h2).symm
      · rw [hq] at h2; cases h2.1
    subst e
    exact sat_one h3
end Go.Proofs.Ytgecclccmmcdoaa
