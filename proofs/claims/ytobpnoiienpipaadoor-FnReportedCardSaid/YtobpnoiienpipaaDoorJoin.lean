/-
  What is proved: plain facts: the fields of a line, joined by single spaces, have the same fields.
  Conditions: none.
-/
import Derived.Test.YtobpnoiienpipaaDoorSplit
namespace Go.Proofs.YtobpnoiienpipaaDoor
set_option linter.unusedVariables false

theorem go_run : ∀ (f cur rest : List UInt8), (∀ c ∈ f, Lib.isSp c = false) → Lib.fieldsGo cur (f ++ rest) = Lib.fieldsGo (cur ++ f) rest
  | [], cur, rest, _ => by simp
  | c :: f, cur, rest, h => by
    rw [List.cons_append, Lib.fieldsGo_more _ _ _ (h c (by simp)), go_run f (cur ++ [c]) rest (fun d hd => h d (by simp [hd])), List.append_assoc]
    rfl
/-- Texts, each with a space behind it. -/
def jn (fs : List (List UInt8)) : List UInt8 := fs.flatMap fun f => f ++ [32]
theorem jn_cons (f : List UInt8) (fs : List (List UInt8)) : jn (f :: fs) = f ++ 32 :: jn fs := by simp [jn]
theorem jn_snoc (fs : List (List UInt8)) (f : List UInt8) : jn (fs ++ [f]) = (jn fs ++ f) ++ [32] := by simp [jn]
def Good (f : List UInt8) : Prop := f ≠ [] ∧ ∀ c ∈ f, prC c = true ∧ Lib.isSp c = false
theorem fields_jn : ∀ (fs : List (List UInt8)), (∀ f ∈ fs, Good f) → Lib.fieldsGo [] (jn fs) = fs
  | [], _ => rfl
  | f :: fs, h => by
    have hf := h f (by simp)
    rw [jn_cons, go_run f [] _ (fun c hc => (hf.2 c hc).2), List.nil_append, Lib.fieldsGo_end _ _ _ (by decide) hf.1, fields_jn fs (fun g hg => h g (by simp [hg]))]
theorem fields_good : ∀ (l cur : List UInt8), (∀ c ∈ cur, prC c = true ∧ Lib.isSp c = false) → (∀ c ∈ l, prC c = true) → ∀ f ∈ Lib.fieldsGo cur l, Good f
  | [], cur, h, _, f, hf => by
    unfold Lib.fieldsGo at hf
    split at hf
    · cases hf
    · rename_i hne
      obtain rfl := List.mem_singleton.1 hf
      exact ⟨fun e => hne (by rw [e]; rfl), h⟩
  | b :: l, cur, h, hl, f, hf => by
    have hl' : ∀ c ∈ l, prC c = true := fun c hc => hl c (by simp [hc])
    unfold Lib.fieldsGo at hf
    split at hf
    · split at hf
      · exact fields_good l [] (by simp) hl' f hf
      · rename_i hne
        rcases List.mem_cons.1 hf with rfl | hf
        · exact ⟨fun e => hne (by rw [e]; rfl), h⟩
        · exact fields_good l [] (by simp) hl' f hf
    · rename_i hsp
      refine fields_good l (cur ++ [b]) (fun c hc => ?_) hl' f hf
      rcases List.mem_append.1 hc with hc | hc
      · exact h c hc
      · obtain rfl := List.mem_singleton.1 hc
        exact ⟨hl c (by simp), by simpa using hsp⟩
theorem jn_pr (fs : List (List UInt8)) (h : ∀ f ∈ fs, Good f) : prB (jn fs) = true := by
  unfold prB
  refine List.all_eq_true.2 fun c hc => ?_
  obtain ⟨f, hf, hcf⟩ := List.mem_flatMap.1 hc
  rcases List.mem_append.1 hcf with hcf | hcf
  · exact ((h f hf).2 c hcf).1
  · obtain rfl := List.mem_singleton.1 hcf
    decide
/-- JOINED FIELDS HAVE THE SAME FIELDS. -/
theorem spl_jn {l : List UInt8} (h : l.length ≤ 600 ∧ prB l = true ∧ (Lib.fields l).length ≤ 24) (hj : (jn (Lib.fields l)).length ≤ 600) : spl (jn (Lib.fields l)) = Lib.fields l ∧ splB (jn (Lib.fields l)) = true := by
  have hg : ∀ f ∈ Lib.fields l, Good f := fields_good l [] (by simp) (fun c hc => List.all_eq_true.1 h.2.1 c hc)
  have hf : Lib.fields (jn (Lib.fields l)) = Lib.fields l := fields_jn _ hg
  obtain ⟨h1, h2⟩ := spl_yes (l := jn (Lib.fields l)) ⟨hj, jn_pr _ hg, by rw [hf]; exact h.2.2⟩
  exact ⟨by rw [h1, hf], h2⟩
theorem jn_len : ∀ (fs : List (List UInt8)), (∀ f ∈ fs, f.length ≤ 600) → (jn fs).length ≤ 601 * fs.length
  | [], _ => by simp [jn]
  | f :: fs, h => by
    have h1 := jn_len fs (fun g hg => h g (by simp [hg]))
    have h2 := h f (by simp)
    rw [jn_cons]
    simp
    omega
theorem jn_take (fs : List (List UInt8)) (j : Nat) (h : j < fs.length) : ((⟨(jn (fs.take j)).toArray⟩ : ByteArray) ++ ⟨fs[j].toArray⟩) ++ ⟨#[32]⟩ = ⟨(jn (fs.take (j + 1))).toArray⟩ := by
  rw [List.take_succ_eq_append_getElem h, jn_snoc]
  apply ByteArray.ext
  simp [ByteArray.data_append]
theorem spl_cases (l : List UInt8) : (splB l = false ∧ spl l = []) ∨ (splB l = true ∧ spl l = Lib.fields l ∧ (l.length ≤ 600 ∧ prB l = true ∧ (Lib.fields l).length ≤ 24)) := by
  by_cases h : l.length ≤ 600 ∧ prB l = true ∧ (Lib.fields l).length ≤ 24
  · obtain ⟨h1, h2⟩ := spl_yes h
    exact .inr ⟨h2, h1, h⟩
  · obtain ⟨h1, h2⟩ := spl_no h
    exact .inl ⟨h2, h1⟩
end Go.Proofs.YtobpnoiienpipaaDoor
