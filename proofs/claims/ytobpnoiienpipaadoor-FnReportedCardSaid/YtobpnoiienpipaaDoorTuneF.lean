/-
  What is proved: plain facts: what lines make of a set, one after the other, and that the log, done again, makes the same.
  Conditions: none.
-/
import Derived.Test.YtobpnoiienpipaaDoorTunedA
import Derived.Test.YtobpnoiienpipaaDoorJoin
namespace Go.Proofs.YtobpnoiienpipaaDoor
set_option linter.unusedVariables false

theorem fields_lens : ∀ (l cur : List UInt8), Lib.lens (Lib.fieldsGo cur l) + (Lib.fieldsGo cur l).length ≤ cur.length + l.length + 1
  | [], cur => by
    unfold Lib.fieldsGo Lib.lens
    split <;> simp
  | b :: l, cur => by
    unfold Lib.fieldsGo
    split
    · have h := fields_lens l []
      split
      · simp at h ⊢; omega
      · unfold Lib.lens at h ⊢
        simp at h ⊢
        omega
    · have h := fields_lens l (cur ++ [b])
      simp at h ⊢
      omega
theorem join_small {l : List UInt8} : (Lib.join (Lib.fields l) [32]).length ≤ l.length := by
  have h := fields_lens l []
  unfold Lib.fields
  cases e : Lib.fieldsGo [] l with
  | nil => simp [Lib.join_nil]
  | cons x r =>
    rw [e] at h
    rw [Lib.join_length]
    simp at h ⊢
    omega
theorem fields_tail : ∀ (r : List (List UInt8)) (cur : List UInt8), cur ≠ [] → (∀ f ∈ r, Good f) → Lib.fieldsGo cur (Lib.joinTail [32] r) = cur :: r
  | [], cur, hc, _ => by
    show Lib.fieldsGo cur [] = _
    unfold Lib.fieldsGo
    rw [if_neg (by simpa using hc)]
  | f :: r, cur, hc, h => by
    have hf := h f (by simp)
    have e : Lib.joinTail [32] (f :: r) = 32 :: (f ++ Lib.joinTail [32] r) := by simp [Lib.joinTail]
    rw [e, Lib.fieldsGo_end _ _ _ (by decide) hc, go_run f [] _ (fun c hc => (hf.2 c hc).2), List.nil_append, fields_tail r f hf.1 (fun g hg => h g (by simp [hg]))]
theorem fields_join (fs : List (List UInt8)) (h : ∀ f ∈ fs, Good f) : Lib.fields (Lib.join fs [32]) = fs := by
  cases fs with
  | nil => rfl
  | cons f r =>
    have hf := h f (by simp)
    unfold Lib.fields
    rw [Lib.join_cons, go_run f [] _ (fun c hc => (hf.2 c hc).2), List.nil_append, fields_tail r f hf.1 (fun g hg => h g (by simp [hg]))]
theorem join_pr (fs : List (List UInt8)) (h : ∀ f ∈ fs, Good f) : prB (Lib.join fs [32]) = true := by
  unfold prB
  refine List.all_eq_true.2 fun c hc => ?_
  cases fs with
  | nil => cases hc
  | cons f r =>
    rw [Lib.join_cons] at hc
    rcases List.mem_append.1 hc with hc | hc
    · exact ((h f (by simp)).2 c hc).1
    · obtain ⟨g, hg, hcg⟩ := List.mem_flatten.1 hc
      obtain ⟨q, hq, rfl⟩ := List.mem_map.1 hg
      rcases List.mem_append.1 hcg with hcg | hcg
      · obtain rfl := List.mem_singleton.1 hcg
        decide
      · exact ((h q (by simp [hq])).2 c hcg).1
/-- THE FIELDS OF A LINE, JOINED, HAVE THE SAME FIELDS. -/
theorem spl_join {l : List UInt8} (h : splB l = true) : spl (Lib.join (spl l) [32]) = spl l ∧ splB (Lib.join (spl l) [32]) = true := by
  rcases spl_cases l with ⟨h0, _⟩ | ⟨_, h1, h2⟩
  · rw [h] at h0; cases h0
  have hg : ∀ f ∈ Lib.fields l, Good f := fields_good l [] (by simp) (fun c hc => List.all_eq_true.1 h2.2.1 c hc)
  have hf := fields_join _ hg
  rw [h1]
  obtain ⟨k1, k2⟩ := spl_yes (l := Lib.join (Lib.fields l) [32]) ⟨Nat.le_trans join_small h2.1, join_pr _ hg, by rw [hf]; exact h2.2.2⟩
  exact ⟨by rw [k1, hf], k2⟩
/-- A set with its log. -/
abbrev SetL := SetC × List (List UInt8)
/-- What a line makes of a set; whether it is done. -/
def tuneR (q : SetL) (line : List UInt8) : SetL × Bool :=
  match tuneF q.1 q.2 line with
  | some y => (y, true)
  | none => (q, false)
theorem tuneR_yes {q y : SetL} {line : List UInt8} (h : tuneF q.1 q.2 line = some y) : tuneR q line = (y, true) := by unfold tuneR; rw [h]
theorem tuneR_no {q : SetL} {line : List UInt8} (h : tuneF q.1 q.2 line = none) : tuneR q line = (q, false) := by unfold tuneR; rw [h]
theorem tuneF_parts {q y : SetL} {line : List UInt8} (h : tuneF q.1 q.2 line = some y) :
    splB line = true ∧ setB q.1 q.2.length = true ∧ doF q.1 (spl line) = some y.1 ∧ setB y.1 (q.2.length + 1) = true ∧ y.2 = q.2 ++ [Lib.join (spl line) [32]] := by
  unfold tuneF at h
  split at h
  · rename_i hb
    simp only [Bool.and_eq_true] at hb
    cases hd : doF q.1 (spl line) with
    | none => rw [hd] at h; cases h
    | some z =>
      rw [hd] at h
      simp only [Option.bind] at h
      split at h
      · rename_i hz
        cases h
        exact ⟨hb.1, hb.2, rfl, hz, rfl⟩
      · cases h
  · cases h
theorem tuneF_again {q y : SetL} {line : List UInt8} (h : tuneF q.1 q.2 line = some y) : tuneF q.1 q.2 (Lib.join (spl line) [32]) = some y := by
  obtain ⟨h1, _⟩ := tuneF_parts h
  obtain ⟨k1, k2⟩ := spl_join h1
  rw [← h]
  unfold tuneF
  rw [k1, k2, h1]
theorem setB_le {x : SetC} {n : Nat} (h : setB x n = true) : n ≤ 100 := by
  unfold setB at h
  simp only [Bool.and_eq_true, decide_eq_true_eq] at h
  exact h.2.2.2.2.2.2.2.2
theorem doF_ok {x y : SetC} {fs : List (List UInt8)} (hx : x.ok) (h : doF x fs = some y) : y.ok := by
  cases fs with
  | nil => cases h
  | cons n vs =>
    have h' : (if keyIx n < 4 then cmdF (keyIx n) x vs else none) = some y := h
    split at h'
    · exact cmdF_ok hx h'
    · cases h'
/-- A set that can be handed on. -/
structure SetL.fine (q : SetL) : Prop where
  ok : q.1.ok
  log : Short q.2
theorem tuneR_fine {q : SetL} {line : List UInt8} (h : q.fine) : (tuneR q line).1.fine := by
  cases e : tuneF q.1 q.2 line with
  | none => rw [tuneR_no e]; exact h
  | some y =>
    rw [tuneR_yes e]
    obtain ⟨h1, h2, h3, h4, h5⟩ := tuneF_parts e
    have := setB_le h4
    refine ⟨doF_ok h.ok h3, ?_, fun l hl => ?_⟩
    · rw [h5, List.length_append]; simp; omega
    · rw [h5] at hl
      rcases List.mem_append.1 hl with hl | hl
      · exact h.log.2 l hl
      · obtain rfl := List.mem_singleton.1 hl
        rcases spl_cases line with ⟨h0, _⟩ | ⟨_, k1, k2⟩
        · rw [h1] at h0; cases h0
        · rw [k1]
          have := join_small (l := line)
          omega
theorem tuneR_len {q : SetL} {line : List UInt8} : (tuneR q line).1.2.length = q.2.length + (if (tuneR q line).2 = true then 1 else 0) := by
  cases e : tuneF q.1 q.2 line with
  | none => rw [tuneR_no e]; rfl
  | some y =>
    rw [tuneR_yes e]
    obtain ⟨_, _, _, _, h5⟩ := tuneF_parts e
    simp [h5]
/-- What lines make of a set, one after the other; which of them are done. -/
def tuneAll : SetL → List (List UInt8) → SetL × List Bool
  | q, [] => (q, [])
  | q, l :: r => ((tuneAll (tuneR q l).1 r).1, (tuneR q l).2 :: (tuneAll (tuneR q l).1 r).2)
theorem tuneAll_snoc : ∀ (r : List (List UInt8)) (q : SetL) (l : List UInt8), tuneAll q (r ++ [l]) = ((tuneR (tuneAll q r).1 l).1, (tuneAll q r).2 ++ [(tuneR (tuneAll q r).1 l).2])
  | [], q, l => rfl
  | x :: r, q, l => by
    show ((tuneAll (tuneR q x).1 (r ++ [l])).1, (tuneR q x).2 :: (tuneAll (tuneR q x).1 (r ++ [l])).2) = _
    rw [tuneAll_snoc r (tuneR q x).1 l]
    rfl
theorem tuneAll_fine : ∀ (r : List (List UInt8)) {q : SetL}, q.fine → (tuneAll q r).1.fine
  | [], _, h => h
  | x :: r, q, h => tuneAll_fine r (tuneR_fine h)
theorem tuneAll_len : ∀ (r : List (List UInt8)) (q : SetL), (tuneAll q r).2.length = r.length
  | [], _ => rfl
  | x :: r, q => by
    show (_ :: (tuneAll (tuneR q x).1 r).2).length = _
    rw [List.length_cons, tuneAll_len r, List.length_cons]
def trues (bs : List Bool) : Nat := (bs.filter id).length
/-- A set that is not valid, or whose log is full, takes no line. -/
theorem tuneAll_bad : ∀ (r : List (List UInt8)) (q : SetL), setB q.1 q.2.length = false → (tuneAll q r).1 = q ∧ trues (tuneAll q r).2 = 0
  | [], q, _ => ⟨rfl, rfl⟩
  | x :: r, q, h => by
    have e := tuneR_no (q := q) (line := x) (tuneF_set h)
    show (tuneAll (tuneR q x).1 r).1 = q ∧ trues ((tuneR q x).2 :: (tuneAll (tuneR q x).1 r).2) = 0
    rw [e]
    exact tuneAll_bad r q h
/-- THE LOG, DONE AGAIN, MAKES THE SAME SET. -/
theorem tuneAll_again : ∀ (r : List (List UInt8)) (q : SetL), ∃ add, (tuneAll q r).1.2 = q.2 ++ add ∧ add.length = trues (tuneAll q r).2 ∧ tuneAll q add = ((tuneAll q r).1, List.replicate add.length true)
  | [], q => ⟨[], by simp [tuneAll], rfl, rfl⟩
  | x :: r, q => by
    obtain ⟨add, h1, h2, h3⟩ := tuneAll_again r (tuneR q x).1
    have g1 : (tuneAll q (x :: r)).1 = (tuneAll (tuneR q x).1 r).1 := rfl
    have g2 : (tuneAll q (x :: r)).2 = (tuneR q x).2 :: (tuneAll (tuneR q x).1 r).2 := rfl
    rw [g1, g2]
    cases e : tuneF q.1 q.2 x with
    | none =>
      rw [tuneR_no e] at h1 h2 h3 ⊢
      exact ⟨add, h1, h2, h3⟩
    | some y =>
      rw [tuneR_yes e] at h1 h2 h3 ⊢
      obtain ⟨_, _, _, _, h5⟩ := tuneF_parts e
      refine ⟨Lib.join (spl x) [32] :: add, ?_, ?_, ?_⟩
      · rw [h1, h5, List.append_assoc]; rfl
      · rw [List.length_cons, h2]; rfl
      · show ((tuneAll (tuneR q _).1 add).1, (tuneR q _).2 :: (tuneAll (tuneR q _).1 add).2) = _
        rw [tuneR_yes (tuneF_again e), h3]
        rfl
/-- What the lines of a log make of a new set. -/
def retuneR (c r : Int) (log : List (List UInt8)) : SetL × Bool :=
  if newB c r = true ∧ ∀ b ∈ (tuneAll (newC c r, []) log).2, b = true then ((tuneAll (newC c r, []) log).1, true) else ((zeroC, []), false)
end Go.Proofs.YtobpnoiienpipaaDoor
