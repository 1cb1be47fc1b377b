/-
  What is proved: the walks of SplitFields (the program's and the model's).
  Conditions: the argument is a string of at most 1048576 bytes; the library's table of spaces holds what its initialiser lays.
-/
import Derived.Test.YtobpnoiienpipaaDoorPkSt
import Derived.Test.YtobpnoiienpipaaDoorShelf
namespace Go.Proofs.YtobpnoiienpipaaDoor
set_option linter.unusedVariables false
open Go.RowKit

def prC (c : UInt8) : Bool := decide (32 ≤ c.toNat) && decide (c.toNat ≤ 126)
theorem prC_iff {c : UInt8} : prC c = true ↔ 32 ≤ c.toNat ∧ c.toNat ≤ 126 := by simp [prC]
def prB (l : List UInt8) : Bool := l.all prC
theorem prB_at {l : List UInt8} (h : prB l = true) {k : Nat} (hk : k < l.length) : prC l[k] = true := List.all_eq_true.1 h _ (List.getElem_mem hk)
theorem prB_no {l : List UInt8} {k : Nat} (hk : k < l.length) (h : prC l[k] = false) : prB l = false := by
  cases hb : prB l
  · rfl
  · rw [prB_at hb hk] at h; cases h
theorem prB_take {l : List UInt8} (h : prB (l.take l.length) = true) : prB l = true := by rwa [List.take_length] at h
theorem prB_step {l : List UInt8} {k : Nat} (h : prB (l.take k) = true) (hk : k < l.length) (hc : prC l[k] = true) : prB (l.take (k + 1)) = true := by
  unfold prB at *
  rw [List.take_succ_eq_append_getElem hk, List.all_append, h]
  simp [hc]
/-- What SplitFields answers. -/
def spl (l : List UInt8) : List (List UInt8) := if l.length ≤ 600 ∧ prB l = true ∧ (Lib.fields l).length ≤ 24 then Lib.fields l else []
def splB (l : List UInt8) : Bool := decide (l.length ≤ 600 ∧ prB l = true ∧ (Lib.fields l).length ≤ 24)
theorem spl_no {l : List UInt8} (h : ¬ (l.length ≤ 600 ∧ prB l = true ∧ (Lib.fields l).length ≤ 24)) : spl l = [] ∧ splB l = false := ⟨by unfold spl; rw [if_neg h], by unfold splB; simp only [decide_eq_false_iff_not]; exact h⟩
theorem spl_yes {l : List UInt8} (h : l.length ≤ 600 ∧ prB l = true ∧ (Lib.fields l).length ≤ 24) : spl l = Lib.fields l ∧ splB l = true := ⟨by unfold spl; rw [if_pos h], by unfold splB; simp only [decide_eq_true_eq]; exact h⟩
theorem spl_len (l : List UInt8) : (spl l).length ≤ 24 := by
  unfold spl
  split
  · rename_i h; exact h.2.2
  · simp
def SplitPost (l : List UInt8) (w : World) (e : Ending) (w' : World) : Prop :=
  ∃ v, e = .returned (.tuple #[v, .bool (splB l)]) ∧ OwnS w' w.heap.size v (spl l) ∧ Below w.heap.size w w'
theorem SplitPost.no {l : List UInt8} {v : Value} {w w' : World} (h : ¬ (l.length ≤ 600 ∧ prB l = true ∧ (Lib.fields l).length ≤ 24)) (ho : OwnS w' w.heap.size v []) (hb : Below w.heap.size w w') : SplitPost l w (.returned (.tuple #[v, .bool false])) w' := by
  obtain ⟨h1, h2⟩ := spl_no h
  exact ⟨v, by rw [h2], by rw [h1]; exact ho, hb⟩
theorem SplitPost.yes {l : List UInt8} {v : Value} {w w' : World} (h : l.length ≤ 600 ∧ prB l = true ∧ (Lib.fields l).length ≤ 24) (ho : OwnS w' w.heap.size v (Lib.fields l)) (hb : Below w.heap.size w w') : SplitPost l w (.returned (.tuple #[v, .bool true])) w' := by
  obtain ⟨h1, h2⟩ := spl_yes h
  exact ⟨v, by rw [h2], by rw [h1]; exact ho, hb⟩

theorem byteAt (s : ByteArray) (k : Nat) (h : k < s.size) : s[k] = s.data.toList[k]'(by simpa using h) := rfl
theorem isPrintable_any (s : ByteArray) (w : World) (hs : s.size ≤ 1048576) :
    Calls Tryd.prog 53 #[.string s] w fun e w' => e = .returned (.bool (prB s.data.toList)) ∧ w = w' := by
  have hsz : s.data.toList.length = s.size := by simp
  have HS := Lib.hid hsz
  clear hsz
  go_enter Tryd.func53, Tryd.ntmps53
  go_wp2
  go_loop [6] (fun i => ∃ k : Nat, k ≤ s.size ∧ i = .int .i64 (k : Int) ∧ prB (s.data.toList.take k) = true) (fun i => s.size - (intOf i).toNat)
  case atStart => exact ⟨0, Nat.zero_le _, rfl, by simp [prB]⟩
  case round =>
    obtain ⟨k, hk, rfl, hpr⟩ := hrel
    by_cases hlt : k < s.size
    · have hl : s[k].toNat ≤ 255 := by have := s[k].toNat_lt; omega
      by_cases hg : 32 ≤ s[k].toNat ∧ s[k].toNat ≤ 126
      · have hlt' : k < s.data.toList.length := by rw [HS.out]; exact hlt
        have hst := prB_step hpr hlt' (by rw [← byteAt s k hlt]; exact prC_iff.2 hg)
        have HST := Lib.hid hst
        obtain ⟨hg1, hg2⟩ := hg
        clear hpr hst hlt'
        go_wp2
        go_round
        case rel => exact ⟨k + 1, by omega, by go_num, HST.out⟩
        case measure => simp [intOf]; omega
      · have hlt' : k < s.data.toList.length := by rw [HS.out]; exact hlt
        have hno : prB s.data.toList = false := prB_no hlt' (by
          cases hb : prC s.data.toList[k]
          · rfl
          · rw [← byteAt s k hlt] at hb; exact absurd (prC_iff.1 hb) hg)
        have HNO := Lib.hid hno
        clear hpr hno hlt'
        go_wp2
        all_goals first | (go_ret; exact ⟨by rw [HNO.out]; rfl, rfl⟩) | (exfalso; omega)
    · have hkk : k = s.data.toList.length := by rw [HS.out]; omega
      rw [hkk] at hpr
      have hyes := prB_take hpr
      have HY := Lib.hid hyes
      clear hkk hpr hyes
      go_wp2
      go_ret
      exact ⟨by rw [HY.out]; rfl, rfl⟩

/-- The table of spaces. -/
def TabS (w : World) : Prop := Lib.TabIs Tryd.prog w "strings.asciiSpace" .u8 Lib.asciiSpaceTab

theorem cloneS_any (s : ByteArray) (w : World) (hs : s.size ≤ 1048576) :
    Calls Tryd.prog 55 #[.string s] w fun e w' => e = .returned (.string s) ∧ Below w.heap.size w w' := by
  have HC := Lib.hid (Tryd.stringslite_Clone s w (by omega))
  go_enter Tryd.func55, Tryd.ntmps55
  go_wp2_with fail
  refine HC.out.mono ?_
  rintro e w1 ⟨rfl, hb⟩
  go_wp2
  go_ret
  exact ⟨rfl, hb⟩

theorem fields_mem : ∀ (l cur : List UInt8), ∀ f ∈ Lib.fieldsGo cur l, f.length ≤ cur.length + l.length
  | [], cur, f, hf => by
    unfold Lib.fieldsGo at hf
    split at hf
    · cases hf
    · obtain rfl := List.mem_singleton.1 hf; omega
  | b :: l, cur, f, hf => by
    unfold Lib.fieldsGo at hf
    split at hf
    · split at hf
      · have := fields_mem l [] f hf; simp at this ⊢; omega
      · rcases List.mem_cons.1 hf with rfl | hf
        · omega
        · have := fields_mem l [] f hf; simp at this ⊢; omega
    · have := fields_mem l (cur ++ [b]) f hf; simp at this ⊢; omega

theorem fields_le : ∀ (l cur : List UInt8), (Lib.fieldsGo cur l).length ≤ 1 + l.length
  | [], cur => by unfold Lib.fieldsGo; split <;> simp
  | b :: l, cur => by
    unfold Lib.fieldsGo
    split
    · split
      · have := fields_le l []; simp at this ⊢; omega
      · have := fields_le l []; simp at this ⊢; omega
    · have := fields_le l (cur ++ [b]); simp at this ⊢; omega

set_option maxHeartbeats 1000000 in
theorem splitFields_any (s : ByteArray) (w : World) (hs : s.size ≤ 1048576) (ht : TabS w) :
    Calls Tryd.prog 18 #[.string s] w fun e w' => SplitPost s.data.toList w e w' := by
  have hsz : s.data.toList.length = s.size := by simp
  by_cases h6 : 600 < s.size
  · have HN := Lib.hid (show ¬ (s.data.toList.length ≤ 600 ∧ prB s.data.toList = true ∧ (Lib.fields s.data.toList).length ≤ 24) from fun h => by omega)
    clear hsz
    go_enter Tryd.func18, Tryd.ntmps18
    go_wp2
    go_ret2
    exact SplitPost.no HN.out (OwnS.nil _ _) (Below.refl _ _)
  · have hp := isPrintable_any s w hs
    cases hpr : prB s.data.toList with
    | false =>
      have HN := Lib.hid (show ¬ (s.data.toList.length ≤ 600 ∧ prB s.data.toList = true ∧ (Lib.fields s.data.toList).length ≤ 24) from fun h => by rw [hpr] at h; cases h.2.1)
      rw [hpr] at hp
      have HP := Lib.hid hp
      clear hp hpr hsz
      go_enter Tryd.func18, Tryd.ntmps18
      go_wp2_with fail
      refine HP.out.mono ?_
      rintro e w1 ⟨rfl, rfl⟩
      go_wp2
      go_ret2
      exact SplitPost.no HN.out (OwnS.nil _ _) (Below.refl _ _)
    | true =>
      rw [hpr] at hp
      have HP := Lib.hid hp
      have HPR := Lib.hid hpr
      have HF := Lib.hid (Tryd.strings_Fields s w (by omega) (fun j b hj => by
        have hjl : j < s.data.toList.length := (List.getElem?_eq_some_iff.1 hj).1
        have h1 := prC_iff.1 (prB_at hpr hjl)
        rw [List.getElem?_eq_getElem hjl] at hj
        obtain rfl := Option.some.inj hj
        omega) ht)
      have hmem := fields_mem s.data.toList []
      have hYN := fun h => spl_yes (l := s.data.toList) h
      have HSZ := Lib.hid hsz
      have HM := Lib.hid (show ∀ f ∈ Lib.fields s.data.toList, f.length ≤ 600 from fun f hf => by have := hmem f hf; simp at this; omega)
      have HNO := Lib.hid (fun h : 24 < (Lib.fields s.data.toList).length => (show ¬ (s.data.toList.length ≤ 600 ∧ prB s.data.toList = true ∧ (Lib.fields s.data.toList).length ≤ 24) from fun g => by omega))
      have HYE := Lib.hid (fun h : ¬ 24 < (Lib.fields s.data.toList).length => (show (s.data.toList.length ≤ 600 ∧ prB s.data.toList = true ∧ (Lib.fields s.data.toList).length ≤ 24) from ⟨by omega, hpr, by omega⟩))
      clear hp hpr hsz hmem hYN ht
      go_enter Tryd.func18, Tryd.ntmps18
      go_wp2_with fail
      refine HP.out.mono ?_
      rintro e w1 ⟨rfl, rfl⟩
      go_wp2_with fail
      refine HF.out.mono ?_
      clear HF HP
      rintro e w2 ⟨rfl, rfl⟩
      have hown : OwnS (w.alloc (.cells ((Lib.fields s.data.toList).map fun l => Value.string ⟨l.toArray⟩).toArray 9)) w.heap.size (.slice (some ⟨w.heap.size, 0, none⟩) (Lib.fields s.data.toList).length (Lib.fields s.data.toList).length) (Lib.fields s.data.toList) := by
        have hle := fields_le s.data.toList []
        have hcnt : (Lib.fields s.data.toList).length ≤ 1048577 := by
          have := HSZ.out
          unfold Lib.fields
          omega
        unfold OwnS strV
        exact ⟨by simp, .inr ⟨w.heap.size, _, _, rfl, Nat.le_refl _, heap_alloc_new w _, Nat.le_refl _, by unfold maxLen; omega, by simp, by simp [List.take_of_length_le]⟩⟩
      have hbel : Below w.heap.size w (w.alloc (.cells ((Lib.fields s.data.toList).map fun l => Value.string ⟨l.toArray⟩).toArray 9)) := (Below.refl _ _).alloc (Nat.le_refl _) _
      generalize w.alloc (.cells ((Lib.fields s.data.toList).map fun l => Value.string ⟨l.toArray⟩).toArray 9) = w2 at *
      by_cases h24 : 24 < (Lib.fields s.data.toList).length
      · have HN := Lib.hid (HNO.out h24)
        clear hown
        go_wp2
        go_ret2
        exact SplitPost.no HN.out (OwnS.nil _ _) hbel
      · have HY := Lib.hid (HYE.out h24)
        have HO := Lib.hid hown
        clear hown HNO HYE
        generalize hfs : Lib.fields s.data.toList = fs at *
        have HFS := Lib.hid hfs
        clear hfs
        go_wp2
        go_loopw [22] (fun i wr => ∃ k : Nat, k ≤ fs.length ∧ i = .int .i64 (k : Int) ∧ OwnS wr w.heap.size (.slice (some ⟨w.heap.size, 0, none⟩) fs.length fs.length) fs ∧ Below w.heap.size w wr) (fun i _ => fs.length - (intOf i).toNat)
        case atStart => exact ⟨0, Nat.zero_le _, rfl, HO.out, hbel⟩
        case round =>
          obtain ⟨k, hk, rfl, hown, hb⟩ := hrel
          by_cases hlt : k < fs.length
          · obtain ⟨c1, f1⟩ := hown.cell k hlt
            have H := Lib.hid hown
            have hfl : (⟨fs[k].toArray⟩ : ByteArray).size ≤ 1048576 := by
              have := HM.out fs[k] (List.getElem_mem hlt)
              show fs[k].toArray.size ≤ _
              simp; omega
            have HFL := Lib.hid hfl
            unfold strV at c1
            clear hown hfl
            go_wp2_with fail
            refine (cloneS_any _ _ HFL.out).mono ?_
            rintro e w3 ⟨rfl, hb3⟩
            have hown3 := H.out.below hb3
            obtain ⟨c3, f3⟩ := hown3.cell k hlt
            have hst := hown3.store k fs[k]
            rw [List.set_getElem_self] at hst
            have HST := Lib.hid hst
            have hb4 := (hb.trans (hb3.mono hb.size)).setCell (p := ⟨w.heap.size, k, none⟩) (Nat.le_refl _) (strV fs[k])
            unfold strV at c3 HST hb4
            clear hown3 hst c1 f1
            generalize fs[k] = t at *
            go_wp2
            go_roundw
            case rel => exact ⟨k + 1, by omega, by go_num, HST.out, hb4⟩
            case measure => simp [intOf]; omega
          · have H := Lib.hid hown
            clear hown
            go_wp2
            go_ret2
            exact SplitPost.yes (by rw [HFS.out]; exact HY.out) (by rw [HFS.out]; exact H.out) hb

/-! ### The model's -/
/-- The fields read so far. -/
def SF (l : List UInt8) (k b : Nat) (out : List (List UInt8)) : Prop :=
  prB (l.take k) = true ∧ out.length ≤ k ∧ ((k ≤ l.length ∧ b ≤ k ∧ Lib.fields l = out ++ Lib.fieldsGo ((l.take k).drop b) (l.drop k)) ∨ (k = l.length + 1 ∧ Lib.fields l = out))
theorem SF.start (l : List UInt8) : SF l 0 0 [] := ⟨by simp [prB], by simp, .inl ⟨Nat.zero_le _, Nat.zero_le _, by simp [Lib.fields]⟩⟩
theorem isSp_no {c : UInt8} (h : prC c = true) (h2 : c ≠ 32) : Lib.isSp c = false := by
  have h1 := prC_iff.1 h
  have h3 : c.toNat ≠ 32 := fun e => h2 (UInt8.toNat_inj.1 (by simpa using e))
  unfold Lib.isSp
  simp only [Bool.or_eq_false_iff, beq_eq_false_iff_ne]
  refine ⟨⟨⟨⟨⟨?_, ?_⟩, ?_⟩, ?_⟩, ?_⟩, ?_⟩ <;> (intro e; first | exact h2 e | (subst e; revert h1; decide))
theorem SF.more {l : List UInt8} {k b : Nat} {out : List (List UInt8)} (h : SF l k b out) (hk : k < l.length) (hp : prC l[k] = true) (hs : l[k] ≠ 32) : SF l (k + 1) b out := by
  obtain ⟨h1, h2, h3⟩ := h
  refine ⟨prB_step h1 hk hp, by omega, ?_⟩
  rcases h3 with ⟨_, h4, h5⟩ | ⟨h4, _⟩
  · refine .inl ⟨hk, by omega, ?_⟩
    rw [h5, List.drop_eq_getElem_cons hk, Lib.fieldsGo_more _ _ _ (isSp_no hp hs), List.take_succ_eq_append_getElem hk, List.drop_append_of_le_length (by rw [List.length_take]; omega)]
  · omega
theorem cur_ne {l : List UInt8} {k b : Nat} (h : b < k) (hk : k ≤ l.length) : (l.take k).drop b ≠ [] := fun e => by
  have := congrArg List.length e
  rw [List.length_drop, List.length_take] at this
  simp at this; omega
theorem cur_nil {l : List UInt8} {k : Nat} : (l.take k).drop k = [] := List.drop_eq_nil_of_le (by rw [List.length_take]; omega)
theorem SF.push {l : List UInt8} {k b : Nat} {out : List (List UInt8)} (h : SF l k b out) (hk : k < l.length) (hs : l[k] = 32) (hb : b < k) : SF l (k + 1) (k + 1) (out ++ [(l.take k).drop b]) := by
  obtain ⟨h1, h2, h3⟩ := h
  refine ⟨prB_step h1 hk (by rw [hs]; decide), by simp; omega, ?_⟩
  rcases h3 with ⟨_, h4, h5⟩ | ⟨h4, _⟩
  · refine .inl ⟨hk, Nat.le_refl _, ?_⟩
    rw [h5, List.drop_eq_getElem_cons hk, Lib.fieldsGo_end _ _ _ (by rw [hs]; decide) (cur_ne hb (by omega)), cur_nil, List.append_assoc]
    rfl
  · omega
theorem SF.skip {l : List UInt8} {k : Nat} {out : List (List UInt8)} (h : SF l k k out) (hk : k < l.length) (hs : l[k] = 32) : SF l (k + 1) (k + 1) out := by
  obtain ⟨h1, h2, h3⟩ := h
  refine ⟨prB_step h1 hk (by rw [hs]; decide), by omega, ?_⟩
  rcases h3 with ⟨_, h4, h5⟩ | ⟨h4, _⟩
  · refine .inl ⟨hk, Nat.le_refl _, ?_⟩
    rw [cur_nil] at h5 ⊢
    rw [h5, List.drop_eq_getElem_cons hk, Lib.fieldsGo_sp _ _ (by rw [hs]; decide)]
  · omega
theorem prB_past {l : List UInt8} (h : prB (l.take l.length) = true) : prB (l.take (l.length + 1)) = true := by
  rw [List.take_length] at h
  rw [List.take_of_length_le (by omega)]
  exact h
theorem SF.endPush {l : List UInt8} {b : Nat} {out : List (List UInt8)} (h : SF l l.length b out) (hb : b < l.length) : SF l (l.length + 1) (l.length + 1) (out ++ [(l.take l.length).drop b]) := by
  obtain ⟨h1, h2, h3⟩ := h
  refine ⟨prB_past h1, by simp; omega, .inr ⟨rfl, ?_⟩⟩
  rcases h3 with ⟨_, h4, h5⟩ | ⟨h4, _⟩
  · rw [h5, List.drop_length]
    have hne := cur_ne (l := l) hb (Nat.le_refl _)
    generalize (l.take l.length).drop b = c at hne
    cases c with
    | nil => exact absurd rfl hne
    | cons x y => rfl
  · omega
theorem SF.endSkip {l : List UInt8} {out : List (List UInt8)} (h : SF l l.length l.length out) : SF l (l.length + 1) (l.length + 1) out := by
  obtain ⟨h1, h2, h3⟩ := h
  refine ⟨prB_past h1, by omega, .inr ⟨rfl, ?_⟩⟩
  rcases h3 with ⟨_, h4, h5⟩ | ⟨h4, _⟩
  · rw [h5, cur_nil, List.drop_length]
    simp [Lib.fieldsGo]
  · omega
theorem SF.bad {l : List UInt8} {k : Nat} (hk : k < l.length) (hp : prC l[k] = false) : ¬ (l.length ≤ 600 ∧ prB l = true ∧ (Lib.fields l).length ≤ 24) := fun h => by
  rw [prB_no hk hp] at h; cases h.2.1
theorem SF.done {l : List UInt8} {b : Nat} {out : List (List UInt8)} (h : SF l (l.length + 1) b out) : Lib.fields l = out ∧ prB l = true := by
  obtain ⟨h1, h2, h3⟩ := h
  rw [List.take_of_length_le (by omega)] at h1
  rcases h3 with ⟨h4, _⟩ | ⟨_, h5⟩
  · omega
  · exact ⟨h5, h1⟩
theorem ext_strV (s : ByteArray) (b k : Nat) (hbk : b ≤ k) : Value.string (s.extract b k) = strV ((s.data.toList.take k).drop b) := by
  unfold strV
  have h : (s.extract b k).data.toList = (s.data.toList.drop b).take (k - b) := by simp [ByteArray.data_extract, List.extract_eq_take_drop]
  congr 1
  apply ByteArray.ext
  apply Array.ext'
  rw [h]
  simp [List.drop_take]

def SpecAt (l : List UInt8) (base k b : Nat) (v : Value) (w0 w : World) : Prop := ∃ out, SF l k b out ∧ OwnS w base v out ∧ Below base w0 w ∧ base ≤ w.heap.size

set_option maxHeartbeats 2000000 in
theorem specSplitFields_any (s : ByteArray) (w : World) (hs : s.size ≤ 1048576) :
    Calls Tryd.prog 62 #[.string s] w fun e w' => SplitPost s.data.toList w e w' := by
  have hsz : s.data.toList.length = s.size := by simp
  by_cases h6 : 600 < s.size
  · have HN := Lib.hid (show ¬ (s.data.toList.length ≤ 600 ∧ prB s.data.toList = true ∧ (Lib.fields s.data.toList).length ≤ 24) from fun h => by omega)
    clear hsz
    go_enter Tryd.func62, Tryd.ntmps62
    go_wp2
    go_ret2
    exact SplitPost.no HN.out (OwnS.made0 w) ((Below.refl _ _).alloc (Nat.le_refl _) _)
  · have hst : SpecAt s.data.toList w.heap.size 0 0 (.slice (some ⟨w.heap.size, 0, none⟩) 0 0) w (w.alloc (.cells #[] 9)) := ⟨[], SF.start _, OwnS.made0 w, (Below.refl _ _).alloc (Nat.le_refl _) _, by simp⟩
    have HS := Lib.hid hsz
    clear hsz
    go_enter Tryd.func62, Tryd.ntmps62
    go_wp2
    go_loopw [4, 5, 6] (fun v b i wr => ∃ k bg : Nat, k ≤ s.size + 1 ∧ bg ≤ k ∧ i = .int .i64 (k : Int) ∧ b = .int .i64 (bg : Int) ∧ SpecAt s.data.toList w.heap.size k bg v w wr) (fun _ _ i _ => s.size + 1 - (intOf i).toNat)
    case atStart => exact ⟨0, 0, Nat.zero_le _, Nat.le_refl _, rfl, rfl, hst⟩
    case round =>
      obtain ⟨k, bg, hk, hbg, rfl, rfl, out, hsf, hown, hb, hB⟩ := hrel
      by_cases hlt : k < s.size
      · have hl : s[k].toNat ≤ 255 := by have := s[k].toNat_lt; omega
        have hkL : k < s.data.toList.length := by rw [HS.out]; exact hlt
        by_cases hg : 32 ≤ s[k].toNat ∧ s[k].toNat ≤ 126
        · have hp : prC s.data.toList[k] = true := by rw [← byteAt s k hlt]; exact prC_iff.2 hg
          by_cases h32 : s[k].toNat = 32
          · have h32c : s.data.toList[k] = 32 := by rw [← byteAt s k hlt]; exact UInt8.toNat_inj.1 (by simpa using h32)
            have hb32 : ((s[k].toNat : Int) != 32) = false := by simp [h32]
            have hlo : decide ((s[k].toNat : Int) < 32) = false := by simp; omega
            have hhi : decide (126 < (s[k].toNat : Int)) = false := by simp; omega
            by_cases hbk : bg < k
            · have hst := hsf.push hkL h32c hbk
              have hlen : out.length ≤ 1000000 := by have := hsf.2.1; omega
              have hE := ext_strV s bg k hbg
              have HST := Lib.hid hst
              have HW := Lib.hid hown
              have HE := Lib.hid hE
              clear hsf hst hown hE hp h32c
              go_wp2_with (at_builtin; refine list_str rfl (.tmp 48) (.tmp 53) rfl w.heap.size _ _ rfl HW.out _ _ _ HE.out rfl hlen hB ?_; intro v' w2 ho hg2)
              go_roundw
              case rel => exact ⟨k + 1, k + 1, by omega, by omega, by go_num, by go_num, _, HST.out, ho, (hb.alloc hB _).grown hg2 (by simp; omega) (fun r hr => (HW.out.lt r hr).1), Nat.le_trans (by simp; omega) hg2.size⟩
              case measure => simp [intOf]; omega
            · have hbe : bg = k := by omega
              subst hbe
              have hst := hsf.skip hkL h32c
              have HST := Lib.hid hst
              have HW := Lib.hid hown
              clear hsf hst hown hp h32c
              go_wp2
              go_roundw
              case rel => exact ⟨bg + 1, bg + 1, by omega, by omega, by go_num, by go_num, _, HST.out, HW.out, hb, hB⟩
              case measure => simp [intOf]; omega
          · have hst := hsf.more hkL hp (by rw [← byteAt s k hlt]; exact fun e => h32 (by rw [e]; rfl))
            have hb32 : ((s[k].toNat : Int) != 32) = true := by simp; omega
            have hlo : decide ((s[k].toNat : Int) < 32) = false := by simp; omega
            have hhi : decide (126 < (s[k].toNat : Int)) = false := by simp; omega
            have HST := Lib.hid hst
            have HW := Lib.hid hown
            clear hsf hst hown hp
            go_wp2
            go_roundw
            case rel => exact ⟨k + 1, bg, by omega, by omega, by go_num, rfl, _, HST.out, HW.out, hb, hB⟩
            case measure => simp [intOf]; omega
        · have hp : prC s.data.toList[k] = false := by
            cases hc : prC s.data.toList[k]
            · rfl
            · rw [← byteAt s k hlt] at hc; exact absurd (prC_iff.1 hc) hg
          have HN := Lib.hid (SF.bad hkL hp)
          clear hp hsf hown
          have hor : s[k].toNat < 32 ∨ 126 < s[k].toNat := by omega
          rcases hor with hor | hor
          · go_wp2
            go_ret2
            exact SplitPost.no HN.out ((OwnS.made0 _).low hB) (hb.alloc hB _)
          · have hlo : decide ((s[k].toNat : Int) < 32) = false := by simp; omega
            go_wp2
            go_ret2
            exact SplitPost.no HN.out ((OwnS.made0 _).low hB) (hb.alloc hB _)
      · by_cases hke : k = s.size
        · have hkl : k = s.data.toList.length := by rw [HS.out]; exact hke
          have hlen : out.length ≤ 1000000 := by have := hsf.2.1; omega
          have hE := ext_strV s bg k hbg
          by_cases hbk : bg < k
          · have hst : SF s.data.toList (k + 1) (k + 1) (out ++ [(s.data.toList.take k).drop bg]) := by
              subst hkl
              exact hsf.endPush hbk
            have HST := Lib.hid hst
            have HW := Lib.hid hown
            have HE := Lib.hid hE
            clear hsf hst hown hE hkl hlt
            have hlt : ¬ k < s.size := by omega
            have hle : k ≤ s.size := by omega
            clear hke
            go_wp2_with (at_builtin; refine list_str rfl (.tmp 48) (.tmp 53) rfl w.heap.size _ _ rfl HW.out _ _ _ HE.out rfl hlen hB ?_; intro v' w2 ho hg2)
            go_roundw
            case rel => exact ⟨k + 1, k + 1, by omega, by omega, by go_num, by go_num, _, HST.out, ho, (hb.alloc hB _).grown hg2 (by simp; omega) (fun r hr => (HW.out.lt r hr).1), Nat.le_trans (by simp; omega) hg2.size⟩
            case measure => simp [intOf]; omega
          · have hbe : bg = k := by omega
            have hst : SF s.data.toList (k + 1) (k + 1) out := by
              subst hbe
              subst hkl
              exact hsf.endSkip
            have HST := Lib.hid hst
            have HW := Lib.hid hown
            clear hsf hst hown hE hkl hlt
            have hlt : ¬ k < s.size := by omega
            have hle : k ≤ s.size := by omega
            clear hke
            subst hbe
            go_wp2
            go_roundw
            case rel => exact ⟨bg + 1, bg + 1, by omega, by omega, by go_num, by go_num, _, HST.out, HW.out, hb, hB⟩
            case measure => simp [intOf]; omega
        · have hgt0 : s.size < k := by omega
          have hkl : k = s.data.toList.length + 1 := by rw [HS.out]; omega
          rw [hkl] at hsf
          obtain ⟨hf, hpr⟩ := hsf.done
          rcases hown.shape with ⟨rfl, rfl⟩ | ⟨g, cap, rfl, _, _, hcap, _⟩
          · have HY := Lib.hid (show (s.data.toList.length ≤ 600 ∧ prB s.data.toList = true ∧ (Lib.fields s.data.toList).length ≤ 24) from ⟨by rw [HS.out]; omega, hpr, by rw [hf]; simp⟩)
            have HF := Lib.hid hf
            have HW := Lib.hid hown
            clear hkl hf hpr hsf hown hke
            have hgt : decide ((k : Int) ≤ (s.size : Int)) = false := by simp; omega
            go_wp2
            go_ret2
            exact SplitPost.yes HY.out (by rw [HF.out]; exact HW.out) hb
          · by_cases h24 : 24 < out.length
            · have HN := Lib.hid (show ¬ (s.data.toList.length ≤ 600 ∧ prB s.data.toList = true ∧ (Lib.fields s.data.toList).length ≤ 24) from fun h => by rw [hf] at h; omega)
              clear hkl hf hpr hsf hown hke
              have hgt : decide ((k : Int) ≤ (s.size : Int)) = false := by simp; omega
              go_wp2
              go_ret2
              exact SplitPost.no HN.out ((OwnS.made0 _).low hB) (hb.alloc hB _)
            · have HY := Lib.hid (show (s.data.toList.length ≤ 600 ∧ prB s.data.toList = true ∧ (Lib.fields s.data.toList).length ≤ 24) from ⟨by rw [HS.out]; omega, hpr, by rw [hf]; omega⟩)
              have HF := Lib.hid hf
              have HW := Lib.hid hown
              clear hkl hf hpr hsf hown hke
              have hgt : decide ((k : Int) ≤ (s.size : Int)) = false := by simp; omega
              go_wp2
              go_ret2
              exact SplitPost.yes HY.out (by rw [HF.out]; exact HW.out) hb
end Go.Proofs.YtobpnoiienpipaaDoor
