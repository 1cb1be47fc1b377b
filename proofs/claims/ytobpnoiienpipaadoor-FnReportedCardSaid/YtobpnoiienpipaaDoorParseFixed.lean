/-
  What is proved: the walk of ParseFixed.
  Conditions: the argument is a string of at most 1048576 bytes.
-/
import Derived.Test.YtobpnoiienpipaaDoorPkDec
import Derived.Test.YtobpnoiienpipaaDoorScan
namespace Go.Proofs.YtobpnoiienpipaaDoor
set_option linter.unusedVariables false
open Go.RowKit

theorem ret_sb {a : ByteArray} {b : Bool} : Ending.returned (.tuple #[.string a, .bool b]) = Ending.returned (.tuple #[.string a, .bool b]) := rfl
/-- Is there a sign, and what stands behind it. -/
def isNeg (s : ByteArray) : Bool := decide (s.data.toList.head? = some 45)
def amt (s : ByteArray) : ByteArray := if s.data.toList.head? = some 45 then s.extract 1 s.size else s
theorem amt_size (s : ByteArray) : (amt s).size ≤ s.size := by
  unfold amt; split
  · rw [ByteArray.size_extract]; omega
  · exact Nat.le_refl _
theorem ex_list (s : ByteArray) (a b : Nat) : (s.extract a b).data.toList = (s.data.toList.drop a).take (b - a) := by
  simp [ByteArray.data_extract, List.extract_eq_take_drop]
theorem cut_yes (s : ByteArray) (w : World) (hs : s.size ≤ 1048576) (h1 : 1 ≤ s.size) (hb : (s.extract 0 1).toList = [45]) :
    Calls Tryd.prog 124 #[.string s, .string ⟨#[45]⟩] w fun e w' => e = .returned (.tuple #[.string (s.extract 1 s.size), .bool true]) ∧ w = w' := by
  go_enter Tryd.func124, Tryd.ntmps124
  go_wp2
  go_ret2
  exact ⟨rfl, rfl⟩
theorem cut_no0 (s : ByteArray) (w : World) (hs : s.size < 1) :
    Calls Tryd.prog 124 #[.string s, .string ⟨#[45]⟩] w fun e w' => e = .returned (.tuple #[.string s, .bool false]) ∧ w = w' := by
  go_enter Tryd.func124, Tryd.ntmps124
  go_wp2
  go_ret2
  exact ⟨rfl, rfl⟩
theorem cut_no1 (s : ByteArray) (w : World) (hs : s.size ≤ 1048576) (h1 : 1 ≤ s.size) (c : UInt8) (hl : (s.extract 0 1).toList = [c]) (hb : ((c == 45) = false)) :
    Calls Tryd.prog 124 #[.string s, .string ⟨#[45]⟩] w fun e w' => e = .returned (.tuple #[.string s, .bool false]) ∧ w = w' := by
  have hc : c ≠ 45 := by simpa using hb
  go_enter Tryd.func124, Tryd.ntmps124
  go_wp2
  go_ret2
  exact ⟨rfl, rfl⟩
theorem cutPrefix_any (s : ByteArray) (w : World) (hs : s.size ≤ 1048576) :
    Calls Tryd.prog 124 #[.string s, .string ⟨#[45]⟩] w fun e w' => e = .returned (.tuple #[.string (amt s), .bool (isNeg s)]) ∧ w = w' := by
  have hsz : s.data.toList.length = s.size := by simp
  by_cases h1 : 1 ≤ s.size
  · have e1 : (s.extract 0 1).toList = s.data.toList.take 1 := by rw [ByteArray.toList_eq, ex_list]; rfl
    cases hl : s.data.toList with
    | nil => rw [hl] at hsz; simp at hsz; omega
    | cons c r =>
      have e2 : (s.extract 0 1).toList = [c] := by rw [e1, hl]; rfl
      by_cases hc : c = 45
      · subst hc
        have e3 : amt s = s.extract 1 s.size ∧ isNeg s = true := by unfold amt isNeg; rw [hl]; exact ⟨if_pos rfl, rfl⟩
        rw [e3.1, e3.2]
        exact cut_yes s w hs h1 e2
      · have e3 : amt s = s ∧ isNeg s = false := by unfold amt isNeg; rw [hl]; simp [hc]
        rw [e3.1, e3.2]
        exact cut_no1 s w hs h1 c e2 (by simpa using hc)
  · have hl : s.data.toList = [] := List.eq_nil_of_length_eq_zero (by omega)
    have e3 : amt s = s ∧ isNeg s = false := by unfold amt isNeg; rw [hl]; simp
    rw [e3.1, e3.2]
    exact cut_no0 s w (by omega)

theorem core_at (t : List UInt8) (m : Nat) (h : t.length = m + 4) : core t = if t.getD m 0 = 46 ∧ puB (t.take m) = true ∧ (t.drop (m + 1)).all isDig = true ∧ 1000 * puV (t.take m) + nv (t.drop (m + 1)) ≤ 1000000000
    then some (1000 * puV (t.take m) + nv (t.drop (m + 1))) else none := by
  unfold core
  rw [show t.length - 4 = m by omega, show t.length - 3 = m + 1 by omega]
  have h4 : 4 ≤ t.length := by omega
  simp only [h4, true_and]
theorem core_short (t : List UInt8) (h : t.length < 4) : core t = none := by unfold core; rw [if_neg (by omega)]
theorem fxP_amt (s : ByteArray) : fxP s.data.toList = if isNeg s then (core (amt s).data.toList).bind fun n => if n = 0 then none else some (-(n : Int)) else (core (amt s).data.toList).map Int.ofNat := by
  unfold fxP isNeg amt
  by_cases h : s.data.toList.head? = some 45
  · rw [if_pos h, if_pos (by simpa using h), if_pos h, ex_list]
    rw [List.take_of_length_le (by rw [List.length_drop]; simp)]
  · rw [if_neg h, if_neg (by simpa using h), if_neg h]

/-- ParseFixed's answer. -/
def FixPost (l : List UInt8) (w : World) (e : Ending) (w' : World) : Prop := e = .returned (.tuple #[.int .i64 ((fxP l).getD 0), .bool (fxP l).isSome]) ∧ Below w.heap.size w w'
theorem FixPost.no {l : List UInt8} {w w' : World} (h : fxP l = none) (hb : Below w.heap.size w w') : FixPost l w (.returned (.tuple #[.int .i64 0, .bool false])) w' := ⟨by rw [h]; rfl, hb⟩
theorem FixPost.yes {l : List UInt8} {n : Int} {w w' : World} (h : fxP l = some n) (hb : Below w.heap.size w w') : FixPost l w (.returned (.tuple #[.int .i64 n, .bool true])) w' := ⟨by rw [h]; rfl, hb⟩
theorem fxP_none {s : ByteArray} (h : core (amt s).data.toList = none) : fxP s.data.toList = none := by rw [fxP_amt, h]; split <;> rfl
theorem nv3_le (l : List UInt8) (h : l.length ≤ 3) (hd : ∀ c ∈ l, isDig c = true) : nv l ≤ 999 := by
  match l, h with
  | [], _ => decide
  | [a], _ => have := isDig_iff.1 (hd a (by simp)); simp only [nv, List.foldl_cons, List.foldl_nil]; omega
  | [a, b], _ => have := isDig_iff.1 (hd a (by simp)); have := isDig_iff.1 (hd b (by simp)); simp only [nv, List.foldl_cons, List.foldl_nil]; omega
  | [a, b, c], _ => have := isDig_iff.1 (hd a (by simp)); have := isDig_iff.1 (hd b (by simp)); have := isDig_iff.1 (hd c (by simp)); simp only [nv, List.foldl_cons, List.foldl_nil]; omega
theorem scan3 {p : List UInt8} {n k : Nat} (h : ScanEnd p n k) (hp : p.length = 3) : n ≤ 999 ∧ (k = 3 → p.all isDig = true ∧ n = nv p) ∧ (k ≠ 3 → p.all isDig = false) := by
  have hn : n ≤ 999 := by
    rw [h.1.val]
    exact nv3_le _ (by rw [List.length_take]; omega) h.1.dig
  refine ⟨hn, fun hk => ?_, fun hk => ?_⟩
  · obtain ⟨e, hd⟩ := h.whole (by omega)
    exact ⟨List.all_eq_true.2 hd, e⟩
  · rcases h.2 with h2 | h2 | ⟨h2, h3⟩
    · omega
    · omega
    · cases ha : p.all isDig
      · rfl
      · have := List.all_eq_true.1 ha _ (List.getElem_mem h2)
        rw [h3] at this; cases this

set_option maxHeartbeats 1000000 in
theorem parseFixed_any (s : ByteArray) (w : World) (hs : s.size ≤ 1048576) :
    Calls Tryd.prog 117 #[.string s] w fun e w' => FixPost s.data.toList w e w' := by
  have hf := fxP_amt s
  have hno := fxP_none (s := s)
  have hA := amt_size s
  have hcut := cutPrefix_any s w hs
  generalize hAA : amt s = A at *
  generalize isNeg s = neg at *
  have hsz : A.data.toList.length = A.size := by simp
  have HC := Lib.hid hcut
  have HF := Lib.hid hf
  have HN := Lib.hid hno
  clear hcut hf hno hAA
  by_cases h4 : A.size < 4
  · have H := HN.out (core_short _ (by omega))
    clear hsz
    go_enter Tryd.func117, Tryd.ntmps117
    go_wp2_with fail
    refine HC.out.mono ?_
    rintro e w1 ⟨rfl, rfl⟩
    go_wp2
    go_ret2
    exact FixPost.no H (Below.refl _ _)
  · obtain ⟨m, hm⟩ : ∃ m, A.size = m + 4 := ⟨A.size - 4, by omega⟩
    have hcore := core_at A.data.toList m (by omega)
    have hlt : m < A.size := by omega
    have hgd : A.data.toList.getD m 0 = A[m] := by rw [byte_at A m hlt, List.getD, List.getElem?_eq_getElem (by simpa using hlt)]; rfl
    rw [hgd] at hcore
    by_cases h46 : A[m].toNat = 46
    · have h46b : ((A[m].toNat : Int) != 46) = false := by simp [h46]
      have hw : (A.extract 0 m).data.toList = A.data.toList.take m := by rw [ex_list]; rfl
      have hp : (A.extract (m + 1) (m + 4)).data.toList = A.data.toList.drop (m + 1) := by
        rw [ex_list, List.take_of_length_le (by rw [List.length_drop]; omega)]
      have hpl : (A.data.toList.drop (m + 1)).length = 3 := by rw [List.length_drop]; omega
      have hw1 := parseUint_any (A.extract 0 m) w (by rw [ByteArray.size_extract]; omega)
      have hp1 := scanDigits_any (A.extract (m + 1) (m + 4)) w (by rw [ByteArray.size_extract]; omega)
      rw [hw] at hw1
      rw [hp] at hp1
      have hle := puV_le (A.data.toList.take m)
      have h46c : A[m] = 46 := UInt8.toNat_inj.1 (by simpa using h46)
      simp only [h46c, true_and] at hcore
      generalize A.data.toList.take m = wl at *
      generalize A.data.toList.drop (m + 1) = pl at *
      have HW := Lib.hid hw1
      have HP := Lib.hid hp1
      have HK := Lib.hid hcore
      clear hcore hgd hsz h46 hw hp hw1 hp1 h46c
      have HL := Lib.hid hpl
      clear hpl
      go_enter Tryd.func117, Tryd.ntmps117
      go_wp2_with fail
      refine HC.out.mono ?_
      rintro e w1 ⟨rfl, rfl⟩
      go_wp2_with fail
      refine HW.out.mono ?_
      rintro e w1 ⟨rfl, rfl⟩
      go_wp2_with fail
      refine HP.out.mono ?_
      rintro e w1 ⟨n, k, rfl, he, _, _, rfl⟩
      obtain ⟨hn, hk3, hkn⟩ := scan3 he HL.out
      cases hB : puB wl with
      | false =>
        have H := HN.out (by rw [HK.out, hB, if_neg (by simp)])
        clear he hk3 hkn
        go_wp2
        go_ret2
        exact FixPost.no H (Below.refl _ _)
      | true =>
        by_cases hk : k = 3
        · obtain ⟨hall, hval⟩ := hk3 hk
          have HKK := Lib.hid hk
          have hkb : ((k : Int) != 3) = false := by simp [hk]
          by_cases hbig : 1000000000 < 1000 * puV wl + n
          · have H := HN.out (by rw [HK.out, if_neg (fun h => by have := h.2.2; omega)])
            have hbg : 1000000000 < 1000 * (puV wl : Int) + n := by omega
            clear he hk3 hkn hall hval hk
            go_wp2
            go_ret2
            exact FixPost.no H (Below.refl _ _)
          · have hc : core A.data.toList = some (1000 * puV wl + n) := by rw [HK.out, if_pos ⟨hB, hall, by omega⟩, hval]
            have hbg : ¬ 1000000000 < 1000 * (puV wl : Int) + n := by omega
            have hF := HF.out
            rw [hc] at hF
            clear he hk3 hkn hall hval hk hc
            generalize hz : 1000 * puV wl + n = z at hF
            have hzi : 1000 * (puV wl : Int) + n = z := by omega
            have HZ := Lib.hid hF
            clear hF hz
            cases neg with
            | true =>
              by_cases hz0 : z = 0
              · have hz2 : ((z : Int) != 0) = false := by simp [hz0]
                have H : fxP s.data.toList = none := by rw [HZ.out, if_pos rfl]; simp only [Option.bind_some]; rw [if_pos hz0]
                subst hz0
                go_wp2
                go_ret2
                exact FixPost.no H (Below.refl _ _)
              · have hz2 : ((z : Int) != 0) = true := by simp [hz0]
                have H : fxP s.data.toList = some (-(z : Int)) := by rw [HZ.out, if_pos rfl]; simp only [Option.bind_some]; rw [if_neg hz0]
                clear hz0
                go_wp2
                go_ret2
                exact FixPost.yes H (Below.refl _ _)
            | false =>
              have H : fxP s.data.toList = some (z : Int) := by rw [HZ.out, if_neg (by simp)]; rfl
              go_wp2
              go_ret2
              exact FixPost.yes H (Below.refl _ _)
        · have hkb : ((k : Int) != 3) = true := by simp; omega
          have H := HN.out (by rw [HK.out, if_neg (fun h => by rw [hkn hk] at h; cases h.2.1)])
          clear he hk3 hkn hk
          go_wp2
          go_ret2
          exact FixPost.no H (Below.refl _ _)
    · have h46b : ((A[m].toNat : Int) != 46) = true := by simp; omega
      have H := HN.out (by rw [hcore, if_neg (fun h => h46 (by rw [h.1]; rfl))])
      clear hcore hgd hsz h46
      go_enter Tryd.func117, Tryd.ntmps117
      go_wp2_with fail
      refine HC.out.mono ?_
      rintro e w1 ⟨rfl, rfl⟩
      go_wp2
      go_ret2
      exact FixPost.no H (Below.refl _ _)
end Go.Proofs.YtobpnoiienpipaaDoor
