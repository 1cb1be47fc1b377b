/-
  What is proved: lists of texts that came in: how they are read, sized and copied by the exact laws.
  Conditions: those that each fact names.
-/
import Derived.Test.YtobpnoiienpipaaDoorStrs
import Derived.Laws.OwnMore
namespace Go.Proofs.YtobpnoiienpipaaDoor
set_option linter.unusedVariables false
open Go.RowKit

/-- The slice v reads as the texts ls. -/
def TRow (w : World) (v : Value) (ls : List (List UInt8)) : Prop := ((∃ a c, v = .slice a 0 c) ∧ ls = []) ∨ ∃ g o cap, v = .slice (some ⟨g, o, none⟩) ls.length cap ∧ ls.length ≤ cap ∧ ∀ k (h : k < ls.length), w.cell? ⟨g, o + k, none⟩ = some (strV ls[k])
theorem TRow.lenv {w : World} {v : Value} {ls : List (List UInt8)} (h : TRow w v ls) : ∃ a c, v = .slice a ls.length c := by
  rcases h with ⟨⟨a, c, rfl⟩, rfl⟩ | ⟨g, o, cap, rfl, _⟩ <;> exact ⟨_, _, rfl⟩
theorem TRow.below {w w' : World} {v : Value} {ls : List (List UInt8)} (h : TRow w v ls) (hb : Below w.heap.size w w') : TRow w' v ls := by
  rcases h with h | ⟨g, o, cap, rfl, hc, hcell⟩
  · exact .inl h
  · exact .inr ⟨g, o, cap, rfl, hc, fun k hk => (below_grown hb).cell (hcell k hk) (by simp)⟩
theorem TRow.any {w : World} {v : Value} {ls : List (List UInt8)} (h : TRow w v ls) : ∃ a c, v = .slice a ls.length c ∧ ∀ k (hk : k < ls.length), ∃ g o, a = some ⟨g, o, none⟩ ∧ ls.length ≤ c ∧ w.cell? ⟨g, o + k, none⟩ = some (strV ls[k]) := by
  rcases h with ⟨⟨a, c, rfl⟩, rfl⟩ | ⟨g, o, cap, rfl, hc, hcell⟩
  · exact ⟨_, _, rfl, fun k hk => absurd hk (by simp)⟩
  · exact ⟨_, _, rfl, fun k hk => ⟨g, o, rfl, hc, hcell k hk⟩⟩
theorem OwnS.row {w : World} {base : Nat} {v : Value} {ls : List (List UInt8)} (h : OwnS w base v ls) : TRow w v ls := by
  rcases h.shape with ⟨rfl, rfl⟩ | ⟨g, cap, rfl, _, _, hc, _⟩
  · exact .inl ⟨⟨_, _, rfl⟩, rfl⟩
  · exact .inr ⟨g, 0, cap, rfl, hc, fun k hk => by rw [Nat.zero_add]; exact (h.cell k hk).1⟩
theorem OwnS.same {w w' : World} {base : Nat} {v : Value} {ls : List (List UInt8)} (h : OwnS w base v ls) (hk : ∀ k, base ≤ k → k < w.heap.size → w'.heap[k]? = w.heap[k]?) : OwnS w' base v ls := by
  refine ⟨h.1, h.2.imp id fun ⟨g, cap, cur, h1, h2, h3, h4⟩ => ⟨g, cap, cur, h1, h2, ?_, h4⟩⟩
  rw [hk g h2 (Array.getElem?_eq_some_iff.1 h3).1]
  exact h3
/-- The size of texts, as the exact laws count it. -/
def totT (ls : List (List UInt8)) : Nat := ls.length + (ls.map List.length).sum
def szT (ls : List (List UInt8)) (left : Nat) : Int := if totT ls ≤ left then ((left - totT ls : Nat) : Int) else -1
theorem sum_take (ls : List (List UInt8)) (k : Nat) (h : k < ls.length) : ((ls.take (k + 1)).map List.length).sum = ((ls.take k).map List.length).sum + ls[k].length := by
  rw [List.take_add_one, List.getElem?_eq_getElem h, List.map_append, List.sum_append]
  simp
theorem sum_le (ls : List (List UInt8)) (k : Nat) : ((ls.take k).map List.length).sum ≤ (ls.map List.length).sum := by
  have h : (ls.map List.length).sum = ((ls.take k).map List.length).sum + ((ls.drop k).map List.length).sum := by
    rw [← List.sum_append, ← List.map_append, List.take_append_drop]
  omega
theorem szT_len {ls : List (List UInt8)} {left : Nat} (h : left < ls.length) : szT ls left = -1 := by
  unfold szT totT
  rw [if_neg (by omega)]
theorem szT_part {ls : List (List UInt8)} {left k : Nat} (h : left < ls.length + ((ls.take k).map List.length).sum) : szT ls left = -1 := by
  have := sum_le ls k
  unfold szT totT
  rw [if_neg (by omega)]
theorem szT_all {ls : List (List UInt8)} {left L : Nat} (h : L + (ls.length + ((ls.take ls.length).map List.length).sum) = left) : szT ls left = (L : Int) := by
  rw [List.take_length] at h
  unfold szT totT
  rw [if_pos (by omega)]
  congr 1
  omega
set_option maxHeartbeats 1000000 in
theorem szStringS_any (v : Value) (ls : List (List UInt8)) (left : Nat) (w : World) (h : TRow w v ls) (hm : ∀ l ∈ ls, l.length ≤ maxLen) (hl : ls.length ≤ maxLen) (hL : left ≤ 1048576) :
    Calls Tryd.prog 31 #[v, .int .i64 (left : Int)] w fun e w' => e = .returned (.int .i64 (szT ls left)) ∧ w = w' := by
  obtain ⟨a, c, rfl, hcell⟩ := h.any
  unfold maxLen at hl
  by_cases h0 : left < ls.length
  · rw [szT_len h0]
    have hw : IntKind.i64.wrap ((left : Int) - (ls.length : Int)) = (left : Int) - (ls.length : Int) := IntWalk.i64_in _ (by omega)
    clear h hcell hm
    go_enter Tryd.func31, Tryd.ntmps31
    go_wp2
    go_ret
    exact ⟨rfl, rfl⟩
  · have HC := Lib.hid hcell
    have HM := Lib.hid hm
    clear h hcell hm
    go_enter Tryd.func31, Tryd.ntmps31
    go_wp2
    go_loopw [1, 5] (fun z i wr => ∃ k L : Nat, k ≤ ls.length ∧ i = .int .i64 (k : Int) ∧ z = .int .i64 (L : Int) ∧ L + (ls.length + ((ls.take k).map List.length).sum) = left ∧ wr = w) (fun _ i _ => ls.length - (intOf i).toNat)
    case atStart => exact ⟨0, left - ls.length, Nat.zero_le _, rfl, by go_num, by simp; omega, rfl⟩
    case round =>
      obtain ⟨k, L, hk, rfl, rfl, hs, rfl⟩ := hrel
      by_cases hlt : k < ls.length
      · obtain ⟨g, o, rfl, hcap, hc⟩ := HC.out k hlt
        have hst := sum_take ls k hlt
        have hmk := HM.out _ (List.getElem_mem hlt)
        obtain ⟨S', hS'⟩ : ∃ S', ((ls.take (k + 1)).map List.length).sum = S' := ⟨_, rfl⟩
        rw [hS'] at hst
        have HSS := Lib.hid hS'
        have HP := Lib.hid (fun (hh : left < ls.length + S') => szT_part (ls := ls) (left := left) (k := k + 1) (by rw [hS']; exact hh))
        clear hS'
        unfold strV at hc
        unfold maxLen at hmk
        generalize hx : ls[k] = x at *
        have hxs : (⟨x.toArray⟩ : ByteArray).size = x.length := by simp [ByteArray.size]
        generalize (⟨x.toArray⟩ : ByteArray) = s at *
        generalize ((ls.take k).map List.length).sum = S at *
        generalize x.length = m at *
        subst hxs
        clear hx
        by_cases hneg : L < s.size
        · have hw : IntKind.i64.wrap ((L : Int) - (s.size : Int)) = (L : Int) - (s.size : Int) := IntWalk.i64_in _ (by omega)
          have HE := Lib.hid (HP.out (by omega))
          go_wp2
          go_ret
          exact ⟨by rw [HE.out]; rfl, rfl⟩
        · obtain ⟨L', rfl⟩ : ∃ L', L = L' + s.size := ⟨L - s.size, by omega⟩
          have hw : IntKind.i64.wrap (((L' + s.size : Nat) : Int) - (s.size : Int)) = (L' : Int) := by rw [IntWalk.i64_in _ (by omega)]; omega
          have hw2 : IntKind.i64.wrap ((L' : Int) + (s.size : Int) - (s.size : Int)) = (L' : Int) := by rw [IntWalk.i64_in _ (by omega)]; omega
          have HE := Lib.hid (show L' + (ls.length + S') = left by omega)
          go_wp2
          go_roundw
          case rel => exact ⟨k + 1, L', by omega, by go_num, by go_num, by rw [HSS.out]; exact HE.out, by first | trivial | rfl⟩
          case measure => simp [intOf]; omega
      · obtain rfl : k = ls.length := by omega
        have HE := Lib.hid (szT_all hs)
        clear hs
        go_wp2
        go_ret
        exact ⟨by rw [HE.out]; rfl, rfl⟩

/-- The first k texts are there, the others are still empty. -/
def mixT (ls : List (List UInt8)) (k : Nat) : List (List UInt8) := ls.take k ++ List.replicate (ls.length - k) []
theorem mixT_len (ls : List (List UInt8)) (k : Nat) (h : k ≤ ls.length) : (mixT ls k).length = ls.length := by
  unfold mixT
  rw [List.length_append, List.length_take, List.length_replicate]
  omega
theorem mixT_set (ls : List (List UInt8)) (k : Nat) (h : k < ls.length) : (mixT ls k).set k ls[k] = mixT ls (k + 1) := by
  unfold mixT
  have hl : (ls.take k).length = k := by rw [List.length_take]; omega
  rw [List.set_append_right _ _ (by omega), hl, Nat.sub_self]
  obtain ⟨m, hm⟩ : ∃ m, ls.length - k = m + 1 := ⟨ls.length - k - 1, by omega⟩
  rw [hm, List.replicate_succ, List.set_cons_zero, show ls.length - (k + 1) = m by omega, List.take_succ_eq_append_getElem h, List.append_assoc]
  rfl
theorem mixT_all (ls : List (List UInt8)) : mixT ls ls.length = ls := by unfold mixT; simp
theorem make_texts (n : Nat) (hn : n ≤ 3000000) (W : World) : (Instr.makeSlice 25 (.int .i64 (n : Int)) (.int .i64 (n : Int))).run Tryd.prog W = .ok (.slice (some ⟨W.heap.size, 0, none⟩) n n) (W.alloc (.cells (madeCells #[.string ⟨#[]⟩] n) 9)) := by
  obtain ⟨i0, hi, hz0, hz1, hz2⟩ := info_parts info_str
  have h := run_make (P := Tryd.prog) W 25 9 i0 _ Tryd.underlying25 hi hz0 .i64 .i64 n n (by omega) (by omega) (by rw [hz2]; omega) (by omega)
  rw [hz1] at h
  simpa [Value.cells] using h
theorem own_texts (n : Nat) (hn : n ≤ 3000000) (W : World) : OwnS (W.alloc (.cells (madeCells #[.string ⟨#[]⟩] n) 9)) W.heap.size (.slice (some ⟨W.heap.size, 0, none⟩) n n) (List.replicate n []) := by
  refine ⟨by simp, .inr ⟨W.heap.size, n, madeCells #[.string ⟨#[]⟩] n, by simp, Nat.le_refl _, heap_alloc_new W _, by simp, by unfold maxLen; omega, by rw [size_madeCells]; omega, ?_⟩⟩
  rw [toList_madeCells_one, List.length_replicate, Nat.mul_one, List.take_of_length_le (by simp), List.map_replicate]
  rfl
set_option maxHeartbeats 1000000 in
theorem toStringS_any (v : Value) (ls : List (List UInt8)) (w : World) (h : TRow w v ls) (hl : ls.length ≤ 3000000) :
    Calls Tryd.prog 33 #[v] w fun e w' => ∃ v', e = .returned v' ∧ OwnS w' w.heap.size v' ls ∧ Below w.heap.size w w' := by
  have hmk := make_texts ls.length hl w
  have hst := own_texts ls.length hl w
  have hbel : Below w.heap.size w (w.alloc (.cells (madeCells #[.string ⟨#[]⟩] ls.length) 9)) := (Below.refl _ _).alloc (Nat.le_refl _) _
  obtain ⟨a, c, rfl, hcell⟩ := h.any
  have HC := Lib.hid hcell
  have HST := Lib.hid (show OwnS (w.alloc (.cells (madeCells #[.string ⟨#[]⟩] ls.length) 9)) w.heap.size (.slice (some ⟨w.heap.size, 0, none⟩) ls.length ls.length) (mixT ls 0) by unfold mixT; simpa using hst)
  clear hcell hst h
  go_enter Tryd.func33, Tryd.ntmps33
  go_wp2
  clear hmk
  generalize w.alloc (.cells (madeCells #[.string ⟨#[]⟩] ls.length) 9) = w1 at *
  go_loopw [4] (fun i wr => ∃ k : Nat, k ≤ ls.length ∧ i = .int .i64 (k : Int) ∧ Below w.heap.size w wr ∧ OwnS wr w.heap.size (.slice (some ⟨w.heap.size, 0, none⟩) ls.length ls.length) (mixT ls k)) (fun i _ => ls.length - (intOf i).toNat)
  case atStart => exact ⟨0, Nat.zero_le _, rfl, hbel, HST.out⟩
  case round =>
    obtain ⟨k, hk, rfl, hb, hm⟩ := hrel
    have HM := Lib.hid hm
    clear hm HST
    by_cases hlt : k < ls.length
    · obtain ⟨g, o, rfl, hcap, hcc⟩ := HC.out k hlt
      have hc0 := (below_grown hb).cell hcc (by simp)
      obtain ⟨hx0, hf0⟩ := HM.out.cell k (by rw [mixT_len _ _ hk]; exact hlt)
      have hm3 := HM.out.store k ls[k]
      rw [mixT_set _ _ hlt] at hm3
      unfold strV at hc0 hx0 hm3
      generalize hq : (mixT ls k)[k]'(by rw [mixT_len _ _ hk]; exact hlt) = q at *
      generalize ls[k] = x at *
      have HM3 := Lib.hid hm3
      clear hm3 hcc hq
      go_wp2
      go_roundw
      case rel => exact ⟨k + 1, by omega, by go_num, hb.setCell (Nat.le_refl _) _, HM3.out⟩
      case measure => simp [intOf]; omega
    · have hkk : k = ls.length := by omega
      subst hkk
      have HN := Lib.hid (show OwnS wr w.heap.size (.slice (some ⟨w.heap.size, 0, none⟩) ls.length ls.length) ls by have := HM.out; rwa [mixT_all] at this)
      go_wp2
      go_ret
      exact ⟨_, rfl, HN.out, hb⟩
end Go.Proofs.YtobpnoiienpipaaDoor
