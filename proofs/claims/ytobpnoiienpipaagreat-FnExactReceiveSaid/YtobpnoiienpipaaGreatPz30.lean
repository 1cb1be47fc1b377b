/-
  What is proved: small laws on slices of texts that a call makes for itself; what the laws' own functions over them answer (comparing, marking, asking the tmarks).
  Conditions: none beyond those that each fact names.
-/
import Derived.Test.YtobpnoiienpipaaGreatPz29
import Derived.WalkKit
import Derived.WalkSpells
import Derived.WalkLawsBesides
import Derived.Deep.AppendLies
import Derived.Deep.RegionWith
import Derived.Deep.QuietTactic
import Derived.BigQuiet
import Derived.Laws.AppendOwn
import Derived.Lib.BufferWrite
import Derived.Lib.BufferOwn
import Derived.Lib.Hide
import Derived.Below
import Derived.Laws.OwnMore
namespace Go.Proofs.YtobpnoiienpipaaGreat
set_option linter.unusedVariables false
open Go.RowKit

theorem info_str : (Tryz.prog.info? 9).map (fun i => (i.zero, i.size, i.bytes)) = some (some (.string ⟨#[]⟩), 1, 16) := by kernel_rfl
def strV (l : List UInt8) : Value := .string ⟨l.toArray⟩
/-- The slice v of texts, owned from block base on, holds ls. -/
def OwnS (w : World) (base : Nat) (v : Value) (ls : List (List UInt8)) : Prop := w.ownsRow base 9 1 v ls.length (ls.map strV)
theorem OwnS.nil (w : World) (base : Nat) : OwnS w base (.slice none 0 0) [] := World.ownsRow_nil _ _ _ _
theorem OwnS.alloc {w : World} {base : Nat} {v : Value} {ls : List (List UInt8)} (h : OwnS w base v ls) (o : Obj) : OwnS (w.alloc o) base v ls := World.ownsRow.alloc h o
theorem OwnS.kept {w w' : World} {base : Nat} {v : Value} {ls : List (List UInt8)} {row : Option Nat} (h : OwnS w base v ls) (hg : w.grownBy w' row) (hne : v.ownBlock = none ∨ v.ownBlock ≠ row) : OwnS w' base v ls := World.ownsRow.kept h hg hne
theorem OwnS.lt {w : World} {base : Nat} {v : Value} {ls : List (List UInt8)} (h : OwnS w base v ls) : ∀ k, v.ownBlock = some k → base ≤ k ∧ k < w.heap.size := World.ownsRow.lt h
theorem OwnS.made0 (w : World) : OwnS (w.alloc (.cells #[] 9)) w.heap.size (.slice (some ⟨w.heap.size, 0, none⟩) 0 0) [] := World.ownsRow_made w #[] 0 (Nat.le_refl _) (by unfold maxLen; omega) rfl
theorem OwnS.below {w w' : World} {base : Nat} {v : Value} {ls : List (List UInt8)} (h : OwnS w base v ls) (hb : Below w.heap.size w w') : OwnS w' base v ls :=
  h.kept (row := none) ⟨hb.os, hb.tape, hb.output, hb.size, fun k hk _ => hb.block k hk⟩ (by cases hv : v.ownBlock <;> simp)
theorem below_grown {w w' : World} (hb : Below w.heap.size w w') : w.grownBy w' none := ⟨hb.os, hb.tape, hb.output, hb.size, fun k hk _ => hb.block k hk⟩
theorem OwnS.low {w : World} {base base' : Nat} {v : Value} {ls : List (List UInt8)} (h : OwnS w base v ls) (hb : base' ≤ base) : OwnS w base' v ls := by
  obtain ⟨h1, h2⟩ := h
  refine ⟨h1, ?_⟩
  rcases h2 with h2 | ⟨g, cap, cur, hv, hg, rest⟩
  · exact .inl h2
  · exact .inr ⟨g, cap, cur, hv, by omega, rest⟩
/-- What such a slice looks like. -/
theorem OwnS.shape {w : World} {base : Nat} {v : Value} {ls : List (List UInt8)} (h : OwnS w base v ls) :
    (v = .slice none 0 0 ∧ ls = []) ∨ ∃ g cap, v = .slice (some ⟨g, 0, none⟩) ls.length cap ∧ base ≤ g ∧ g < w.heap.size ∧ ls.length ≤ cap ∧ cap ≤ maxLen := by
  rcases h.2 with ⟨rfl, h0⟩ | ⟨g, cap, cur, rfl, hb, hg, hn, hc, _⟩
  · exact .inl ⟨rfl, List.eq_nil_of_length_eq_zero h0⟩
  · exact .inr ⟨g, cap, rfl, hb, (Array.getElem?_eq_some_iff.1 hg).1, hn, hc⟩
theorem OwnS.cell {w : World} {base g n cap : Nat} {ls : List (List UInt8)} (h : OwnS w base (.slice (some ⟨g, 0, none⟩) n cap) ls) (k : Nat) (hk : k < ls.length) : w.cell? ⟨g, k, none⟩ = some (strV ls[k]) ∧ w.frozen? ⟨g, k, none⟩ = false := by
  have hc := World.ownsRow.cells h (g := g) rfl k (strV ls[k]) (by simp [hk])
  have hadd : (⟨g, 0, none⟩ : Addr).add k = ⟨g, k, none⟩ := by unfold Addr.add; split <;> simp_all
  rw [hadd] at hc
  refine ⟨hc, ?_⟩
  obtain ⟨h1, h2⟩ := h
  rcases h2 with ⟨h2, _⟩ | ⟨g', cap', cur, hv, hb, hg, hn, hcap, hsz, htk⟩
  · cases h2
  · simp only [Value.slice.injEq, Option.some.injEq, Addr.mk.injEq] at hv
    obtain ⟨⟨rfl, _⟩, _⟩ := hv
    simp [World.frozen?, hg]
theorem heap_set_s {w : World} {b i : Nat} {c : Array Value} {t : TypeId} {v : Value} (h : w.heap[b]? = some (.cells c t (0, 0))) : (w.setCell ⟨b, i, none⟩ v).heap[b]? = some (.cells (c.setIfInBounds i v) t (0, 0)) := by
  simp [World.setCell, Array.getElem?_modify, h]
theorem OwnS.store {w : World} {base g n cap : Nat} {ls : List (List UInt8)} (h : OwnS w base (.slice (some ⟨g, 0, none⟩) n cap) ls) (k : Nat) (y : List UInt8) :
    OwnS (w.setCell ⟨g, k, none⟩ (strV y)) base (.slice (some ⟨g, 0, none⟩) n cap) (ls.set k y) := by
  obtain ⟨h1, h2⟩ := h
  rcases h2 with ⟨h2, _⟩ | ⟨g', cap', cur, hv, hb, hg, hn, hcap, hsz, htk⟩
  · cases h2
  · simp only [Value.slice.injEq, Option.some.injEq, Addr.mk.injEq] at hv
    obtain ⟨⟨rfl, _⟩, rfl, rfl⟩ := hv
    refine ⟨by simp, .inr ⟨g, cap, cur.setIfInBounds k (strV y), by rw [List.length_set], hb, heap_set_s hg, by rw [List.length_set]; exact hn, hcap, by simpa using hsz, ?_⟩⟩
    rw [List.length_set, Nat.mul_one]
    rw [Nat.mul_one] at htk
    rw [Array.toList_setIfInBounds, List.take_set, htk, List.map_set]

/-! ### Comparing -/
theorem belowN {B : Nat} {a w : World} (h : Below B a w) (n : Nat) : Below B a (w.drewN n) := ⟨h.os, h.tape, h.output, h.size, h.block⟩
set_option maxHeartbeats 1000000 in
theorem eqStringS_any (v v' : Value) (ls : List (List UInt8)) (b b' : Nat) (w : World) (h : OwnS w b v ls) (h' : OwnS w b' v' ls) (hl : ls.length ≤ 3000000) :
    Calls Tryz.prog 48 #[v, v'] w fun e w' => e = .returned (.bool true) ∧ Below w.heap.size w w' := by
  by_cases h0 : ls = []
  · subst h0
    rcases h.shape with ⟨rfl, _⟩ | ⟨g, cap, rfl, _, _, _, _⟩ <;> rcases h'.shape with ⟨rfl, _⟩ | ⟨g', cap', rfl, _, _, _, _⟩
    all_goals
      clear h h' hl
      go_enter Tryz.func48, Tryz.ntmps48
      go_wp2
      go_loopw [5] (fun i wr => i = .int .i64 0 ∧ wr = w) (fun i _ => 0)
      case atStart => exact ⟨rfl, rfl⟩
      case round =>
        obtain ⟨rfl, rfl⟩ := hrel
        go_wp2
        go_ret
        exact ⟨rfl, Below.refl _ _⟩
  · rcases h.shape with ⟨rfl, e⟩ | ⟨g, cap, rfl, _, _, hc1, _⟩
    · exact absurd e h0
    · rcases h'.shape with ⟨rfl, e⟩ | ⟨g', cap', rfl, _, _, hc2, _⟩
      · exact absurd e h0
      · have H := Lib.hid h
        have H' := Lib.hid h'
        have H0 := Lib.hid h0
        clear h h' h0
        go_enter Tryz.func48, Tryz.ntmps48
        go_wp2
        go_loopw [5] (fun i wr => ∃ k q : Nat, k ≤ ls.length ∧ i = .int .i64 (k : Int) ∧ wr = w.drewN q) (fun i _ => ls.length - (intOf i).toNat)
        case atStart => exact ⟨0, 0, Nat.zero_le _, rfl, rfl⟩
        case round =>
          obtain ⟨k, q, hk, rfl, rfl⟩ := hrel
          by_cases hlt : k < ls.length
          · obtain ⟨c1, _⟩ := H.out.cell k hlt
            obtain ⟨c2, _⟩ := H'.out.cell k hlt
            unfold strV at c1 c2
            go_wp2
            go_quiet (fail)
            go_wp2
            go_roundw
            case rel => exact ⟨k + 1, _, by omega, by go_num, rfl⟩
            case measure => simp [intOf]; omega
          · go_wp2
            go_ret
            exact ⟨rfl, belowN (Below.refl _ _) _⟩

/-! ### Marks -/
def MK (n m : Nat) (l : List UInt8) : Prop := Lib.decDigits n = (if m = 0 then [] else Lib.decDigits m) ++ l
theorem dig_u8 (m : Nat) : (48 : UInt8) + UInt8.ofNat (m % 10) = UInt8.ofNat (48 + m % 10) := by
  apply UInt8.toNat_inj.1
  rw [UInt8.toNat_add, UInt8.toNat_ofNat', UInt8.toNat_ofNat']
  have : (48 : UInt8).toNat = 48 := rfl
  omega
theorem MK.start {n : Nat} (h : 0 < n) : MK n n [] := by unfold MK; rw [if_neg (by omega)]; simp
theorem MK.step {n m : Nat} {l : List UInt8} (h : MK n m l) (hm : 0 < m) : MK n (m / 10) (UInt8.ofNat (48 + m % 10) :: l) := by
  unfold MK at h ⊢
  rw [h, if_neg (by omega), decDigits_step _ (by omega : m ≠ 0)]
  simp
theorem MK.done {n : Nat} {l : List UInt8} (h : MK n 0 l) : l = Lib.decDigits n := by unfold MK at h; rw [if_pos rfl] at h; simpa using h.symm
theorem MK.len {n m : Nat} {l : List UInt8} (h : MK n m l) (hn : n ≤ 10000000) : l.length ≤ 20 := by
  have h2 : (Lib.decDigits n).length ≤ 20 := by rw [Lib.decDigits_length]; exact Lib.nDigits_le20 _ (by omega)
  unfold MK at h
  rw [h, List.length_append] at h2
  omega
def mkT (k : Nat) : List UInt8 := 109 :: Lib.decDigits k
def tmarks (k n : Nat) : List (List UInt8) := (List.range n).map fun i => mkT (k + i)
theorem tmarks_len (k n : Nat) : (tmarks k n).length = n := by simp [tmarks]
theorem tmarks_snoc (k n : Nat) : tmarks k (n + 1) = tmarks k n ++ [mkT (k + n)] := by simp [tmarks, List.range_succ]
set_option maxHeartbeats 1000000 in
theorem markText_any (k : Nat) (w : World) (h0 : 1 ≤ k) (h1 : k ≤ 10000000) :
    Calls Tryz.prog 82 #[.int .i64 (k : Int)] w fun e w' => e = .returned (.string ⟨(mkT k).toArray⟩) ∧ Below w.heap.size w w' := by
  have hs := MK.start (n := k) (by omega)
  go_enter Tryz.func82, Tryz.ntmps82
  go_wp2
  go_loopw [0, 3] (fun a s wr => ∃ (m : Nat) (l : List UInt8), m ≤ 10000000 ∧ MK k m l ∧ a = .int .i64 (m : Int) ∧ s = .string ⟨l.toArray⟩ ∧ Below w.heap.size w wr) (fun a _ _ => (intOf a).toNat)
  case atStart => exact ⟨k, [], h1, hs, rfl, rfl, Below.refl _ _⟩
  case round =>
    obtain ⟨m, l, hm1, hmk, rfl, rfl, hb⟩ := hrel
    have hl := hmk.len h1
    by_cases hm : m = 0
    · subst hm
      have hd := hmk.done
      have HD := Lib.hid hd
      clear hd hmk hs
      go_wp2
      go_ret
      refine ⟨?_, hb⟩
      unfold mkT
      rw [← HD.out]
      exact congrArg (fun x => Ending.returned (Value.string x)) (bcat [109] _)
    · have hst := hmk.step (by omega)
      clear hmk hs
      go_wp2
      refine ⟨⟨m / 10, _, by omega, hst, by go_num, ?_, hb.alloc hb.size _⟩, by simp only [intOf]; omega⟩
      rw [dig_u8]
      exact congrArg Value.string (bcat [_] _)

/-- The tmarks stand in the slice. -/
def TMarkPost (base : Nat) (v : Value) (k n : Nat) (w : World) (e : Ending) (w' : World) : Prop := e = .returned (.int .i64 ((k + n : Nat) : Int)) ∧ OwnS w' base v (tmarks k n) ∧ w.grownBy w' v.ownBlock
theorem tmark_set (k j : Nat) (ls : List (List UInt8)) (h : j < ls.length) : (tmarks k j ++ ls.drop j).set j (mkT (k + j)) = tmarks k (j + 1) ++ ls.drop (j + 1) := by
  rw [tmarks_snoc, List.append_assoc, List.set_append_right _ _ (by rw [tmarks_len]; exact Nat.le_refl _), tmarks_len, Nat.sub_self]
  rw [List.drop_eq_getElem_cons h, List.set_cons_zero]
  rfl
theorem tmark_len (k j : Nat) (ls : List (List UInt8)) (h : j ≤ ls.length) : (tmarks k j ++ ls.drop j).length = ls.length := by rw [List.length_append, tmarks_len, List.length_drop]; omega

set_option maxHeartbeats 1000000 in
theorem markStringS_any (k base : Nat) (v : Value) (ls : List (List UInt8)) (w : World) (h : OwnS w base v ls) (h0 : 1 ≤ k) (h1 : k ≤ 3000000) (hl : ls.length ≤ 3000000) :
    Calls Tryz.prog 49 #[v, .int .i64 (k : Int)] w fun e w' => TMarkPost base v k ls.length w e w' := by
  rcases h.shape with ⟨rfl, rfl⟩ | ⟨g, cap, rfl, hg, hgl, hcap, _⟩
  · have H := Lib.hid h
    clear h
    go_enter Tryz.func49, Tryz.ntmps49
    go_wp2
    go_loopw [1, 5] (fun m i wr => m = .int .i64 (k : Int) ∧ i = .int .i64 0 ∧ wr = w) (fun _ i _ => 0)
    case atStart => exact ⟨rfl, rfl, rfl⟩
    case round =>
      obtain ⟨rfl, rfl, rfl⟩ := hrel
      go_wp2
      go_ret
      exact ⟨rfl, H.out, World.grownBy.refl _ _⟩
  · have hst : OwnS w base (.slice (some ⟨g, 0, none⟩) ls.length cap) (tmarks k 0 ++ ls.drop 0) := by simpa [tmarks] using h
    have HST := Lib.hid hst
    clear h hst
    go_enter Tryz.func49, Tryz.ntmps49
    go_wp2
    go_loopw [1, 5] (fun m i wr => ∃ j : Nat, j ≤ ls.length ∧ i = .int .i64 (j : Int) ∧ m = .int .i64 ((k + j : Nat) : Int) ∧ OwnS wr base (.slice (some ⟨g, 0, none⟩) ls.length cap) (tmarks k j ++ ls.drop j) ∧ w.grownBy wr (some g)) (fun _ i _ => ls.length - (intOf i).toNat)
    case atStart => exact ⟨0, Nat.zero_le _, rfl, rfl, HST.out, World.grownBy.refl _ _⟩
    case round =>
      obtain ⟨j, hj, rfl, rfl, hown, hgr⟩ := hrel
      by_cases hlt : j < ls.length
      · have H := Lib.hid hown
        clear hown
        go_wp2_with fail
        refine (markText_any (k + j) _ (by omega) (by omega)).mono ?_
        rintro e w1 ⟨rfl, hb1⟩
        have hown1 := H.out.below hb1
        obtain ⟨c1, f1⟩ := hown1.cell j (by rw [tmark_len _ _ _ hj]; exact hlt)
        have hst2 := hown1.store j (mkT (k + j))
        rw [tmark_set _ _ _ hlt] at hst2
        have H2 := Lib.hid hst2
        have hgr1 := (hgr.trans ((below_grown hb1).but (some g))).trans (Lib.grownBy_setCell w1 g j (strV (mkT (k + j))))
        clear hown1 hst2 H
        unfold strV at c1 hgr1 H2
        generalize mkT (k + j) = t at *
        go_wp2
        go_roundw
        case rel => exact ⟨j + 1, by omega, by go_num, by go_num, H2.out, hgr1⟩
        case measure => simp [intOf]; omega
      · have hjn : j = ls.length := by omega
        rw [hjn, List.drop_length, List.append_nil] at hown
        have H := Lib.hid hown
        clear hown
        go_wp2
        go_ret
        exact ⟨ret_int (by omega), H.out, hgr⟩

end Go.Proofs.YtobpnoiienpipaaGreat

/-
  What is proved: lists of texts that came in: how they are read, sized and copied by the exact laws.
  Conditions: those that each fact names.
-/
namespace Go.Proofs.YtobpnoiienpipaaGreat
set_option linter.unusedVariables false
open Go.RowKit

/-- The slice v reads as the texts ls. -/
def TRow (w : World) (v : Value) (ls : List (List UInt8)) : Prop := ((∃ a c, v = .slice a 0 c) ∧ ls = []) ∨ ∃ g o cap, v = .slice (some ⟨g, o, none⟩) ls.length cap ∧ ls.length ≤ cap ∧ ∀ k (h : k < ls.length), w.cell? ⟨g, o + k, none⟩ = some (strV ls[k])
theorem TRow.lenv {w : World} {v : Value} {ls : List (List UInt8)} (h : TRow w v ls) : ∃ a c, v = .slice a ls.length c := by
  rcases h with ⟨⟨a, c, rfl⟩, rfl⟩ | ⟨g, o, cap, rfl, _⟩ <;> exact ⟨_, _, rfl⟩
theorem TRow.below {w w' : World} {v : Value} {ls : List (List UInt8)} (h : TRow w v ls) (hb : Below w.heap.size w w') : TRow w' v ls := by
  rcases h with h | ⟨g, o, cap, rfl, hc, hcell⟩
  · exact .inl h
  · exact .inr ⟨g, o, cap, rfl, hc, fun k hk => (below_grown hb).cell (hcell k hk) (by simp)⟩
theorem TRow.any {w : World} {v : Value} {ls : List (List UInt8)} (h : TRow w v ls) : ∃ a c, v = .slice a ls.length c ∧ ∀ k (hk : k < ls.length), ∃ g o, a = some ⟨g, o, none⟩ ∧ ls.length ≤ c ∧ w.cell? ⟨g, o + k, none⟩ = some (strV ls[k]) := by
  rcases h with ⟨⟨a, c, rfl⟩, rfl⟩ | ⟨g, o, cap, rfl, hc, hcell⟩
  · exact ⟨_, _, rfl, fun k hk => absurd hk (by simp)⟩
  · exact ⟨_, _, rfl, fun k hk => ⟨g, o, rfl, hc, hcell k hk⟩⟩
theorem OwnS.row {w : World} {base : Nat} {v : Value} {ls : List (List UInt8)} (h : OwnS w base v ls) : TRow w v ls := by
  rcases h.shape with ⟨rfl, rfl⟩ | ⟨g, cap, rfl, _, _, hc, _⟩
  · exact .inl ⟨⟨_, _, rfl⟩, rfl⟩
  · exact .inr ⟨g, 0, cap, rfl, hc, fun k hk => by rw [Nat.zero_add]; exact (h.cell k hk).1⟩
theorem OwnS.same {w w' : World} {base : Nat} {v : Value} {ls : List (List UInt8)} (h : OwnS w base v ls) (hk : ∀ k, base ≤ k → k < w.heap.size → w'.heap[k]? = w.heap[k]?) : OwnS w' base v ls := by
  refine ⟨h.1, h.2.imp id fun ⟨g, cap, cur, h1, h2, h3, h4⟩ => ⟨g, cap, cur, h1, h2, ?_, h4⟩⟩
  rw [hk g h2 (Array.getElem?_eq_some_iff.1 h3).1]
  exact h3
/-- The size of texts, as the exact laws count it. -/
def totT (ls : List (List UInt8)) : Nat := ls.length + (ls.map List.length).sum
def szT (ls : List (List UInt8)) (left : Nat) : Int := if totT ls ≤ left then ((left - totT ls : Nat) : Int) else -1
theorem sum_take (ls : List (List UInt8)) (k : Nat) (h : k < ls.length) : ((ls.take (k + 1)).map List.length).sum = ((ls.take k).map List.length).sum + ls[k].length := by
  rw [List.take_add_one, List.getElem?_eq_getElem h, List.map_append, List.sum_append]
  simp
theorem sum_le (ls : List (List UInt8)) (k : Nat) : ((ls.take k).map List.length).sum ≤ (ls.map List.length).sum := by
  have h : (ls.map List.length).sum = ((ls.take k).map List.length).sum + ((ls.drop k).map List.length).sum := by
    rw [← List.sum_append, ← List.map_append, List.take_append_drop]
  omega
theorem szT_len {ls : List (List UInt8)} {left : Nat} (h : left < ls.length) : szT ls left = -1 := by
  unfold szT totT
  rw [if_neg (by omega)]
theorem szT_part {ls : List (List UInt8)} {left k : Nat} (h : left < ls.length + ((ls.take k).map List.length).sum) : szT ls left = -1 := by
  have := sum_le ls k
  unfold szT totT
  rw [if_neg (by omega)]
theorem szT_all {ls : List (List UInt8)} {left L : Nat} (h : L + (ls.length + ((ls.take ls.length).map List.length).sum) = left) : szT ls left = (L : Int) := by
  rw [List.take_length] at h
  unfold szT totT
  rw [if_pos (by omega)]
  congr 1
  omega
set_option maxHeartbeats 1000000 in
theorem szStringS_any (v : Value) (ls : List (List UInt8)) (left : Nat) (w : World) (h : TRow w v ls) (hm : ∀ l ∈ ls, l.length ≤ maxLen) (hl : ls.length ≤ maxLen) (hL : left ≤ 1048576) :
    Calls Tryz.prog 37 #[v, .int .i64 (left : Int)] w fun e w' => e = .returned (.int .i64 (szT ls left)) ∧ w = w' := by
  obtain ⟨a, c, rfl, hcell⟩ := h.any
  unfold maxLen at hl
  by_cases h0 : left < ls.length
  · rw [szT_len h0]
    have hw : IntKind.i64.wrap ((left : Int) - (ls.length : Int)) = (left : Int) - (ls.length : Int) := IntWalk.i64_in _ (by omega)
    clear h hcell hm
    go_enter Tryz.func37, Tryz.ntmps37
    go_wp2
    go_ret
    exact ⟨rfl, rfl⟩
  · have HC := Lib.hid hcell
    have HM := Lib.hid hm
    clear h hcell hm
    go_enter Tryz.func37, Tryz.ntmps37
    go_wp2
    go_loopw [1, 5] (fun z i wr => ∃ k L : Nat, k ≤ ls.length ∧ i = .int .i64 (k : Int) ∧ z = .int .i64 (L : Int) ∧ L + (ls.length + ((ls.take k).map List.length).sum) = left ∧ wr = w) (fun _ i _ => ls.length - (intOf i).toNat)
    case atStart => exact ⟨0, left - ls.length, Nat.zero_le _, rfl, by go_num, by simp; omega, rfl⟩
    case round =>
      obtain ⟨k, L, hk, rfl, rfl, hs, rfl⟩ := hrel
      by_cases hlt : k < ls.length
      · obtain ⟨g, o, rfl, hcap, hc⟩ := HC.out k hlt
        have hst := sum_take ls k hlt
        have hmk := HM.out _ (List.getElem_mem hlt)
        obtain ⟨S', hS'⟩ : ∃ S', ((ls.take (k + 1)).map List.length).sum = S' := ⟨_, rfl⟩
        rw [hS'] at hst
        have HSS := Lib.hid hS'
        have HP := Lib.hid (fun (hh : left < ls.length + S') => szT_part (ls := ls) (left := left) (k := k + 1) (by rw [hS']; exact hh))
        clear hS'
        unfold strV at hc
        unfold maxLen at hmk
        generalize hx : ls[k] = x at *
        have hxs : (⟨x.toArray⟩ : ByteArray).size = x.length := by simp [ByteArray.size]
        generalize (⟨x.toArray⟩ : ByteArray) = s at *
        generalize ((ls.take k).map List.length).sum = S at *
        generalize x.length = m at *
        subst hxs
        clear hx
        by_cases hneg : L < s.size
        · have hw : IntKind.i64.wrap ((L : Int) - (s.size : Int)) = (L : Int) - (s.size : Int) := IntWalk.i64_in _ (by omega)
          have HE := Lib.hid (HP.out (by omega))
          go_wp2
          go_ret
          exact ⟨by rw [HE.out]; rfl, rfl⟩
        · obtain ⟨L', rfl⟩ : ∃ L', L = L' + s.size := ⟨L - s.size, by omega⟩
          have hw : IntKind.i64.wrap (((L' + s.size : Nat) : Int) - (s.size : Int)) = (L' : Int) := by rw [IntWalk.i64_in _ (by omega)]; omega
          have hw2 : IntKind.i64.wrap ((L' : Int) + (s.size : Int) - (s.size : Int)) = (L' : Int) := by rw [IntWalk.i64_in _ (by omega)]; omega
          have HE := Lib.hid (show L' + (ls.length + S') = left by omega)
          go_wp2
          go_roundw
          case rel => exact ⟨k + 1, L', by omega, by go_num, by go_num, by rw [HSS.out]; exact HE.out, by first | trivial | rfl⟩
          case measure => simp [intOf]; omega
      · obtain rfl : k = ls.length := by omega
        have HE := Lib.hid (szT_all hs)
        clear hs
        go_wp2
        go_ret
        exact ⟨by rw [HE.out]; rfl, rfl⟩

/-- The first k texts are there, the others are still empty. -/
def mixT (ls : List (List UInt8)) (k : Nat) : List (List UInt8) := ls.take k ++ List.replicate (ls.length - k) []
theorem mixT_len (ls : List (List UInt8)) (k : Nat) (h : k ≤ ls.length) : (mixT ls k).length = ls.length := by
  unfold mixT
  rw [List.length_append, List.length_take, List.length_replicate]
  omega
theorem mixT_set (ls : List (List UInt8)) (k : Nat) (h : k < ls.length) : (mixT ls k).set k ls[k] = mixT ls (k + 1) := by
  unfold mixT
  have hl : (ls.take k).length = k := by rw [List.length_take]; omega
  rw [List.set_append_right _ _ (by omega), hl, Nat.sub_self]
  obtain ⟨m, hm⟩ : ∃ m, ls.length - k = m + 1 := ⟨ls.length - k - 1, by omega⟩
  rw [hm, List.replicate_succ, List.set_cons_zero, show ls.length - (k + 1) = m by omega, List.take_succ_eq_append_getElem h, List.append_assoc]
  rfl
theorem mixT_all (ls : List (List UInt8)) : mixT ls ls.length = ls := by unfold mixT; simp
theorem make_texts (n : Nat) (hn : n ≤ 3000000) (W : World) : (Instr.makeSlice 35 (.int .i64 (n : Int)) (.int .i64 (n : Int))).run Tryz.prog W = .ok (.slice (some ⟨W.heap.size, 0, none⟩) n n) (W.alloc (.cells (madeCells #[.string ⟨#[]⟩] n) 9)) := by
  obtain ⟨i0, hi, hz0, hz1, hz2⟩ := info_parts info_str
  have h := run_make (P := Tryz.prog) W 35 9 i0 _ Tryz.underlying35 hi hz0 .i64 .i64 n n (by omega) (by omega) (by rw [hz2]; omega) (by omega)
  rw [hz1] at h
  simpa [Value.cells] using h
theorem own_texts (n : Nat) (hn : n ≤ 3000000) (W : World) : OwnS (W.alloc (.cells (madeCells #[.string ⟨#[]⟩] n) 9)) W.heap.size (.slice (some ⟨W.heap.size, 0, none⟩) n n) (List.replicate n []) := by
  refine ⟨by simp, .inr ⟨W.heap.size, n, madeCells #[.string ⟨#[]⟩] n, by simp, Nat.le_refl _, heap_alloc_new W _, by simp, by unfold maxLen; omega, by rw [size_madeCells]; omega, ?_⟩⟩
  rw [toList_madeCells_one, List.length_replicate, Nat.mul_one, List.take_of_length_le (by simp), List.map_replicate]
  rfl
set_option maxHeartbeats 1000000 in
theorem toStringS_any (v : Value) (ls : List (List UInt8)) (w : World) (h : TRow w v ls) (hl : ls.length ≤ 3000000) :
    Calls Tryz.prog 45 #[v] w fun e w' => ∃ v', e = .returned v' ∧ OwnS w' w.heap.size v' ls ∧ Below w.heap.size w w' := by
  have hmk := make_texts ls.length hl w
  have hst := own_texts ls.length hl w
  have hbel : Below w.heap.size w (w.alloc (.cells (madeCells #[.string ⟨#[]⟩] ls.length) 9)) := (Below.refl _ _).alloc (Nat.le_refl _) _
  obtain ⟨a, c, rfl, hcell⟩ := h.any
  have HC := Lib.hid hcell
  have HST := Lib.hid (show OwnS (w.alloc (.cells (madeCells #[.string ⟨#[]⟩] ls.length) 9)) w.heap.size (.slice (some ⟨w.heap.size, 0, none⟩) ls.length ls.length) (mixT ls 0) by unfold mixT; simpa using hst)
  clear hcell hst h
  go_enter Tryz.func45, Tryz.ntmps45
  go_wp2
  clear hmk
  generalize w.alloc (.cells (madeCells #[.string ⟨#[]⟩] ls.length) 9) = w1 at *
  go_loopw [4] (fun i wr => ∃ k : Nat, k ≤ ls.length ∧ i = .int .i64 (k : Int) ∧ Below w.heap.size w wr ∧ OwnS wr w.heap.size (.slice (some ⟨w.heap.size, 0, none⟩) ls.length ls.length) (mixT ls k)) (fun i _ => ls.length - (intOf i).toNat)
  case atStart => exact ⟨0, Nat.zero_le _, rfl, hbel, HST.out⟩
  case round =>
    obtain ⟨k, hk, rfl, hb, hm⟩ := hrel
    have HM := Lib.hid hm
    clear hm HST
    by_cases hlt : k < ls.length
    · obtain ⟨g, o, rfl, hcap, hcc⟩ := HC.out k hlt
      have hc0 := (below_grown hb).cell hcc (by simp)
      obtain ⟨hx0, hf0⟩ := HM.out.cell k (by rw [mixT_len _ _ hk]; exact hlt)
      have hm3 := HM.out.store k ls[k]
      rw [mixT_set _ _ hlt] at hm3
      unfold strV at hc0 hx0 hm3
      generalize hq : (mixT ls k)[k]'(by rw [mixT_len _ _ hk]; exact hlt) = q at *
      generalize ls[k] = x at *
      have HM3 := Lib.hid hm3
      clear hm3 hcc hq
      go_wp2
      go_roundw
      case rel => exact ⟨k + 1, by omega, by go_num, hb.setCell (Nat.le_refl _) _, HM3.out⟩
      case measure => simp [intOf]; omega
    · have hkk : k = ls.length := by omega
      subst hkk
      have HN := Lib.hid (show OwnS wr w.heap.size (.slice (some ⟨w.heap.size, 0, none⟩) ls.length ls.length) ls by have := HM.out; rwa [mixT_all] at this)
      go_wp2
      go_ret
      exact ⟨_, rfl, HN.out, hb⟩
end Go.Proofs.YtobpnoiienpipaaGreat
