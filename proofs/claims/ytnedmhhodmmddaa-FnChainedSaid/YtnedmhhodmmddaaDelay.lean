/-
  What is proved: the walks of Delay, the program's and the model's.
  Conditions: the list can be read and has at most 1000000000 numbers.
-/
import Derived.Test.YtnedmhhodmmddaaFRow
import Derived.Test.YtnedmhhodmmddaaDrawRow
import Derived.Laws.CopyOwn
import Derived.Deep.RegionLawGrows
namespace Go.Proofs.Ytnedmhhodmmddaa
set_option linter.unusedVariables false
open Go.RowKit
attribute [local go_sem] run_store_float run_store_complex unary_negf neg256

/-- An answer of a list and whether there is one; the list lies in new memory. -/
def Ans (ok : Bool) (R : List Nat → Prop) (w : World) (e : Ending) (w' : World) : Prop := ∃ v ys, e = .returned (.tuple #[v, .bool ok]) ∧ R ys ∧ FNew w' w.heap.size v ys ∧ Below w.heap.size w w'
theorem Ans.mk {ok : Bool} {R : List Nat → Prop} {w w' : World} {v : Value} {ys : List Nat} (hr : R ys) (h : FNew w' w.heap.size v ys) (hb : Below w.heap.size w w') : Ans ok R w (.returned (.tuple #[v, .bool ok])) w' := ⟨v, ys, rfl, hr, h, hb⟩

def delayed (xs : List Nat) (c : Nat) : List Nat := (List.range xs.length).map fun i => if i < 4 * c then 0 else xs.getD (i - 4 * c) 0
theorem delayed_len (xs : List Nat) (c : Nat) : (delayed xs c).length = xs.length := by simp [delayed]
theorem delayed_get (xs : List Nat) (c i : Nat) (h : i < (delayed xs c).length) : (delayed xs c)[i] = if i < 4 * c then 0 else xs.getD (i - 4 * c) 0 := by simp [delayed]
def delayOk (n : Int) : Bool := decide (0 ≤ n) && decide (n ≤ 64)
theorem take_snoc {α : Type} (l : List α) (k : Nat) (h : k < l.length) : l.take (k + 1) = l.take k ++ [l[k]] := by
  rw [List.take_add_one, List.getElem?_eq_getElem h]; rfl
theorem one_cell (x : Nat) (W : World) : ∀ i (h : i < [x].length), (W.alloc (.cells #[.float .f32 x] 30)).cell? ⟨W.heap.size, 0 + i, none⟩ = some (.float .f32 [x][i]) := by
  intro i hi
  have hi0 : i = 0 := by simpa using hi
  subst hi0
  exact (cell_of_row _ _ 0 _ _ _ (heap_alloc_new W (.cells #[.float .f32 x] 30))).trans rfl
theorem fnew_of {w : World} {base n cap g : Nat} {xs ys : List Nat} (h : OwnF w base (.slice (some ⟨g, 0, none⟩) n cap) xs) (e : xs = ys) (hn : ys.length = n) : FNew w base (.slice (some ⟨g, 0, none⟩) n cap) ys := by
  subst e; exact h.new
def DelayR (xs : List Nat) (n : Int) (ys : List Nat) : Prop := ys = if delayOk n = true then delayed xs n.toNat else []

set_option maxHeartbeats 2000000 in
theorem specDelay_any (v : Value) (xs : List Nat) (n : Int) (w : World) (h : FRow w v xs) (hn : I64 n) (hl : xs.length ≤ 100000000) :
    Calls Try.prog 54 #[v, .int .i64 n] w fun e w' => Ans (delayOk n) (DelayR xs n) w e w' := by
  have HI := fun W => Lib.hid (l01In_any n 0 64 W hn)
  obtain ⟨a, c, rfl, hcell⟩ := h.any
  have HC := Lib.hid hcell
  have hbel := (Below.refl w.heap.size w).alloc (Nat.le_refl _) (.cells #[] 30)
  have hown := OwnF.made0 w
  have hsz : w.heap.size < (w.alloc (.cells #[] 30)).heap.size := by simp
  unfold DelayR
  cases hd : delayOk n with
  | false =>
    have hd' : (decide (0 ≤ n) && decide (n ≤ 64)) = false := hd
    rw [hd'] at HI
    have HN := Lib.hid hown.new
    clear hcell h hown hd hd' hn
    go_enter Try.func54, Try.ntmps54
    go_wp2_with fail
    refine (HI _).out.mono ?_
    rintro e w1 ⟨rfl, rfl⟩
    go_wp2
    go_ret2
    exact Ans.mk rfl HN.out hbel
  | true =>
    have hd' : (decide (0 ≤ n) && decide (n ≤ 64)) = true := hd
    rw [hd'] at HI
    obtain ⟨m, rfl⟩ : ∃ m : Nat, n = m := Int.eq_ofNat_of_zero_le (by simp at hd'; omega)
    have hm : m ≤ 64 := by simp at hd'; omega
    have HO := Lib.hid hown
    clear hcell h hown hd hd' hn
    go_enter Try.func54, Try.ntmps54
    go_wp2_with fail
    refine (HI _).out.mono ?_
    rintro e w1 ⟨rfl, rfl⟩
    generalize w.alloc (.cells #[] 30) = w1 at *
    go_wp2
    go_loopw [6, 7] (fun out i wr => ∃ k g cap : Nat, k ≤ xs.length ∧ i = .int .i64 (k : Int) ∧ out = .slice (some ⟨g, 0, none⟩) k cap ∧ Below w.heap.size w wr ∧ w.heap.size < wr.heap.size ∧ OwnF wr w.heap.size (.slice (some ⟨g, 0, none⟩) k cap) ((delayed xs m).take k)) (fun _ i _ => xs.length - (intOf i).toNat)
    case atStart => exact ⟨0, _, 0, Nat.zero_le _, rfl, rfl, hbel, hsz, HO.out⟩
    case round =>
      obtain ⟨k, g, cap, hk, rfl, rfl, hb, hs, ho⟩ := hrel
      have HOK := Lib.hid ho
      clear ho HO
      by_cases hlt : k < xs.length
      · have hld : k < (delayed xs m).length := by rw [delayed_len]; exact hlt
        have hst := take_snoc (delayed xs m) k hld
        rw [delayed_get] at hst
        have hlen : ((delayed xs m).take k).length = k := by rw [List.length_take, delayed_len]; omega
        have HLEN := Lib.hid hlen
        have hx : ∃ x, (if k < 4 * m then 0 else xs.getD (k - 4 * m) 0) = x := ⟨_, rfl⟩
        clear hlen hld
        by_cases hkm : k < 4 * m
        · rw [if_pos hkm] at hst
          have HST := Lib.hid hst
          clear hst hx
          go_wp2_with (at_builtin; refine ownF_snoc rfl (.tmp 31) (.tmp 33) rfl w.heap.size _ _ _ rfl (HOK.out.alloc _) HLEN.out _ rfl 0 (lit_cell 0 _) (by omega) (by simp; omega) ?_; intro g2 cap2 w6 ho6 hg6 hor6 hlt6)
          have hb6 := snoc_below hb HOK.out _ hg6
          have hs6 : w.heap.size < w6.heap.size := by have := hg6.size; simp at this; omega
          rw [← HST.out] at ho6
          have HO6 := Lib.hid ho6
          clear ho6 hg6 hor6
          go_roundw
          case rel => exact ⟨k + 1, g2, cap2, by omega, by go_num, rfl, hb6, hs6, HO6.out⟩
          case measure => simp [intOf]; omega
        · rw [if_neg hkm] at hst
          obtain ⟨g0, o0, rfl, hcap0, hc0⟩ := HC.out (k - 4 * m) (by omega)
          have hc1 := (grown_of hb).cell hc0 (by simp)
          have hge : xs.getD (k - 4 * m) 0 = xs[k - 4 * m]'(by omega) := by rw [List.getD_eq_getElem?_getD, List.getElem?_eq_getElem (by omega)]; rfl
          rw [hge] at hst
          generalize xs[k - 4 * m]'(by omega) = z at *
          have HST := Lib.hid hst
          obtain ⟨j, rfl⟩ : ∃ j, k = 4 * m + j := ⟨k - 4 * m, by omega⟩
          have e1 : 4 * m + j - 4 * m = j := by omega
          rw [e1] at hc1
          have hij : ((((4 * m + j : Nat) : Int)) - 4 * (m : Int)) = (j : Int) := by omega
          have hij2 : (4 * (m : Int) + (j : Int)) - 4 * (m : Int) = (j : Int) := by omega
          have hlt2 : j < xs.length := by omega
          clear hst hx hc0 hge e1
          go_wp2_with (at_builtin; refine ownF_snoc rfl (.tmp 31) (.tmp 33) rfl w.heap.size _ _ _ rfl (HOK.out.alloc _) HLEN.out _ rfl z (lit_cell z _) (by omega) (by simp; omega) ?_; intro g2 cap2 w6 ho6 hg6 hor6 hlt6)
          have hb6 := snoc_below hb HOK.out _ hg6
          have hs6 : w.heap.size < w6.heap.size := by have := hg6.size; simp at this; omega
          rw [← HST.out] at ho6
          have HO6 := Lib.hid ho6
          clear ho6 hg6 hor6
          go_roundw
          case rel => exact ⟨4 * m + j + 1, g2, cap2, by omega, by go_num, rfl, hb6, hs6, HO6.out⟩
          case measure => simp [intOf]; omega
      · have hkk : k = xs.length := by omega
        subst hkk
        have hall : (delayed xs m).take xs.length = delayed xs m := List.take_of_length_le (by rw [delayed_len]; exact Nat.le_refl _)
        have HN := Lib.hid (fnew_of HOK.out hall (delayed_len xs m))
        clear hall
        go_wp2
        go_ret2
        exact Ans.mk (by simp) HN.out hb

theorem made_get (n i : Nat) (h : i < n) : (madeCells #[.float .f32 0] n)[i]? = some (Value.float .f32 0) := by
  have hs : i < (madeCells #[.float .f32 0] n).size := by rw [size_madeCells]; exact h
  rw [Array.getElem?_eq_getElem hs]
  simp [madeCells, Nat.mod_one]
theorem splice_get {α : Type} (L X : List α) (q i : Nat) (hq : q ≤ L.length) : (splice L q X)[i]? = if i < q then L[i]? else if i < q + X.length then X[i - q]? else L[i]? := by
  unfold splice
  have hlen : (L.take q).length = q := by rw [List.length_take]; omega
  by_cases h1 : i < q
  · rw [if_pos h1, List.getElem?_append_left (by omega), List.getElem?_take, if_pos h1]
  · rw [if_neg h1, List.getElem?_append_right (by omega), hlen]
    by_cases h2 : i < q + X.length
    · rw [if_pos h2, List.getElem?_append_left (by omega)]
    · rw [if_neg h2, List.getElem?_append_right (by omega), List.getElem?_drop]
      congr 1
      omega
/-- What the copy leaves: zeros, and the list from its first number on. -/
theorem delayed_made {w : World} {g q j m : Nat} {xs : List Nat} (hq : 4 * m = q) (hx : xs.length = q + j)
    (h : w.heap[g]? = some (.cells (splice (madeCells #[.float .f32 0] (q + j)).toList q ((xs.take j).map (.float .f32))).toArray 30 (0, 0))) : MadeF w g (q + j) (q + j) (delayed xs m) := by
  have hml : (madeCells #[.float .f32 0] (q + j)).toList.length = q + j := by rw [Array.length_toList, size_madeCells]
  have hXl : ((xs.take j).map (Value.float .f32)).length = j := by rw [List.length_map, List.length_take]; omega
  refine ⟨_, h, ?_, fun i hi hk => ?_⟩
  · rw [List.size_toArray, length_splice _ _ _ (by rw [hXl, hml]; exact Nat.le_refl _), hml]; exact Nat.le_refl _
  · rw [List.getElem?_toArray, splice_get _ _ _ _ (by rw [hml]; omega), hXl, delayed_get]
    by_cases h1 : i < q
    · rw [if_pos h1, if_pos (by omega), Array.getElem?_toList, made_get _ _ (by omega)]
    · rw [if_neg h1, if_pos (by omega), if_neg (by omega), List.getElem?_map, List.getElem?_take, if_pos (by omega), hq, List.getD_eq_getElem?_getD, List.getElem?_eq_getElem (by omega)]
      rfl
theorem delayed_zero {w : World} {g m : Nat} {xs : List Nat} (hx : xs.length ≤ 4 * m)
    (h : w.heap[g]? = some (.cells (madeCells #[.float .f32 0] xs.length) 30 (0, 0))) : MadeF w g xs.length xs.length (delayed xs m) := by
  refine ⟨_, h, ?_, fun i hi hk => ?_⟩
  · rw [size_madeCells]; exact Nat.le_refl _
  · rw [made_get _ _ hk, delayed_get, if_pos (by omega)]
set_option maxHeartbeats 1000000 in
set_option maxRecDepth 20000 in
theorem delay_any (v : Value) (xs : List Nat) (n : Int) (w : World) (h : FRow w v xs) (hn : I64 n) (hl : xs.length ≤ 100000000) :
    Calls Try.prog 101 #[v, .int .i64 n] w fun e w' => Ans (delayOk n) (DelayR xs n) w e w' := by
  obtain ⟨a, c, rfl, hcell⟩ := h.any
  have HC := Lib.hid hcell
  have hmk := make_floats xs.length (by omega)
  have hnew := heap_alloc_new w (.cells (madeCells #[.float .f32 0] xs.length) 30)
  have hbel := (Below.refl w.heap.size w).alloc (Nat.le_refl _) (.cells (madeCells #[.float .f32 0] xs.length) 30)
  unfold DelayR
  by_cases h1 : n < 0
  · have hd : delayOk n = false := by unfold delayOk; simp; omega
    rw [hd]
    clear hcell h hn hd hmk hnew
    go_enter Try.func101, Try.ntmps101
    go_wp2
    go_ret2
    exact Ans.mk rfl (FNew.nil _ _) (Below.refl _ _)
  · by_cases h2 : 64 < n
    · have hd : delayOk n = false := by unfold delayOk; simp; omega
      rw [hd]
      clear hcell h hn hd hmk hnew
      go_enter Try.func101, Try.ntmps101
      go_wp2
      go_ret2
      exact Ans.mk rfl (FNew.nil _ _) (Below.refl _ _)
    · have hd : delayOk n = true := by unfold delayOk; simp; omega
      rw [hd]
      obtain ⟨m, rfl⟩ : ∃ m : Nat, n = m := Int.eq_ofNat_of_zero_le (by omega)
      by_cases h3 : xs.length ≤ 4 * m
      · have hz := delayed_zero h3 hnew
        have HN := Lib.hid (MadeF.new hz (delayed_len xs m) (Nat.le_refl _))
        clear hcell h hn hd hnew hz
        rcases (by omega : xs.length < 4 * m ∨ 4 * m ≤ xs.length) with h4 | h4
        all_goals
          go_enter Try.func101, Try.ntmps101
          go_wp2_with (with_reducible refine wpList_copy_nothing rfl (.tmp 24) (.tmp 25) 24 24 rfl _ Try.underlying24 (by kernel_rfl) _ _ _ _ _ _ rfl rfl (by first | (simp; done) | (simp; omega)) ?_)
          go_ret2
          exact Ans.mk (by simp) HN.out hbel
      · obtain ⟨q, hq⟩ : ∃ q, 4 * m = q := ⟨_, rfl⟩
        obtain ⟨j, hj⟩ : ∃ j, xs.length = q + j := ⟨xs.length - q, by omega⟩
        have hqi : 4 * (m : Int) = (q : Int) := by omega
        have HQ := Lib.hid hq
        have HJ := Lib.hid hj
        have hX : ((xs.take j).map (Value.float .f32)).length = j := by rw [List.length_map, List.length_take]; omega
        have hsrc : ∀ W, w.grownBy W none → ∀ ad, a = some ad → ∀ p v, ((xs.take j).map (Value.float .f32))[p]? = some v → W.cell? (ad.add p) = some v := by
          intro W hg ad had p v hv
          have hp : p < j := by
            have := (List.getElem?_eq_some_iff.1 hv).1
            omega
          obtain ⟨g, o, hao, _, hcc⟩ := HC.out p (by omega)
          rw [had] at hao
          cases hao
          have hadd : (⟨g, o, none⟩ : Addr).add p = ⟨g, o + p, none⟩ := by unfold Addr.add; split <;> simp_all
          rw [hadd, hg.cell hcc (by simp)]
          rw [List.getElem?_map, List.getElem?_take, if_pos hp, List.getElem?_eq_getElem (by omega)] at hv
          exact hv
        obtain ⟨ad, had⟩ : ∃ ad, a = some ad := by
          obtain ⟨g, o, hao, _, _⟩ := HC.out 0 (by omega)
          exact ⟨_, hao⟩
        subst had
        have HS := Lib.hid (fun W hg => hsrc W hg ad rfl)
        have hdm := fun (W : World) (h : W.heap[w.heap.size]? = some (.cells (splice (madeCells #[.float .f32 0] (q + j)).toList q ((xs.take j).map (.float .f32))).toArray 30 (0, 0))) => delayed_made hq hj h
        have HDM := Lib.hid hdm
        obtain ⟨L, hL⟩ : ∃ L, q + j = L := ⟨_, rfl⟩
        have hlq : q < L := by omega
        have hjL : j = L - q := by omega
        have hlen := hl
        rw [hL] at hj HDM
        rw [hj] at hmk hnew hbel hlen ⊢
        have HXL := Lib.hid (show xs.length = L from hj)
        have HJL := Lib.hid hjL
        clear hL HJ
        have hone : ∀ v ∈ (xs.take j).map (Value.float .f32), v.oneCell' = true := by
          intro v hv
          obtain ⟨x, _, rfl⟩ := List.mem_map.1 hv
          rfl
        obtain ⟨X1, hX1⟩ : ∃ X1, (xs.take j).map (Value.float .f32) = X1 := ⟨_, rfl⟩
        rw [hX1] at hX HS HDM hone
        have HX := Lib.hid (And.intro hX hone)
        have HN := Lib.hid hnew
        have hkn : ∀ i, i ≤ 64 → True := fun _ _ => trivial
        have hm1 : (m : Int) ≤ 64 := by omega
        have hm0 : 0 ≤ (m : Int) := by omega
        clear hcell h hn hd hnew hsrc hX hX1 hdm hj hl h3 hone hkn h2 h1 hjL
        go_enter Try.func101, Try.ntmps101
        go_wp2_with (with_reducible refine wpList_copy_splice rfl (.tmp 24) (.tmp 25) 24 24 rfl _ Try.underlying24 (by kernel_rfl) _ _ _ _ _ _ rfl rfl w.heap.size q (madeCells #[.float .f32 0] L).toList 30 ?hg X1 ?hn ?hpos ?hfit HX.out.2 w.heap.size w hbel (Nat.le_refl _) ?_)
        case hg => rw [Array.toArray_toList]; exact HN.out
        case hn =>
          show X1.length = min L (L - q)
          have h1 := HX.out.1
          have h2 := HJL.out
          omega
        case hpos => exact fun _ => HS.out _ (World.grownBy_alloc w _ none)
        case hfit =>
          have h0 : (madeCells #[.float .f32 0] L).toList.length = L := by rw [Array.length_toList, size_madeCells]
          have h1 := HX.out.1
          have h2 := HJL.out
          rw [h0, h1]
          omega
        intro w2 HG2 hB2
        have HNN := Lib.hid (MadeF.new (HDM.out w2 HG2.out) ((delayed_len xs m).trans HXL.out) (Nat.le_refl _))
        clear HG2
        go_wp2
        go_ret2
        exact Ans.mk (by simp) HNN.out hB2
end Go.Proofs.Ytnedmhhodmmddaa
