/-
  What is proved: the walk of the model's Lows.
  Conditions: the stream can be read.
-/
import Derived.Test.YtmelnpimoiipgaaPkGen
import Derived.Test.YtmelnpimoiipgaaPkLine
import Derived.Test.YtmelnpimoiipgaaChanOk
namespace Go.Proofs.Ytmelnpimoiipgaa
set_option linter.unusedVariables false
open Go.RowKit
attribute [local go_sem] run_store_float run_store_complex unary_negf neg256

/-- Whether there is a low sample at place k. -/
def low (xs : List Nat) (s k : Nat) : Bool := decide (k < xs.length) && leb (xs.getD k 0) s
def cutRun (rs : List R2) (i n : Nat) : List R2 := if 5 ≤ n then rs ++ [(i - n, n)] else rs
/-- The runs that are at an end ahead of place k, and how many low samples there are just ahead of it. -/
def lowsK (xs : List Nat) (s : Nat) : Nat → List R2 × Nat
  | 0 => ([], 0)
  | k + 1 => if low xs s k = true then ((lowsK xs s k).1, (lowsK xs s k).2 + 1) else (cutRun (lowsK xs s k).1 k (lowsK xs s k).2, 0)
def lows (xs : List Nat) (s : Nat) : List R2 := if xs.length ≤ 20000 then (lowsK xs s (xs.length + 1)).1 else []
theorem cutRun_len (rs : List R2) (i n : Nat) : (cutRun rs i n).length ≤ rs.length + 1 := by
  unfold cutRun; split <;> simp
theorem lowsK_le (xs : List Nat) (s : Nat) : ∀ k, (lowsK xs s k).2 ≤ k ∧ (lowsK xs s k).1.length ≤ k
  | 0 => ⟨Nat.le_refl _, Nat.le_refl _⟩
  | k + 1 => by
    have h := lowsK_le xs s k
    have h2 := cutRun_len (lowsK xs s k).1 k (lowsK xs s k).2
    unfold lowsK
    split
    · exact ⟨by show _ + 1 ≤ _; omega, by show (lowsK xs s k).1.length ≤ _; omega⟩
    · exact ⟨Nat.zero_le _, by show (cutRun _ _ _).length ≤ _; omega⟩
theorem lowsK_low {xs : List Nat} {s k : Nat} (h : low xs s k = true) : lowsK xs s (k + 1) = ((lowsK xs s k).1, (lowsK xs s k).2 + 1) := by
  rw [lowsK, if_pos h]
theorem lowsK_cut {xs : List Nat} {s k : Nat} (h : low xs s k = false) (h5 : 5 ≤ (lowsK xs s k).2) : lowsK xs s (k + 1) = ((lowsK xs s k).1 ++ [(k - (lowsK xs s k).2, (lowsK xs s k).2)], 0) := by
  rw [lowsK, if_neg (by rw [h]; decide), cutRun, if_pos h5]
theorem lowsK_none {xs : List Nat} {s k : Nat} (h : low xs s k = false) (h5 : ¬ 5 ≤ (lowsK xs s k).2) : lowsK xs s (k + 1) = ((lowsK xs s k).1, 0) := by
  rw [lowsK, if_neg (by rw [h]; decide), cutRun, if_neg h5]
theorem lows_len (xs : List Nat) (s : Nat) : (lows xs s).length ≤ 20001 := by
  unfold lows
  split
  · have := (lowsK_le xs s (xs.length + 1)).2; omega
  · simp
theorem lr_lit {k n : Nat} (h : n ≤ k) (W : World) (j : Nat) (u : Value) (hu : (LR.enc (k - n, n))[j]? = some u) : (W.alloc (.cells #[.int .i64 ((k : Int) - (n : Int)), .int .i64 (n : Int)] 31)).cell? ⟨W.heap.size, 0 + j, none⟩ = some u := by
  refine lit_cells W [.int .i64 ((k : Int) - (n : Int)), .int .i64 (n : Int)] _ j u ?_
  rw [← hu]
  show _ = [Value.int .i64 ((k - n : Nat) : Int), Value.int .i64 ((n : Nat) : Int)][j]?
  rw [Int.ofNat_sub h]
set_option maxHeartbeats 4000000 in
theorem specLows_any (v : Value) (xs : List Nat) (s : Nat) (w : World) (h : FRow w v xs) (hl : xs.length ≤ 4000000) :
    Calls Try.prog 30 #[v, .float .f32 s] w fun e w' => LR.Got (lows xs s) w e w' := by
  have HOW := Lib.hid (show LR.Own (w.alloc (.cells #[] 31)) w.heap.size (.slice (some ⟨w.heap.size, 0, none⟩) 0 0) [] from LR.own0 w)
  have HB := Lib.hid ((Below.refl w.heap.size w).alloc (Nat.le_refl _) (.cells #[] 31))
  obtain ⟨av, cv, rfl, hcell⟩ := h.any
  have HC := Lib.hid hcell
  clear h hcell
  by_cases hbig : 20000 < xs.length
  · have HN := Lib.hid (show lows xs s = [] by unfold lows; rw [if_neg (by omega)])
    go_enter Try.func30, Try.ntmps30
    go_wp2
    go_ret
    rw [HN.out]
    exact Lay.Got.mk HOW.out HB.out
  · have HN := Lib.hid (show lows xs s = (lowsK xs s (xs.length + 1)).1 by unfold lows; rw [if_pos (by omega)])
    go_enter Try.func30, Try.ntmps30
    go_wp2
    generalize w.alloc (.cells #[] 31) = w1 at *
    go_loopw [5, 6, 7] (fun out n i wr => ∃ k g cap : Nat, k ≤ xs.length + 1 ∧ i = .int .i64 (k : Int) ∧ n = .int .i64 ((lowsK xs s k).2 : Int) ∧ out = .slice (some ⟨g, 0, none⟩) (lowsK xs s k).1.length cap ∧ Below w.heap.size w wr ∧ LR.Own wr w.heap.size (.slice (some ⟨g, 0, none⟩) (lowsK xs s k).1.length cap) (lowsK xs s k).1) (fun _ _ i _ => xs.length + 1 - (intOf i).toNat)
    case atStart => exact ⟨0, _, 0, Nat.zero_le _, rfl, rfl, rfl, HB.out, HOW.out⟩
    case round =>
      obtain ⟨k, g, cap, hk, rfl, rfl, rfl, hb, ho⟩ := hrel
      have hle := lowsK_le xs s k
      have HOK := Lib.hid ho
      have HLOW := Lib.hid (lowsK_low (xs := xs) (s := s) (k := k))
      have HCUT := Lib.hid (lowsK_cut (xs := xs) (s := s) (k := k))
      have HNON := Lib.hid (lowsK_none (xs := xs) (s := s) (k := k))
      have HSZ := Lib.hid hb.size
      clear ho
      by_cases hend : k ≤ xs.length
      · by_cases hlt : k < xs.length
        · obtain ⟨g0, o0, rfl, hcap0, hc0⟩ := HC.out k hlt
          have hc1 := (grown_of hb).cell hc0 (by simp)
          have hge : xs.getD k 0 = xs[k] := by rw [List.getD_eq_getElem?_getD, List.getElem?_eq_getElem hlt]; rfl
          have HLK := Lib.hid (show low xs s k = leb xs[k] s by unfold low; rw [hge]; simp [hlt])
          clear hc0 hge
          generalize xs[k] = z at *
          cases hq : leb z s with
          | true =>
            have hq' : (FloatKind.f32.format.order z s == some .lt || FloatKind.f32.format.order z s == some .eq) = true := hq
            have HE := Lib.hid (HLOW.out (HLK.out.trans hq))
            clear hq
            generalize lowsK xs s k = st at *
            go_wp2
            go_roundw
            case rel => exact ⟨k + 1, g, cap, by omega, by go_num, by rw [HE.out]; go_num, by rw [HE.out], hb, by rw [HE.out]; exact HOK.out⟩
            case measure => simp [intOf]; omega
          | false =>
            have hq' : (FloatKind.f32.format.order z s == some .lt || FloatKind.f32.format.order z s == some .eq) = false := hq
            have HL := Lib.hid (HLK.out.trans hq)
            clear hq
            by_cases h5 : 5 ≤ (lowsK xs s k).2
            · have HE := Lib.hid (HCUT.out HL.out h5)
              generalize lowsK xs s k = st at *
              obtain ⟨rs, n⟩ := st
              simp only at *
              have HLIT := Lib.hid (fun W => lr_lit (k := k) hle.1 W)
              go_wp2_with (at_builtin; refine LR_ok.snoc rfl (.tmp 35) (.tmp 41) rfl w.heap.size _ rs _ rfl (HOK.out.alloc _) rfl _ rfl (k - n, n) (HLIT.out _) (by omega) (by have := HSZ.out; simp; omega) ?_; intro g2 cap2 w6 ho6 hg6 hor6 hlt6)
              have hb6 := Lay.Own.snoc_below hb HOK.out _ hg6
              have HO6 := Lib.hid ho6
              clear ho6 hg6 hor6
              go_wp2
              go_roundw
              case rel => exact ⟨k + 1, g2, cap2, by omega, by go_num, by rw [HE.out]; rfl, by rw [HE.out]; simp, hb6, by rw [HE.out]; simpa using HO6.out⟩
              case measure => simp [intOf]; omega
            · have HE := Lib.hid (HNON.out HL.out h5)
              generalize lowsK xs s k = st at *
              go_wp2
              go_roundw
              case rel => exact ⟨k + 1, g, cap, by omega, by go_num, by rw [HE.out]; rfl, by rw [HE.out], hb, by rw [HE.out]; exact HOK.out⟩
              case measure => simp [intOf]; omega
        · have hkk : k = xs.length := by omega
          have HL := Lib.hid (show low xs s k = false by unfold low; simp [hkk])
          clear hkk
          by_cases h5 : 5 ≤ (lowsK xs s k).2
          · have HE := Lib.hid (HCUT.out HL.out h5)
            generalize lowsK xs s k = st at *
            obtain ⟨rs, n⟩ := st
            simp only at *
            have HLIT := Lib.hid (fun W => lr_lit (k := k) hle.1 W)
            go_wp2_with (at_builtin; refine LR_ok.snoc rfl (.tmp 35) (.tmp 41) rfl w.heap.size _ rs _ rfl (HOK.out.alloc _) rfl _ rfl (k - n, n) (HLIT.out _) (by omega) (by have := HSZ.out; simp; omega) ?_; intro g2 cap2 w6 ho6 hg6 hor6 hlt6)
            have hb6 := Lay.Own.snoc_below hb HOK.out _ hg6
            have HO6 := Lib.hid ho6
            clear ho6 hg6 hor6
            go_wp2
            go_roundw
            case rel => exact ⟨k + 1, g2, cap2, by omega, by go_num, by rw [HE.out]; rfl, by rw [HE.out]; simp, hb6, by rw [HE.out]; simpa using HO6.out⟩
            case measure => simp [intOf]; omega
          · have HE := Lib.hid (HNON.out HL.out h5)
            generalize lowsK xs s k = st at *
            go_wp2
            go_roundw
            case rel => exact ⟨k + 1, g, cap, by omega, by go_num, by rw [HE.out]; rfl, by rw [HE.out], hb, by rw [HE.out]; exact HOK.out⟩
            case measure => simp [intOf]; omega
      · have hkk : k = xs.length + 1 := by omega
        subst hkk
        go_wp2
        go_ret
        rw [HN.out]
        exact Lay.Got.mk HOK.out hb
end Go.Proofs.Ytmelnpimoiipgaa

/-
  What is proved: the walk of the model's Starts.
  Conditions: the stream can be read; the numbers are those of an int.
-/
namespace Go.Proofs.Ytmelnpimoiipgaa
set_option linter.unusedVariables false
open Go.RowKit
attribute [local go_sem] run_store_float run_store_complex unary_negf neg256

theorem lowsK_end (xs : List Nat) (s : Nat) : ∀ k, ∀ r ∈ (lowsK xs s k).1, 5 ≤ r.2 ∧ r.1 + r.2 < k
  | 0 => fun r hr => by cases hr
  | k + 1 => by
    have h := lowsK_end xs s k
    have hle := (lowsK_le xs s k).1
    intro r hr
    unfold lowsK at hr
    split at hr
    · have := h r hr; omega
    · replace hr : r ∈ cutRun (lowsK xs s k).1 k (lowsK xs s k).2 := hr
      unfold cutRun at hr
      split at hr
      · rename_i h5
        rcases List.mem_append.1 hr with hr | hr
        · have := h r hr; omega
        · obtain rfl := List.mem_singleton.1 hr
          exact ⟨h5, show k - (lowsK xs s k).2 + (lowsK xs s k).2 < k + 1 by omega⟩
      · have := h r hr; omega
theorem lows_end {xs : List Nat} {s : Nat} : ∀ r ∈ lows xs s, 5 ≤ r.2 ∧ r.1 + r.2 ≤ xs.length := by
  intro r hr
  unfold lows at hr
  split at hr
  · have := lowsK_end xs s _ r hr; omega
  · cases hr
/-- Whether a run begins near a place. -/
def near (want : Nat) (r : R2) : Bool := decide (want ≤ r.1 + 3) && decide (r.1 ≤ want + 3)
def nearR (rs : List R2) (want : Nat) : Option Nat := (rs.find? (near want)).map (·.1)
theorem nearR_snoc {rs : List R2} {want k : Nat} (h : k < rs.length) (hn : nearR (rs.take k) want = none) : nearR (rs.take (k + 1)) want = if near want rs[k] = true then some rs[k].1 else none := by
  have h0 : (rs.take k).find? (near want) = none := by
    unfold nearR at hn
    cases hf : (rs.take k).find? (near want) with
    | none => rfl
    | some r => rw [hf] at hn; cases hn
  unfold nearR
  rw [List.take_succ_eq_append_getElem h, List.find?_append, h0]
  cases hb : near want rs[k] <;> simp [hb]
theorem nearR_some {rs : List R2} {want k b : Nat} (hn : nearR (rs.take k) want = some b) : nearR rs want = some b := by
  unfold nearR at hn ⊢
  cases hf : (rs.take k).find? (near want) with
  | none => rw [hf] at hn; cases hn
  | some r =>
    rw [hf] at hn
    have e : rs = rs.take k ++ rs.drop k := (List.take_append_drop k rs).symm
    rw [e, List.find?_append, hf]
    exact hn
theorem nearR_near {rs : List R2} {want b : Nat} (hn : nearR rs want = some b) : want ≤ b + 3 ∧ b ≤ want + 3 ∧ ∃ r ∈ rs, r.1 = b := by
  unfold nearR at hn
  cases hf : rs.find? (near want) with
  | none => rw [hf] at hn; cases hn
  | some r =>
    rw [hf] at hn
    have h1 := List.find?_some hf
    have h2 := List.mem_of_find?_eq_some hf
    have h3 : r.1 = b := Option.some.inj hn
    unfold near at h1
    simp only [Bool.and_eq_true, decide_eq_true_eq] at h1
    rw [h3] at h1
    exact ⟨h1.1, h1.2, r, h2, h3⟩
/-- The places behind one, and those that are told already. -/
def startsGo (rs : List R2) (N len gap : Nat) : Nat → Nat → Nat → List Int → List Int
  | 0, _, _, out => out
  | f + 1, at_, missed, out =>
    if at_ + 2 * len ≤ N then
      match nearR rs (at_ + len) with
      | some b => startsGo rs N len gap f b 0 (out ++ [(b : Int)])
      | none => if gap < missed + 1 then out else startsGo rs N len gap f (at_ + len) (missed + 1) (out ++ [((at_ + len : Nat) : Int)])
    else out
theorem startsGo_end {rs : List R2} {N len gap f p m : Nat} {out : List Int} (h : ¬ p + 2 * len ≤ N) : startsGo rs N len gap f p m out = out := by
  cases f with
  | zero => rfl
  | succ f => rw [startsGo, if_neg h]
theorem startsGo_found {rs : List R2} {N len gap f p m b : Nat} {out : List Int} (h : p + 2 * len ≤ N) (hb : nearR rs (p + len) = some b) : startsGo rs N len gap (f + 1) p m out = startsGo rs N len gap f b 0 (out ++ [(b : Int)]) := by
  rw [startsGo, if_pos h, hb]
theorem startsGo_stop {rs : List R2} {N len gap f p m : Nat} {out : List Int} (h : p + 2 * len ≤ N) (hb : nearR rs (p + len) = none) (hg : gap < m + 1) : startsGo rs N len gap (f + 1) p m out = out := by
  rw [startsGo, if_pos h, hb]
  exact if_pos hg
theorem startsGo_missed {rs : List R2} {N len gap f p m : Nat} {out : List Int} (h : p + 2 * len ≤ N) (hb : nearR rs (p + len) = none) (hg : ¬ gap < m + 1) : startsGo rs N len gap (f + 1) p m out = startsGo rs N len gap f (p + len) (m + 1) (out ++ [((p + len : Nat) : Int)]) := by
  rw [startsGo, if_pos h, hb]
  exact if_neg hg
def startsOk (n g : Int) : Bool := (decide (28 ≤ n) && decide (n ≤ 280)) && (decide (0 ≤ g) && decide (g ≤ 10))
/-- What Starts answers. -/
def starts (xs : List Nat) (s : Nat) (n g : Int) : List Int :=
  match lows xs s with
  | [] => []
  | r :: rs => if startsOk n g = true ∧ r.1 + n.toNat ≤ xs.length then startsGo (r :: rs) xs.length n.toNat g.toNat (xs.length + 1) r.1 0 [(r.1 : Int)] else []
theorem li_lit (z : Int) (W : World) (j : Nat) (u : Value) (hu : (LI.enc z)[j]? = some u) : (W.alloc (.cells #[.int .i64 z] 3)).cell? ⟨W.heap.size, 0 + j, none⟩ = some u :=
  lit_cells W [.int .i64 z] _ j u hu
theorem runs_any {w : World} {v : Value} {rs : List R2} (h : LR.Row w v rs) : ∃ a c, v = .slice a rs.length c ∧ ∀ k (hk : k < rs.length), ∃ g o, a = some ⟨g, o, none⟩ ∧ rs.length ≤ c ∧ w.cell? ⟨g, o + k * 2, none⟩ = some (.int .i64 (rs[k].1 : Int)) ∧ w.cell? ⟨g, o + k * 2 + 1, none⟩ = some (.int .i64 (rs[k].2 : Int)) := by
  obtain ⟨a, c, h1, h2⟩ := h.any LR_ok
  refine ⟨a, c, h1, fun k hk => ?_⟩
  obtain ⟨g, o, e, hc, hcell⟩ := h2 k hk
  refine ⟨g, o, e, hc, hcell 0 _ rfl, ?_⟩
  have := hcell 1 _ rfl
  rw [← Nat.add_assoc] at this
  exact this
theorem starts_yes {xs : List Nat} {s len gap : Nat} {R : List R2} (hR : lows xs s = R) (h0 : 0 < R.length) (ho : startsOk (len : Int) (gap : Int) = true) (hb : R[0].1 + len ≤ xs.length) : starts xs s (len : Int) (gap : Int) = startsGo R xs.length len gap (xs.length + 1) R[0].1 0 [(R[0].1 : Int)] := by
  unfold starts
  rw [hR]
  cases R with
  | nil => cases h0
  | cons r rs => exact if_pos ⟨ho, hb⟩
theorem starts_no {xs : List Nat} {s : Nat} {n g : Int} {R : List R2} (hR : lows xs s = R) (h0 : 0 < R.length) (h : startsOk n g = false ∨ ¬ R[0].1 + n.toNat ≤ xs.length) : starts xs s n g = [] := by
  unfold starts
  rw [hR]
  cases R with
  | nil => rfl
  | cons r rs => exact if_neg fun hh => h.elim (fun e => by rw [hh.1] at e; cases e) (fun e => e hh.2)
theorem starts_none {xs : List Nat} {s : Nat} {n g : Int} (hR : lows xs s = []) : starts xs s n g = [] := by
  unfold starts; rw [hR]
theorem near_test (r : R2) (p len : Nat) : (decide ((-3 : Int) ≤ (r.1 : Int) - ((p : Int) + (len : Int))) && decide ((r.1 : Int) - ((p : Int) + (len : Int)) ≤ 3)) = near (p + len) r := by
  unfold near
  rw [Bool.eq_iff_iff]
  simp only [Bool.and_eq_true, decide_eq_true_eq]
  omega
theorem or_some {H H' g g' : Nat} (h : (some g = some g') ∨ g' = H) (hg : g = H' ∨ H' < g) (hH : H' < H) : g' = H' ∨ H' < g' := by
  rcases h with h | h
  · have := Option.some.inj h; omega
  · omega
set_option maxHeartbeats 8000000 in
set_option maxRecDepth 100000 in
theorem specStarts_any (v : Value) (xs : List Nat) (s : Nat) (n g : Int) (w : World) (h : FRow w v xs) (hn : I64 n) (hg : I64 g) (hl : xs.length ≤ 4000000) :
    Calls Try.prog 37 #[v, .float .f32 s, .int .i64 n, .int .i64 g] w fun e w' => LI.Got (starts xs s n g) w e w' := by
  have HIN := fun W => Lib.hid (l01In_any n 28 280 W hn)
  have HIG := fun W => Lib.hid (l01In_any g 0 10 W hg)
  have HOW := Lib.hid (show LI.Own (w.alloc (.cells #[] 3)) w.heap.size (.slice (some ⟨w.heap.size, 0, none⟩) 0 0) [] from LI.own0 w)
  have HB := Lib.hid ((Below.refl w.heap.size w).alloc (Nat.le_refl _) (.cells #[] 3))
  have HSZ0 := Lib.hid (show w.heap.size < (w.alloc (.cells #[] 3)).heap.size by simp)
  have HL := Lib.hid (specLows_any v xs s (w.alloc (.cells #[] 3)) (h.below HB.out) hl)
  obtain ⟨av, cv, rfl⟩ := h.lenv
  clear h
  go_enter Try.func37, Try.ntmps37
  go_wp2_with fail
  generalize w.alloc (.cells #[] 3) = w1 at *
  refine HL.out.mono ?_
  rintro e w2 ⟨v2, rfl, ho2, hb2⟩
  have hb02 := below_trans HB.out hb2 HB.out.size
  have HO2 := Lib.hid (HOW.out.below hb2)
  have hsz2 : w1.heap.size ≤ w2.heap.size := hb2.size
  have hsz1 : w.heap.size < w1.heap.size := HSZ0.out
  have hend := lows_end (xs := xs) (s := s)
  clear HL HOW HB HSZ0 hb2
  obtain ⟨R, hR⟩ : ∃ R, lows xs s = R := ⟨_, rfl⟩
  rw [hR] at ho2 hend
  have HR := Lib.hid hR
  have HRW := Lib.hid ho2.row
  have HBK := Lib.hid ho2.lt
  obtain ⟨a2, c2, rfl, hcell⟩ := runs_any ho2.row
  have HC := Lib.hid hcell
  have HEND := Lib.hid hend
  clear ho2 hR hcell hend
  by_cases h0 : R.length = 0
  · have HE := Lib.hid (starts_none (n := n) (g := g) (HR.out.trans (List.length_eq_zero_iff.1 h0)))
    rw [h0]
    clear h0
    go_wp2
    go_ret
    rw [HE.out]
    exact Lay.Got.mk HO2.out hb02
  · have hr0 : 0 < R.length := by omega
    have hrz : ((R.length : Int) == 0) = false := beq_eq_false_iff_ne.2 (by omega)
    have hRL : R.length ≤ 20001 := by have := lows_len xs s; rwa [HR.out] at this
    obtain ⟨g0, o0, rfl, hcap2, hc0, _⟩ := HC.out 0 hr0
    rw [Nat.zero_mul, Nat.add_zero] at hc0
    have hE0 := (HEND.out R[0] (List.getElem_mem hr0)).2
    have HNO := Lib.hid (fun h => starts_no (n := n) (g := g) HR.out hr0 h)
    cases hin : (decide (28 ≤ n) && decide (n ≤ 280)) with
    | false =>
      rw [hin] at HIN
      have HE := Lib.hid (HNO.out (.inl (by unfold startsOk; rw [hin]; rfl)))
      clear hin hn hg
      go_wp2_with fail
      refine (HIN _).out.mono ?_
      rintro e w3 ⟨rfl, rfl⟩
      go_wp2
      go_ret
      rw [HE.out]
      exact Lay.Got.mk HO2.out hb02
    | true =>
      rw [hin] at HIN
      cases hig : (decide (0 ≤ g) && decide (g ≤ 10)) with
      | false =>
        rw [hig] at HIG
        have HE := Lib.hid (HNO.out (.inl (by unfold startsOk; rw [hig]; simp)))
        clear hin hig hn hg
        go_wp2_with fail
        refine (HIN _).out.mono ?_
        rintro e w3 ⟨rfl, rfl⟩
        go_wp2_with fail
        refine (HIG _).out.mono ?_
        rintro e w3 ⟨rfl, rfl⟩
        go_wp2
        go_ret
        rw [HE.out]
        exact Lay.Got.mk HO2.out hb02
      | true =>
        rw [hig] at HIG
        have HSO := Lib.hid (show startsOk n g = true by unfold startsOk; rw [hin, hig]; rfl)
        have hn2 : 28 ≤ n ∧ n ≤ 280 := by simpa using hin
        have hg2 : 0 ≤ g ∧ g ≤ 10 := by simpa using hig
        obtain ⟨len, rfl⟩ : ∃ m : Nat, n = m := Int.eq_ofNat_of_zero_le (by omega)
        obtain ⟨gap, rfl⟩ : ∃ m : Nat, g = m := Int.eq_ofNat_of_zero_le (by omega)
        clear hin hig hn hg
        have hx2 : xs.length ≤ 20000 := by
          by_cases hh : xs.length ≤ 20000
          · exact hh
          · have := HR.out; unfold lows at this; rw [if_neg hh] at this; rw [← this] at hr0; cases hr0
        by_cases hb0 : R[0].1 + len ≤ xs.length
        · have HYES := Lib.hid (starts_yes HR.out hr0 HSO.out hb0)
          have hfit : ∀ k (hk : k < R.length), R[k].1 ≤ 20000 := fun k hk => by have := (HEND.out R[k] (List.getElem_mem hk)).2; omega
          obtain ⟨p0, hp0⟩ : ∃ p, R[0].1 = p := ⟨_, rfl⟩
          rw [hp0] at hc0 hE0 hb0 HYES
          clear hp0 HNO
          have hpb : decide ((xs.length : Int) < (p0 : Int) + (len : Int)) = false := decide_eq_false (by omega)
          go_wp2_with fail
          refine (HIN _).out.mono ?_
          rintro e w3 ⟨rfl, rfl⟩
          go_wp2_with fail
          refine (HIG _).out.mono ?_
          rintro e w3 ⟨rfl, rfl⟩
          have HLIT := Lib.hid (li_lit (p0 : Int))
          go_wp2_with (at_builtin; go_loud (refine LI_ok.snoc rfl (.tmp 48) (.tmp 50) rfl w.heap.size (.slice (some ⟨w.heap.size, 0, none⟩) 0 0) [] _ rfl (HO2.out.alloc _) rfl _ rfl (p0 : Int) (HLIT.out _) (by decide) (by simp; omega) ?_); intro g6 cap6 w6 ho6 hg6 hor6 hlt6)
          have hg26 : w2.grownBy w6 (some w.heap.size) := putGrown (World.grownBy.refl _ _) (Nat.le_refl _) hg6 (.inl rfl)
          have hb6 := Lay.Own.snoc_below hb02 HO2.out _ hg6
          have hlo6 : g6 = w.heap.size ∨ w2.heap.size ≤ g6 := by
            rcases hor6 with h | h
            · exact .inl (Option.some.inj h).symm
            · simp at h; exact .inr (by omega)
          have HO6 := Lib.hid (show LI.Own w6 w.heap.size (.slice (some ⟨g6, 0, none⟩) 1 cap6) [(p0 : Int)] from ho6)
          clear ho6 hg6 hor6 HLIT hc0
          go_wp2
          go_loopw [9, 11, 12] (fun outv pv mv wr => ∃ (f p m g cap : Nat) (out : List Int), p ≤ xs.length ∧ xs.length < p + f ∧ m ≤ gap ∧ out.length ≤ p + 1 ∧ pv = .int .i64 (p : Int) ∧ mv = .int .i64 (m : Int) ∧ outv = .slice (some ⟨g, 0, none⟩) out.length cap ∧ starts xs s (len : Int) (gap : Int) = startsGo R xs.length len gap f p m out ∧ w2.grownBy wr (some w.heap.size) ∧ Below w.heap.size w wr ∧ (g = w.heap.size ∨ w2.heap.size ≤ g) ∧ LI.Own wr w.heap.size (.slice (some ⟨g, 0, none⟩) out.length cap) out) (fun _ pv _ _ => xs.length - (intOf pv).toNat)
          case atStart => exact ⟨xs.length + 1, p0, 0, g6, cap6, [(p0 : Int)], by omega, by omega, Nat.zero_le _, by simp, rfl, rfl, rfl, HYES.out, hg26, hb6, hlo6, HO6.out⟩
          case round =>
            obtain ⟨f, p, m, g, cap, out, hp, hf, hm, hol, rfl, rfl, rfl, hst, hg2r, hb, hlo, ho⟩ := hrel
            have HST := Lib.hid hst
            have HOK := Lib.hid ho
            have hs2r : w2.heap.size ≤ wr.heap.size := hg2r.size
            have hbs : w.heap.size ≤ wr.heap.size := hb.size
            clear hst ho
            by_cases hmore : p + 2 * len ≤ xs.length
            · obtain ⟨f, rfl⟩ : ∃ f', f = f' + 1 := ⟨f - 1, by omega⟩
              have hg0 : w.heap.size < g0 := by have := (HBK.out g0 rfl).1; omega
              have HCR := Lib.hid (fun k (hk : k < R.length) => show wr.cell? ⟨g0, o0 + k * 2, none⟩ = some (.int .i64 (R[k].1 : Int)) from by
                obtain ⟨g1, o1, e, _, h1, _⟩ := HC.out k hk
                cases e
                exact hg2r.cell h1 (by intro e; simp at e; omega))
              have hmb : decide ((p : Int) + 2 * (len : Int) ≤ (xs.length : Int)) = true := decide_eq_true (by omega)
              go_wp2
              go_loop [11, 14] (fun pv iv => ∃ k : Nat, k ≤ R.length ∧ iv = .int .i64 (k : Int) ∧ ((nearR (R.take k) (p + len) = none ∧ pv = .int .i64 (-1)) ∨ ∃ b : Nat, nearR (R.take k) (p + len) = some b ∧ pv = .int .i64 (b : Int))) (fun _ iv => R.length - (intOf iv).toNat)
              case atStart => exact ⟨0, Nat.zero_le _, rfl, .inl ⟨rfl, rfl⟩⟩
              case round =>
                obtain ⟨k, hk, rfl, hnn⟩ := hrel
                rcases hnn with ⟨hno, rfl⟩ | ⟨b, hyes, rfl⟩
                · by_cases hlt : k < R.length
                  · have hck := HCR.out k hlt
                    have hbk := hfit k hlt
                    have HSN := Lib.hid (nearR_snoc hlt hno)
                    have HNE := fun W => Lib.hid (l01In_any ((R[k].1 : Int) - ((p : Int) + (len : Int))) (-3) 3 W ⟨by omega, by omega⟩)
                    have hnt := near_test R[k] p len
                    rw [hnt] at HNE
                    clear hno hnt
                    obtain ⟨rk, hrk⟩ : ∃ r, R[k] = r := ⟨_, rfl⟩
                    rw [hrk] at hck hbk HSN HNE
                    clear hrk
                    obtain ⟨bk, hbk'⟩ : ∃ b, rk.1 = b := ⟨_, rfl⟩
                    rw [hbk'] at hck hbk HSN HNE
                    clear hbk'
                    cases hnr : near (p + len) rk with
                    | true =>
                      rw [hnr] at HNE HSN
                      clear hnr
                      go_wp2_with fail
                      refine (HNE _).out.mono ?_
                      rintro e w7 ⟨rfl, rfl⟩
                      go_wp2
                      go_round
                      case rel => exact ⟨k + 1, by omega, by go_num, .inr ⟨bk, by simpa using HSN.out, rfl⟩⟩
                      case measure => simp [intOf]; omega
                    | false =>
                      rw [hnr] at HNE HSN
                      clear hnr
                      go_wp2_with fail
                      refine (HNE _).out.mono ?_
                      rintro e w7 ⟨rfl, rfl⟩
                      go_wp2
                      go_round
                      case rel => exact ⟨k + 1, by omega, by go_num, .inl ⟨by simpa using HSN.out, rfl⟩⟩
                      case measure => simp [intOf]; omega
                  · have hnn : nearR R (p + len) = none := by rwa [List.take_of_length_le (by omega)] at hno
                    clear hno
                    by_cases hmiss : gap < m + 1
                    · have HE := Lib.hid (HST.out.trans (startsGo_stop hmore hnn hmiss))
                      clear hnn
                      go_wp2
                      go_ret
                      rw [HE.out]
                      exact Lay.Got.mk HOK.out hb
                    · have HE := Lib.hid (HST.out.trans (startsGo_missed hmore hnn hmiss))
                      clear hnn
                      have HLIT := Lib.hid (li_lit ((p : Int) + (len : Int)))
                      go_wp2_with (at_builtin; refine LI_ok.snoc rfl (.tmp 96) (.tmp 98) rfl w.heap.size (.slice (some ⟨g, 0, none⟩) out.length cap) out _ rfl (HOK.out.alloc _) rfl _ rfl ((p : Int) + (len : Int)) (HLIT.out _) (by omega) (by simp; omega) ?_; intro g7 cap7 w7 ho7 hg7 hor7 hlt7)
                      have hg27 : w2.grownBy w7 (some w.heap.size) := putGrown hg2r hs2r hg7 hlo
                      have hb7 := Lay.Own.snoc_below hb HOK.out _ hg7
                      have hlo7 : g7 = w.heap.size ∨ w2.heap.size ≤ g7 := by
                        rcases hor7 with h | h
                        · have := Option.some.inj h; subst this; exact hlo
                        · simp at h; exact .inr (by omega)
                      have HO7 := Lib.hid ho7
                      clear ho7 hg7 hor7
                      go_wp2
                      go_roundw
                      case rel => exact ⟨f, p + len, m + 1, g7, cap7, out ++ [((p + len : Nat) : Int)], by omega, by omega, by omega, by simp; omega, by go_num, by go_num, by simp, HE.out, hg27, hb7, hlo7, by simpa using HO7.out⟩
                      case measure => simp [intOf]; omega
                · have hnn := nearR_some hyes
                  obtain ⟨hb1, hb2, r, hrm, hrb⟩ := nearR_near hnn
                  have hbx : b ≤ xs.length := by have := (HEND.out r hrm).2; omega
                  have HE := Lib.hid (HST.out.trans (startsGo_found hmore hnn))
                  clear hnn hyes hrm hrb
                  have HLIT := Lib.hid (li_lit (b : Int))
                  go_wp2_with (at_builtin; refine LI_ok.snoc rfl (.tmp 96) (.tmp 98) rfl w.heap.size (.slice (some ⟨g, 0, none⟩) out.length cap) out _ rfl (HOK.out.alloc _) rfl _ rfl (b : Int) (HLIT.out _) (by omega) (by simp; omega) ?_; intro g7 cap7 w7 ho7 hg7 hor7 hlt7)
                  all_goals
                    have hg27 : w2.grownBy w7 (some w.heap.size) := putGrown hg2r hs2r hg7 hlo
                    have hb7 := Lay.Own.snoc_below hb HOK.out _ hg7
                    have hlo7 : g7 = w.heap.size ∨ w2.heap.size ≤ g7 := by
                      rcases hor7 with h | h
                      · have := Option.some.inj h; subst this; exact hlo
                      · simp at h; exact .inr (by omega)
                    have HO7 := Lib.hid ho7
                    clear ho7 hg7 hor7
                    go_wp2
                    go_roundw
                    case rel => exact ⟨f, b, 0, g7, cap7, out ++ [(b : Int)], by omega, by omega, by omega, by simp; omega, rfl, rfl, by simp, HE.out, hg27, hb7, hlo7, by simpa using HO7.out⟩
                    case measure => simp [intOf]; omega
            · have HE := Lib.hid (HST.out.trans (startsGo_end hmore))
              go_wp2
              go_ret
              rw [HE.out]
              exact Lay.Got.mk HOK.out hb
        · have HE := Lib.hid (HNO.out (.inr (by simpa using hb0)))
          obtain ⟨p0, hp0⟩ : ∃ p, R[0].1 = p := ⟨_, rfl⟩
          rw [hp0] at hc0 hE0 hb0
          clear hp0 HNO
          go_wp2_with fail
          refine (HIN _).out.mono ?_
          rintro e w3 ⟨rfl, rfl⟩
          go_wp2_with fail
          refine (HIG _).out.mono ?_
          rintro e w3 ⟨rfl, rfl⟩
          go_wp2
          go_ret
          rw [HE.out]
          exact Lay.Got.mk HO2.out hb02
end Go.Proofs.Ytmelnpimoiipgaa

/-
  What is proved: what the runs of low samples are.
  Conditions: none.
-/
namespace Go.Proofs.Ytmelnpimoiipgaa
set_option linter.unusedVariables false
open Go.RowKit

/-- A run of low samples, ahead of which and behind which there is none. -/
structure RunOk (xs : List Nat) (s : Nat) (r : R2) : Prop where
  five : 5 ≤ r.2
  all : ∀ i, r.1 ≤ i → i < r.1 + r.2 → low xs s i = true
  before : 0 < r.1 → low xs s (r.1 - 1) = false
  behind : low xs s (r.1 + r.2) = false
structure LowsInv (xs : List Nat) (s k : Nat) : Prop where
  runs : ∀ r ∈ (lowsK xs s k).1, RunOk xs s r
  apart : (lowsK xs s k).1.Pairwise fun a b => a.1 + a.2 < b.1
  last : ∀ r ∈ (lowsK xs s k).1, r.1 + r.2 + (lowsK xs s k).2 < k
  now : ∀ i, k - (lowsK xs s k).2 ≤ i → i < k → low xs s i = true
  then_ : (lowsK xs s k).2 < k → low xs s (k - (lowsK xs s k).2 - 1) = false
theorem lowsInv (xs : List Nat) (s : Nat) : ∀ k, LowsInv xs s k
  | 0 => ⟨(fun r hr => by cases hr), List.Pairwise.nil, (fun r hr => by cases hr), (fun i h1 h2 => by omega), fun h => absurd h (Nat.not_lt_zero _)⟩
  | k + 1 => by
    obtain ⟨h1, h2, h3, h4, h5⟩ := lowsInv xs s k
    have hle := (lowsK_le xs s k).1
    cases hlow : low xs s k with
    | true =>
      have e := lowsK_low hlow
      refine ⟨?_, ?_, ?_, ?_, ?_⟩ <;> rw [e]
      · exact h1
      · exact h2
      · intro r hr; have := h3 r hr; show r.1 + r.2 + ((lowsK xs s k).2 + 1) < k + 1; omega
      · intro i hi hi2
        by_cases hk : i = k
        · rw [hk]; exact hlow
        · exact h4 i (by have : k + 1 - ((lowsK xs s k).2 + 1) ≤ i := hi; omega) (by omega)
      · intro hlt
        have hlt' : (lowsK xs s k).2 < k := by have : (lowsK xs s k).2 + 1 < k + 1 := hlt; omega
        have := h5 hlt'
        show low xs s (k + 1 - ((lowsK xs s k).2 + 1) - 1) = false
        rw [show k + 1 - ((lowsK xs s k).2 + 1) = k - (lowsK xs s k).2 by omega]
        exact this
    | false =>
      by_cases hn : 5 ≤ (lowsK xs s k).2
      · have e := lowsK_cut hlow hn
        have hrun : RunOk xs s (k - (lowsK xs s k).2, (lowsK xs s k).2) := by
          refine ⟨hn, fun i hi hi2 => h4 i hi (by have : i < k - (lowsK xs s k).2 + (lowsK xs s k).2 := hi2; omega), fun h0 => h5 (by have : 0 < k - (lowsK xs s k).2 := h0; omega), ?_⟩
          show low xs s (k - (lowsK xs s k).2 + (lowsK xs s k).2) = false
          rw [Nat.sub_add_cancel hle]; exact hlow
        refine ⟨?_, ?_, ?_, ?_, ?_⟩ <;> rw [e]
        · intro r hr
          rcases List.mem_append.1 hr with hr | hr
          · exact h1 r hr
          · obtain rfl := List.mem_singleton.1 hr; exact hrun
        · refine List.pairwise_append.2 ⟨h2, List.pairwise_singleton _ _, fun a ha b hb => ?_⟩
          obtain rfl := List.mem_singleton.1 hb
          have := h3 a ha
          show a.1 + a.2 < k - (lowsK xs s k).2
          omega
        · intro r hr
          rcases List.mem_append.1 hr with hr | hr
          · have := h3 r hr; show r.1 + r.2 + 0 < k + 1; omega
          · obtain rfl := List.mem_singleton.1 hr
            show k - (lowsK xs s k).2 + (lowsK xs s k).2 + 0 < k + 1; omega
        · intro i hi hi2
          have hi' : k + 1 - 0 ≤ i := hi
          omega
        · intro _
          show low xs s (k + 1 - 0 - 1) = false
          exact hlow
      · have e := lowsK_none hlow hn
        refine ⟨?_, ?_, ?_, ?_, ?_⟩ <;> rw [e]
        · exact h1
        · exact h2
        · intro r hr; have := h3 r hr; show r.1 + r.2 + 0 < k + 1; omega
        · intro i hi hi2
          have hi' : k + 1 - 0 ≤ i := hi
          omega
        · intro _
          show low xs s (k + 1 - 0 - 1) = false
          exact hlow
theorem lows_ok {xs : List Nat} {s : Nat} : ∀ r ∈ lows xs s, RunOk xs s r := by
  intro r hr
  unfold lows at hr
  split at hr
  · exact (lowsInv xs s _).runs r hr
  · cases hr
theorem lows_apart {xs : List Nat} {s : Nat} : (lows xs s).Pairwise fun a b => a.1 + a.2 < b.1 := by
  unfold lows
  split
  · exact (lowsInv xs s _).apart
  · exact List.Pairwise.nil
theorem low_leb {xs : List Nat} {s i : Nat} (hi : i < xs.length) : low xs s i = leb xs[i] s := by
  unfold low
  rw [List.getD_eq_getElem?_getD, List.getElem?_eq_getElem hi]
  simp [hi]
/-- Where the run ahead of the k-th one ended, if there is one. -/
def endK (rs : List R2) : Nat → Int
  | 0 => -1
  | k + 1 => match rs[k]? with
    | some r => (r.1 : Int) + (r.2 : Int)
    | none => -1
theorem endK_succ {rs : List R2} {k : Nat} (h : k < rs.length) : endK rs (k + 1) = (rs[k].1 : Int) + (rs[k].2 : Int) := by
  simp only [endK, List.getElem?_eq_getElem h]
theorem endK_lt {xs : List Nat} {s k : Nat} (h : k < (lows xs s).length) : endK (lows xs s) k < ((lows xs s)[k].1 : Int) := by
  cases k with
  | zero => show (-1 : Int) < _; omega
  | succ k =>
    rw [endK_succ (by omega)]
    have := List.pairwise_iff_getElem.1 (lows_apart (xs := xs) (s := s)) k (k + 1) (by omega) h (by omega)
    omega
end Go.Proofs.Ytmelnpimoiipgaa
