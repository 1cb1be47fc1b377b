/-
  What is proved: the walk of the model's Starts.
  Conditions: the stream can be read; the numbers are those of an int.
-/
import Derived.Test.YtobpnoiienpipaaGreatPz11
namespace Go.Proofs.YtobpnoiienpipaaGreat
set_option linter.unusedVariables false
open Go.RowKit
attribute [local go_sem] run_store_float run_store_complex unary_negf neg256

theorem lowsK_end (xs : List Nat) (s : Nat) : ∀ k, ∀ r ∈ (lowsK xs s k).1, 5 ≤ r.2 ∧ r.1 + r.2 < k
  | 0 => fun r hr => by cases hr
  | k + 1 => by
    have h := lowsK_end xs s k
    have hle := (lowsK_le xs s k).1
    intro r hr
    unfold lowsK at hr
    split at hr
    · have := h r hr; omega
    · replace hr : r ∈ cutRun (lowsK xs s k).1 k (lowsK xs s k).2 := hr
      unfold cutRun at hr
      split at hr
      · rename_i h5
        rcases List.mem_append.1 hr with hr | hr
        · have := h r hr; omega
        · obtain rfl := List.mem_singleton.1 hr
          exact ⟨h5, show k - (lowsK xs s k).2 + (lowsK xs s k).2 < k + 1 by omega⟩
      · have := h r hr; omega
theorem lows_end {xs : List Nat} {s : Nat} : ∀ r ∈ lows xs s, 5 ≤ r.2 ∧ r.1 + r.2 ≤ xs.length := by
  intro r hr
  unfold lows at hr
  split at hr
  · have := lowsK_end xs s _ r hr; omega
  · cases hr
/-- Whether a run begins near a place. -/
def near (want : Nat) (r : R2) : Bool := decide (want ≤ r.1 + 3) && decide (r.1 ≤ want + 3)
def nearR (rs : List R2) (want : Nat) : Option Nat := (rs.find? (near want)).map (·.1)
theorem nearR_snoc {rs : List R2} {want k : Nat} (h : k < rs.length) (hn : nearR (rs.take k) want = none) : nearR (rs.take (k + 1)) want = if near want rs[k] = true then some rs[k].1 else none := by
  have h0 : (rs.take k).find? (near want) = none := by
    unfold nearR at hn
    cases hf : (rs.take k).find? (near want) with
    | none => rfl
    | some r => rw [hf] at hn; cases hn
  unfold nearR
  rw [List.take_succ_eq_append_getElem h, List.find?_append, h0]
  cases hb : near want rs[k] <;> simp [hb]
theorem nearR_some {rs : List R2} {want k b : Nat} (hn : nearR (rs.take k) want = some b) : nearR rs want = some b := by
  unfold nearR at hn ⊢
  cases hf : (rs.take k).find? (near want) with
  | none => rw [hf] at hn; cases hn
  | some r =>
    rw [hf] at hn
    have e : rs = rs.take k ++ rs.drop k := (List.take_append_drop k rs).symm
    rw [e, List.find?_append, hf]
    exact hn
theorem nearR_near {rs : List R2} {want b : Nat} (hn : nearR rs want = some b) : want ≤ b + 3 ∧ b ≤ want + 3 ∧ ∃ r ∈ rs, r.1 = b := by
  unfold nearR at hn
  cases hf : rs.find? (near want) with
  | none => rw [hf] at hn; cases hn
  | some r =>
    rw [hf] at hn
    have h1 := List.find?_some hf
    have h2 := List.mem_of_find?_eq_some hf
    have h3 : r.1 = b := Option.some.inj hn
    unfold near at h1
    simp only [Bool.and_eq_true, decide_eq_true_eq] at h1
    rw [h3] at h1
    exact ⟨h1.1, h1.2, r, h2, h3⟩
/-- The places behind one, and those that are told already. -/
def startsGo (rs : List R2) (N len gap : Nat) : Nat → Nat → Nat → List Int → List Int
  | 0, _, _, out => out
  | f + 1, at_, missed, out =>
    if at_ + 2 * len ≤ N then
      match nearR rs (at_ + len) with
      | some b => startsGo rs N len gap f b 0 (out ++ [(b : Int)])
      | none => if gap < missed + 1 then out else startsGo rs N len gap f (at_ + len) (missed + 1) (out ++ [((at_ + len : Nat) : Int)])
    else out
theorem startsGo_end {rs : List R2} {N len gap f p m : Nat} {out : List Int} (h : ¬ p + 2 * len ≤ N) : startsGo rs N len gap f p m out = out := by
  cases f with
  | zero => rfl
  | succ f => rw [startsGo, if_neg h]
theorem startsGo_found {rs : List R2} {N len gap f p m b : Nat} {out : List Int} (h : p + 2 * len ≤ N) (hb : nearR rs (p + len) = some b) : startsGo rs N len gap (f + 1) p m out = startsGo rs N len gap f b 0 (out ++ [(b : Int)]) := by
  rw [startsGo, if_pos h, hb]
theorem startsGo_stop {rs : List R2} {N len gap f p m : Nat} {out : List Int} (h : p + 2 * len ≤ N) (hb : nearR rs (p + len) = none) (hg : gap < m + 1) : startsGo rs N len gap (f + 1) p m out = out := by
  rw [startsGo, if_pos h, hb]
  exact if_pos hg
theorem startsGo_missed {rs : List R2} {N len gap f p m : Nat} {out : List Int} (h : p + 2 * len ≤ N) (hb : nearR rs (p + len) = none) (hg : ¬ gap < m + 1) : startsGo rs N len gap (f + 1) p m out = startsGo rs N len gap f (p + len) (m + 1) (out ++ [((p + len : Nat) : Int)]) := by
  rw [startsGo, if_pos h, hb]
  exact if_neg hg
def startsOk (n g : Int) : Bool := (decide (28 ≤ n) && decide (n ≤ 280)) && (decide (0 ≤ g) && decide (g ≤ 10))
/-- What Starts answers. -/
def starts (xs : List Nat) (s : Nat) (n g : Int) : List Int :=
  match lows xs s with
  | [] => []
  | r :: rs => if startsOk n g = true ∧ r.1 + n.toNat ≤ xs.length then startsGo (r :: rs) xs.length n.toNat g.toNat (xs.length + 1) r.1 0 [(r.1 : Int)] else []
theorem li_lit (z : Int) (W : World) (j : Nat) (u : Value) (hu : (LI.enc z)[j]? = some u) : (W.alloc (.cells #[.int .i64 z] 3)).cell? ⟨W.heap.size, 0 + j, none⟩ = some u :=
  lit_cells W [.int .i64 z] _ j u hu
theorem runs_any {w : World} {v : Value} {rs : List R2} (h : LR.Row w v rs) : ∃ a c, v = .slice a rs.length c ∧ ∀ k (hk : k < rs.length), ∃ g o, a = some ⟨g, o, none⟩ ∧ rs.length ≤ c ∧ w.cell? ⟨g, o + k * 2, none⟩ = some (.int .i64 (rs[k].1 : Int)) ∧ w.cell? ⟨g, o + k * 2 + 1, none⟩ = some (.int .i64 (rs[k].2 : Int)) := by
  obtain ⟨a, c, h1, h2⟩ := h.any LR_ok
  refine ⟨a, c, h1, fun k hk => ?_⟩
  obtain ⟨g, o, e, hc, hcell⟩ := h2 k hk
  refine ⟨g, o, e, hc, hcell 0 _ rfl, ?_⟩
  have := hcell 1 _ rfl
  rw [← Nat.add_assoc] at this
  exact this
theorem starts_yes {xs : List Nat} {s len gap : Nat} {R : List R2} (hR : lows xs s = R) (h0 : 0 < R.length) (ho : startsOk (len : Int) (gap : Int) = true) (hb : R[0].1 + len ≤ xs.length) : starts xs s (len : Int) (gap : Int) = startsGo R xs.length len gap (xs.length + 1) R[0].1 0 [(R[0].1 : Int)] := by
  unfold starts
  rw [hR]
  cases R with
  | nil => cases h0
  | cons r rs => exact if_pos ⟨ho, hb⟩
theorem starts_no {xs : List Nat} {s : Nat} {n g : Int} {R : List R2} (hR : lows xs s = R) (h0 : 0 < R.length) (h : startsOk n g = false ∨ ¬ R[0].1 + n.toNat ≤ xs.length) : starts xs s n g = [] := by
  unfold starts
  rw [hR]
  cases R with
  | nil => rfl
  | cons r rs => exact if_neg fun hh => h.elim (fun e => by rw [hh.1] at e; cases e) (fun e => e hh.2)
theorem starts_none {xs : List Nat} {s : Nat} {n g : Int} (hR : lows xs s = []) : starts xs s n g = [] := by
  unfold starts; rw [hR]
theorem near_test (r : R2) (p len : Nat) : (decide ((-3 : Int) ≤ (r.1 : Int) - ((p : Int) + (len : Int))) && decide ((r.1 : Int) - ((p : Int) + (len : Int)) ≤ 3)) = near (p + len) r := by
  unfold near
  rw [Bool.eq_iff_iff]
  simp only [Bool.and_eq_true, decide_eq_true_eq]
  omega
set_option maxHeartbeats 8000000 in
set_option maxRecDepth 100000 in
theorem specStarts_any (v : Value) (xs : List Nat) (s : Nat) (n g : Int) (w : World) (h : FRow w v xs) (hn : I64 n) (hg : I64 g) (hl : xs.length ≤ 4000000) :
    Calls Tryz.prog 41 #[v, .float .f32 s, .int .i64 n, .int .i64 g] w fun e w' => LI.Got (starts xs s n g) w e w' := by
  have HIN := fun W => Lib.hid (l01In_any n 28 280 W hn)
  have HIG := fun W => Lib.hid (l01In_any g 0 10 W hg)
  have HOW := Lib.hid (show LI.Own (w.alloc (.cells #[] 3)) w.heap.size (.slice (some ⟨w.heap.size, 0, none⟩) 0 0) [] from LI.own0 w)
  have HB := Lib.hid ((Below.refl w.heap.size w).alloc (Nat.le_refl _) (.cells #[] 3))
  have HSZ0 := Lib.hid (show w.heap.size < (w.alloc (.cells #[] 3)).heap.size by simp)
  have HL := Lib.hid (specLows_any v xs s (w.alloc (.cells #[] 3)) (h.below HB.out) hl)
  obtain ⟨av, cv, rfl⟩ := h.lenv
  clear h
  go_enter Tryz.func41, Tryz.ntmps41
  go_wp2_with fail
  generalize w.alloc (.cells #[] 3) = w1 at *
  refine HL.out.mono ?_
  rintro e w2 ⟨v2, rfl, ho2, hb2⟩
  have hb02 := below_trans HB.out hb2 HB.out.size
  have HO2 := Lib.hid (HOW.out.below hb2)
  have hsz2 : w1.heap.size ≤ w2.heap.size := hb2.size
  have hsz1 : w.heap.size < w1.heap.size := HSZ0.out
  have hend := lows_end (xs := xs) (s := s)
  clear HL HOW HB HSZ0 hb2
  obtain ⟨R, hR⟩ : ∃ R, lows xs s = R := ⟨_, rfl⟩
  rw [hR] at ho2 hend
  have HR := Lib.hid hR
  have HRW := Lib.hid ho2.row
  have HBK := Lib.hid ho2.lt
  obtain ⟨a2, c2, rfl, hcell⟩ := runs_any ho2.row
  have HC := Lib.hid hcell
  have HEND := Lib.hid hend
  clear ho2 hR hcell hend
  by_cases h0 : R.length = 0
  · have HE := Lib.hid (starts_none (n := n) (g := g) (HR.out.trans (List.length_eq_zero_iff.1 h0)))
    rw [h0]
    clear h0
    go_wp2
    go_ret
    rw [HE.out]
    exact Lay.Got.mk HO2.out hb02
  · have hr0 : 0 < R.length := by omega
    have hrz : ((R.length : Int) == 0) = false := beq_eq_false_iff_ne.2 (by omega)
    have hRL : R.length ≤ 20001 := by have := lows_len xs s; rwa [HR.out] at this
    obtain ⟨g0, o0, rfl, hcap2, hc0, _⟩ := HC.out 0 hr0
    rw [Nat.zero_mul, Nat.add_zero] at hc0
    have hE0 := (HEND.out R[0] (List.getElem_mem hr0)).2
    have HNO := Lib.hid (fun h => starts_no (n := n) (g := g) HR.out hr0 h)
    cases hin : (decide (28 ≤ n) && decide (n ≤ 280)) with
    | false =>
      rw [hin] at HIN
      have HE := Lib.hid (HNO.out (.inl (by unfold startsOk; rw [hin]; rfl)))
      clear hin hn hg
      go_wp2_with fail
      refine (HIN _).out.mono ?_
      rintro e w3 ⟨rfl, rfl⟩
      go_wp2
      go_ret
      rw [HE.out]
      exact Lay.Got.mk HO2.out hb02
    | true =>
      rw [hin] at HIN
      cases hig : (decide (0 ≤ g) && decide (g ≤ 10)) with
      | false =>
        rw [hig] at HIG
        have HE := Lib.hid (HNO.out (.inl (by unfold startsOk; rw [hig]; simp)))
        clear hin hig hn hg
        go_wp2_with fail
        refine (HIN _).out.mono ?_
        rintro e w3 ⟨rfl, rfl⟩
        go_wp2_with fail
        refine (HIG _).out.mono ?_
        rintro e w3 ⟨rfl, rfl⟩
        go_wp2
        go_ret
        rw [HE.out]
        exact Lay.Got.mk HO2.out hb02
      | true =>
        rw [hig] at HIG
        have HSO := Lib.hid (show startsOk n g = true by unfold startsOk; rw [hin, hig]; rfl)
        have hn2 : 28 ≤ n ∧ n ≤ 280 := by simpa using hin
        have hg2 : 0 ≤ g ∧ g ≤ 10 := by simpa using hig
        obtain ⟨len, rfl⟩ : ∃ m : Nat, n = m := Int.eq_ofNat_of_zero_le (by omega)
        obtain ⟨gap, rfl⟩ : ∃ m : Nat, g = m := Int.eq_ofNat_of_zero_le (by omega)
        clear hin hig hn hg
        have hx2 : xs.length ≤ 20000 := by
          by_cases hh : xs.length ≤ 20000
          · exact hh
          · have := HR.out; unfold lows at this; rw [if_neg hh] at this; rw [← this] at hr0; cases hr0
        by_cases hb0 : R[0].1 + len ≤ xs.length
        · have HYES := Lib.hid (starts_yes HR.out hr0 HSO.out hb0)
          have hfit : ∀ k (hk : k < R.length), R[k].1 ≤ 20000 := fun k hk => by have := (HEND.out R[k] (List.getElem_mem hk)).2; omega
          obtain ⟨p0, hp0⟩ : ∃ p, R[0].1 = p := ⟨_, rfl⟩
          rw [hp0] at hc0 hE0 hb0 HYES
          clear hp0 HNO
          have hpb : decide ((xs.length : Int) < (p0 : Int) + (len : Int)) = false := decide_eq_false (by omega)
          go_wp2_with fail
          refine (HIN _).out.mono ?_
          rintro e w3 ⟨rfl, rfl⟩
          go_wp2_with fail
          refine (HIG _).out.mono ?_
          rintro e w3 ⟨rfl, rfl⟩
          have HLIT := Lib.hid (li_lit (p0 : Int))
          go_wp2_with (at_builtin; go_loud (refine LI_ok.snoc rfl (.tmp 48) (.tmp 50) rfl w.heap.size (.slice (some ⟨w.heap.size, 0, none⟩) 0 0) [] _ rfl (HO2.out.alloc _) rfl _ rfl (p0 : Int) (HLIT.out _) (by decide) (by simp; omega) ?_); intro g6 cap6 w6 ho6 hg6 hor6 hlt6)
          have hg26 : w2.grownBy w6 (some w.heap.size) := putGrown (World.grownBy.refl _ _) (Nat.le_refl _) hg6 (.inl rfl)
          have hb6 := Lay.Own.snoc_below hb02 HO2.out _ hg6
          have hlo6 : g6 = w.heap.size ∨ w2.heap.size ≤ g6 := by
            rcases hor6 with h | h
            · exact .inl (Option.some.inj h).symm
            · simp at h; exact .inr (by omega)
          have HO6 := Lib.hid (show LI.Own w6 w.heap.size (.slice (some ⟨g6, 0, none⟩) 1 cap6) [(p0 : Int)] from ho6)
          clear ho6 hg6 hor6 HLIT hc0
          go_wp2
          go_loopw [9, 11, 12] (fun outv pv mv wr => ∃ (f p m g cap : Nat) (out : List Int), p ≤ xs.length ∧ xs.length < p + f ∧ m ≤ gap ∧ out.length ≤ p + 1 ∧ pv = .int .i64 (p : Int) ∧ mv = .int .i64 (m : Int) ∧ outv = .slice (some ⟨g, 0, none⟩) out.length cap ∧ starts xs s (len : Int) (gap : Int) = startsGo R xs.length len gap f p m out ∧ w2.grownBy wr (some w.heap.size) ∧ Below w.heap.size w wr ∧ (g = w.heap.size ∨ w2.heap.size ≤ g) ∧ LI.Own wr w.heap.size (.slice (some ⟨g, 0, none⟩) out.length cap) out) (fun _ pv _ _ => xs.length - (intOf pv).toNat)
          case atStart => exact ⟨xs.length + 1, p0, 0, g6, cap6, [(p0 : Int)], by omega, by omega, Nat.zero_le _, by simp, rfl, rfl, rfl, HYES.out, hg26, hb6, hlo6, HO6.out⟩
          case round =>
            obtain ⟨f, p, m, g, cap, out, hp, hf, hm, hol, rfl, rfl, rfl, hst, hg2r, hb, hlo, ho⟩ := hrel
            have HST := Lib.hid hst
            have HOK := Lib.hid ho
            have hs2r : w2.heap.size ≤ wr.heap.size := hg2r.size
            have hbs : w.heap.size ≤ wr.heap.size := hb.size
            clear hst ho
            by_cases hmore : p + 2 * len ≤ xs.length
            · obtain ⟨f, rfl⟩ : ∃ f', f = f' + 1 := ⟨f - 1, by omega⟩
              have hg0 : w.heap.size < g0 := by have := (HBK.out g0 rfl).1; omega
              have HCR := Lib.hid (fun k (hk : k < R.length) => show wr.cell? ⟨g0, o0 + k * 2, none⟩ = some (.int .i64 (R[k].1 : Int)) from by
                obtain ⟨g1, o1, e, _, h1, _⟩ := HC.out k hk
                cases e
                exact hg2r.cell h1 (by intro e; simp at e; omega))
              have hmb : decide ((p : Int) + 2 * (len : Int) ≤ (xs.length : Int)) = true := decide_eq_true (by omega)
              go_wp2
              go_loop [11, 14] (fun pv iv => ∃ k : Nat, k ≤ R.length ∧ iv = .int .i64 (k : Int) ∧ ((nearR (R.take k) (p + len) = none ∧ pv = .int .i64 (-1)) ∨ ∃ b : Nat, nearR (R.take k) (p + len) = some b ∧ pv = .int .i64 (b : Int))) (fun _ iv => R.length - (intOf iv).toNat)
              case atStart => exact ⟨0, Nat.zero_le _, rfl, .inl ⟨rfl, rfl⟩⟩
              case round =>
                obtain ⟨k, hk, rfl, hnn⟩ := hrel
                rcases hnn with ⟨hno, rfl⟩ | ⟨b, hyes, rfl⟩
                · by_cases hlt : k < R.length
                  · have hck := HCR.out k hlt
                    have hbk := hfit k hlt
                    have HSN := Lib.hid (nearR_snoc hlt hno)
                    have HNE := fun W => Lib.hid (l01In_any ((R[k].1 : Int) - ((p : Int) + (len : Int))) (-3) 3 W ⟨by omega, by omega⟩)
                    have hnt := near_test R[k] p len
                    rw [hnt] at HNE
                    clear hno hnt
                    obtain ⟨rk, hrk⟩ : ∃ r, R[k] = r := ⟨_, rfl⟩
                    rw [hrk] at hck hbk HSN HNE
                    clear hrk
                    obtain ⟨bk, hbk'⟩ : ∃ b, rk.1 = b := ⟨_, rfl⟩
                    rw [hbk'] at hck hbk HSN HNE
                    clear hbk'
                    cases hnr : near (p + len) rk with
                    | true =>
                      rw [hnr] at HNE HSN
                      clear hnr
                      go_wp2_with fail
                      refine (HNE _).out.mono ?_
                      rintro e w7 ⟨rfl, rfl⟩
                      go_wp2
                      go_round
                      case rel => exact ⟨k + 1, by omega, by go_num, .inr ⟨bk, by simpa using HSN.out, rfl⟩⟩
                      case measure => simp [intOf]; omega
                    | false =>
                      rw [hnr] at HNE HSN
                      clear hnr
                      go_wp2_with fail
                      refine (HNE _).out.mono ?_
                      rintro e w7 ⟨rfl, rfl⟩
                      go_wp2
                      go_round
                      case rel => exact ⟨k + 1, by omega, by go_num, .inl ⟨by simpa using HSN.out, rfl⟩⟩
                      case measure => simp [intOf]; omega
                  · have hnn : nearR R (p + len) = none := by rwa [List.take_of_length_le (by omega)] at hno
                    clear hno
                    by_cases hmiss : gap < m + 1
                    · have HE := Lib.hid (HST.out.trans (startsGo_stop hmore hnn hmiss))
                      clear hnn
                      go_wp2
                      go_ret
                      rw [HE.out]
                      exact Lay.Got.mk HOK.out hb
                    · have HE := Lib.hid (HST.out.trans (startsGo_missed hmore hnn hmiss))
                      clear hnn
                      have HLIT := Lib.hid (li_lit ((p : Int) + (len : Int)))
                      go_wp2_with (at_builtin; refine LI_ok.snoc rfl (.tmp 96) (.tmp 98) rfl w.heap.size (.slice (some ⟨g, 0, none⟩) out.length cap) out _ rfl (HOK.out.alloc _) rfl _ rfl ((p : Int) + (len : Int)) (HLIT.out _) (by omega) (by simp; omega) ?_; intro g7 cap7 w7 ho7 hg7 hor7 hlt7)
                      have hg27 : w2.grownBy w7 (some w.heap.size) := putGrown hg2r hs2r hg7 hlo
                      have hb7 := Lay.Own.snoc_below hb HOK.out _ hg7
                      have hlo7 : g7 = w.heap.size ∨ w2.heap.size ≤ g7 := by
                        rcases hor7 with h | h
                        · have := Option.some.inj h; subst this; exact hlo
                        · simp at h; exact .inr (by omega)
                      have HO7 := Lib.hid ho7
                      clear ho7 hg7 hor7
                      go_wp2
                      go_roundw
                      case rel => exact ⟨f, p + len, m + 1, g7, cap7, out ++ [((p + len : Nat) : Int)], by omega, by omega, by omega, by simp; omega, by go_num, by go_num, by simp, HE.out, hg27, hb7, hlo7, by simpa using HO7.out⟩
                      case measure => simp [intOf]; omega
                · have hnn := nearR_some hyes
                  obtain ⟨hb1, hb2, r, hrm, hrb⟩ := nearR_near hnn
                  have hbx : b ≤ xs.length := by have := (HEND.out r hrm).2; omega
                  have HE := Lib.hid (HST.out.trans (startsGo_found hmore hnn))
                  clear hnn hyes hrm hrb
                  have HLIT := Lib.hid (li_lit (b : Int))
                  go_wp2_with (at_builtin; refine LI_ok.snoc rfl (.tmp 96) (.tmp 98) rfl w.heap.size (.slice (some ⟨g, 0, none⟩) out.length cap) out _ rfl (HOK.out.alloc _) rfl _ rfl (b : Int) (HLIT.out _) (by omega) (by simp; omega) ?_; intro g7 cap7 w7 ho7 hg7 hor7 hlt7)
                  all_goals
                    have hg27 : w2.grownBy w7 (some w.heap.size) := putGrown hg2r hs2r hg7 hlo
                    have hb7 := Lay.Own.snoc_below hb HOK.out _ hg7
                    have hlo7 : g7 = w.heap.size ∨ w2.heap.size ≤ g7 := by
                      rcases hor7 with h | h
                      · have := Option.some.inj h; subst this; exact hlo
                      · simp at h; exact .inr (by omega)
                    have HO7 := Lib.hid ho7
                    clear ho7 hg7 hor7
                    go_wp2
                    go_roundw
                    case rel => exact ⟨f, b, 0, g7, cap7, out ++ [(b : Int)], by omega, by omega, by omega, by simp; omega, rfl, rfl, by simp, HE.out, hg27, hb7, hlo7, by simpa using HO7.out⟩
                    case measure => simp [intOf]; omega
            · have HE := Lib.hid (HST.out.trans (startsGo_end hmore))
              go_wp2
              go_ret
              rw [HE.out]
              exact Lay.Got.mk HOK.out hb
        · have HE := Lib.hid (HNO.out (.inr (by simpa using hb0)))
          obtain ⟨p0, hp0⟩ : ∃ p, R[0].1 = p := ⟨_, rfl⟩
          rw [hp0] at hc0 hE0 hb0
          clear hp0 HNO
          go_wp2_with fail
          refine (HIN _).out.mono ?_
          rintro e w3 ⟨rfl, rfl⟩
          go_wp2_with fail
          refine (HIG _).out.mono ?_
          rintro e w3 ⟨rfl, rfl⟩
          go_wp2
          go_ret
          rw [HE.out]
          exact Lay.Got.mk HO2.out hb02
end Go.Proofs.YtobpnoiienpipaaGreat
