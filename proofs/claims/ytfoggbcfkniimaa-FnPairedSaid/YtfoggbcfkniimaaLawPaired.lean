/-
  What is proved: the walk of the law FnPaired.
  Conditions: none beyond the argument's own.
-/
import Derived.Test.YtfoggbcfkniimaaPicDraw
import Derived.Test.YtfoggbcfkniimaaIsPaired
namespace Go.Proofs.Ytfoggbcfkniimaa
set_option linter.unusedVariables false
open Go.RowKit
attribute [local go_sem] feq_def

theorem fld_get (rs : List (List C3)) (k j : Nat) : (fld rs k)[j]? = rs[k + 2 * j]? := by
  unfold fld
  rw [evens_get, List.getElem?_drop]
theorem fld_mem {rs : List (List C3)} {k : Nat} {r : List C3} (h : r ∈ fld rs k) : r ∈ rs := by
  obtain ⟨j, hj, rfl⟩ := List.mem_iff_getElem.1 h
  have := fld_get rs k j
  rw [List.getElem?_eq_getElem hj] at this
  exact List.mem_of_getElem? this.symm
theorem fld_len (rs : List (List C3)) (k : Nat) : (fld rs k).length = (rs.length - k + 1) / 2 := by
  unfold fld
  rw [evens_len, List.length_drop]
theorem fld_at {rs : List (List C3)} {k j : Nat} (h : j < (fld rs k).length) : ∃ h' : k + 2 * j < rs.length, (fld rs k)[j] = rs[k + 2 * j] := by
  have := fld_get rs k j
  rw [List.getElem?_eq_getElem h] at this
  obtain ⟨h', e⟩ := List.getElem?_eq_some_iff.1 this.symm
  exact ⟨h', e.symm⟩
/-- Do the rows of a field agree, pair by pair? -/
def FP (f : List (List C3)) : Prop := ∀ j, j % 2 = 0 → ∀ h : j + 1 < f.length, colEq (f[j]'(by omega)) f[j + 1] = true
def FPto (f : List (List C3)) (i : Nat) : Prop := ∀ j, j < i → j % 2 = 0 → ∀ h : j + 1 < f.length, colEq (f[j]'(by omega)) f[j + 1] = true
theorem pair_iff {rs : List (List C3)} : PairP rs rs.length ↔ FP (fld rs 0) ∧ FP (fld rs 1) := by
  constructor
  · intro h
    have key : ∀ k, k ≤ 1 → FP (fld rs k) := by
      intro k hk j hj h2
      obtain ⟨h3, e3⟩ := fld_at (rs := rs) (k := k) (j := j) (by omega)
      obtain ⟨h4, e4⟩ := fld_at (rs := rs) (k := k) (j := j + 1) h2
      rw [e3, e4]
      have := h (k + 2 * j) h3 (by omega) (by omega)
      have e5 : rs[k + 2 * j + 2]'(by omega) = rs[k + 2 * (j + 1)] := by congr 1
      rwa [e5] at this
    exact ⟨key 0 (by omega), key 1 (by omega)⟩
  · rintro ⟨h0, h1⟩ r hr hr2 h2
    have key : ∀ k, FP (fld rs k) → k = r % 4 → colEq (rs[r]'hr) (rs[r + 2]'h2) = true := by
      intro k hf hk
      have hl := fld_len rs k
      have hj1 : r / 4 * 2 + 1 < (fld rs k).length := by omega
      obtain ⟨h3, e3⟩ := fld_at (rs := rs) (k := k) (j := r / 4 * 2) (by omega)
      obtain ⟨h4, e4⟩ := fld_at (rs := rs) (k := k) (j := r / 4 * 2 + 1) hj1
      have := hf (r / 4 * 2) (by omega) hj1
      rw [e3, e4] at this
      have e5 : rs[k + 2 * (r / 4 * 2)] = rs[r] := by congr 1; omega
      have e6 : rs[k + 2 * (r / 4 * 2 + 1)] = rs[r + 2] := by congr 1; omega
      rwa [e5, e6] at this
    rcases (by omega : r % 4 = 0 ∨ r % 4 = 1) with e | e
    · exact key 0 h0 e.symm
    · exact key 1 h1 e.symm
theorem fpto_step {f : List (List C3)} {i : Nat} (h : i + 1 < f.length) : i % 2 = 0 → (FPto f (i + 2) ↔ FPto f i ∧ colEq (f[i]'(by omega)) f[i + 1] = true) := by
  intro hi
  constructor
  · intro hf
    exact ⟨fun j hj => hf j (by omega), hf i (by omega) hi h⟩
  · rintro ⟨h1, h2⟩ j hj hj2 hj3
    by_cases e : j < i
    · exact h1 j e hj2 hj3
    · have : j = i := by omega
      subst this
      exact h2
theorem fpto_end {f : List (List C3)} {i : Nat} (h : f.length ≤ i + 1) (hi : i % 2 = 0) : FPto f i ↔ FP f :=
  ⟨fun hf j hj h2 => hf j (by omega) hj h2, fun hf j _ hj h2 => hf j hj h2⟩
theorem hue_step {zs : List (C3 × C3)} {j : Nat} (h : j < zs.length) : (zs.take (j + 1)).all hue = ((zs.take j).all hue && hue zs[j]) := by
  rw [List.take_succ_eq_append_getElem h, List.all_append]
  simp

set_option maxRecDepth 100000 in
set_option maxHeartbeats 8000000 in
theorem walk_FnPaired (a0 : Option Addr) (len0 cap0 : Nat) (z0 : List Int) (w : World) (w0 : IsRow .u8 w a0 len0 cap0 z0) :
    Calls Try.prog 6 #[.slice a0 len0 cap0] w fun e w' => e = .returned (.bool true) ∧ Below w.heap.size w w' := by
  by_cases hbig : 1048576 < len0
  · have hbb : decide ((1048576 : Int) < len0) = true := by simp; omega
    have HB := Lib.hid (big_any a0 len0 cap0 w)
    rw [hbb] at HB
    clear hbb
    go_enter Try.func6, Try.ntmps6
    go_wp2_with fail
    refine HB.out.mono ?_
    rintro e w1 ⟨rfl, rfl⟩
    go_wp2
    go_ret
    exact ⟨rfl, Below.refl _ _⟩
  · have hbb : decide ((1048576 : Int) < len0) = false := by simp; omega
    have HB := Lib.hid (big_any a0 len0 cap0 w)
    rw [hbb] at HB
    have HD := Lib.hid (drawIsPaired_any a0 len0 cap0 w (w0.src (by omega)))
    clear hbb w0
    go_enter Try.func6, Try.ntmps6
    go_wp2_with fail
    refine HB.out.mono ?_
    rintro e w1 ⟨rfl, rfl⟩
    go_wp2_with fail
    refine HD.out.mono ?_
    rintro e w1 ⟨v, rs, ⟨ht, hl⟩, rfl, hp, hb1⟩
    have HP := Lib.hid hp
    have HT := Lib.hid ht
    clear hp ht HD HB
    go_wp2_with fail
    refine (specPicture_any v rs w1 HP.out HT.out (by omega)).mono ?_
    rintro e w2 ⟨rfl, hb2⟩
    have HP2 := Lib.hid (HP.out.below hb2)
    cases hpk : pok rs with
    | false =>
      have HN := Lib.hid hpk
      clear hpk
      go_wp2_with fail
      refine (isPaired_any v rs w2 HP2.out HT.out (by omega)).mono ?_
      rintro e w3 ⟨t, rfl, ht, hb3⟩
      have htf : t = false := by
        cases t with
        | false => rfl
        | true => have := (ht.1 rfl).1; rw [HN.out] at this; cases this
      subst htf
      clear ht
      go_wp2
      go_ret
      exact ⟨rfl, below_trans hb1 (below_trans hb2 hb3 hb2.size) hb1.size⟩
    | true =>
      have HPOK := Lib.hid hpk
      obtain ⟨h4, h5, h6⟩ := pok_size_of hpk
      have HNE := Lib.hid (pok_rows_ne hpk)
      have HFO := fun k W (hW : Aft w2 W) (hk : k ≤ 1) => Lib.hid (fieldOf_any v rs k W (HP2.out.below hW) HT.out (by omega) hk)
      simp only [hpk, if_true] at HFO
      have H4 := Lib.hid h4
      have HX0 := Lib.hid (fun j (h : j < (fld rs 0).length) => fld_at h)
      clear hpk h4
      go_wp2
      go_loopw [4, 5] (fun due ki wr => ∃ (k : Nat) (d : Bool), k ≤ 2 ∧ due = .bool d ∧ ki = .int .i64 (k : Int) ∧ Aft w2 wr ∧ (d = true ↔ ∀ q, q < k → FP (fld rs q))) (fun _ ki _ => 2 - (intOf ki).toNat)
      case atStart => exact ⟨0, true, by omega, rfl, rfl, Aft.start w2, ⟨fun _ q hq => by omega, fun _ => rfl⟩⟩
      case round =>
        obtain ⟨k, d, hk, rfl, rfl, hw, hd⟩ := hrel
        have HDD := Lib.hid hd
        clear hd
        by_cases hk2 : k < 2
        · go_wp2_with fail
          refine (HFO k _ hw (by omega)).out.mono ?_
          rintro e w3 ⟨vf, rfl, hvf, hb3⟩
          have hw3 := hw.next hb3
          have hfl := fld_len rs k
          have hfne : fld rs k ≠ [] := by intro e; rw [e] at hfl; simp at hfl; omega
          have HS := Lib.hid (fun i j (hi : i < (fld rs k).length) (hj : j < (fld rs k).length) => show (fld rs k)[i].length = (fld rs k)[j].length from by
            obtain ⟨x1, x2⟩ := fld_at hi
            obtain ⟨y1, y2⟩ := fld_at hj
            rw [x2, y2]
            exact pok_same HPOK.out x1 y1)
          have HNF := Lib.hid (fun r (hr : r ∈ fld rs k) => HNE.out r (fld_mem hr))
          have hle : (fld rs k).length ≤ 64 := by omega
          obtain ⟨g, o, cap, rfl, hcap, hcell⟩ := hvf.len hfne
          have HC := Lib.hid hcell
          have HEND := Lib.hid (show ((∀ q, q < k → FP (fld rs q)) ∧ FP (fld rs k)) ↔ ∀ q, q < k + 1 → FP (fld rs q) from ⟨fun h q hq => by
            by_cases e : q < k
            · exact h.1 q e
            · have : q = k := by omega
              subst this; exact h.2, fun h => ⟨fun q hq => h q (by omega), h k (by omega)⟩⟩)
          generalize hf : fld rs k = f at *
          have HF := Lib.hid hf
          clear hf hfl hfne hvf hcell
          go_wp2
          go_loopw [4, 7] (fun due ii wi => ∃ (i : Nat) (d' : Bool), i % 2 = 0 ∧ i ≤ f.length + 1 ∧ due = .bool d' ∧ ii = .int .i64 (i : Int) ∧ Aft w3 wi ∧ (d' = true ↔ d = true ∧ FPto f i)) (fun _ ii _ => f.length + 2 - (intOf ii).toNat)
          case atStart => exact ⟨0, d, rfl, by omega, rfl, rfl, Aft.start w3, ⟨fun h => ⟨h, fun j hj => by omega⟩, fun h => h.1⟩⟩
          case round =>
            obtain ⟨i, d', hie, hil, rfl, rfl, hwi, hd'⟩ := hrel
            have HD' := Lib.hid hd'
            have HIE := Lib.hid hie
            clear hd' hie
            by_cases hi2 : i + 1 < f.length
            · obtain ⟨aa, ca, hca, hra⟩ := HC.out i (by omega)
              obtain ⟨ab, cb, hcb, hrb⟩ := HC.out (i + 1) hi2
              have hne1 := (HNF.out _ (List.getElem_mem (show i < f.length by omega)))
              have hne2 := (HNF.out _ (List.getElem_mem hi2))
              have HSTEP := Lib.hid (fpto_step hi2 HIE.out)
              have HLEN := Lib.hid (HS.out i (i + 1) (by omega) hi2)
              generalize f[i]'(show i < f.length by omega) = ra at *
              generalize f[i + 1]'hi2 = rb at *
              obtain ⟨rg, ro, rc, era, _, hrc⟩ := hra.len hne1.1
              obtain ⟨sg, so, sc, erb, _, hsc⟩ := hrb.len hne2.1
              rw [era] at hca
              rw [erb] at hcb
              have hral : ra.length ≤ 1000000 := hne1.2
              have HRC := Lib.hid hrc
              have HSC := Lib.hid hsc
              have HZL := Lib.hid (show (List.zip ra rb).length = ra.length by rw [List.length_zip, ← HLEN.out, Nat.min_self])
              have HZG := Lib.hid (fun j (h : j < (List.zip ra rb).length) (h1 : j < ra.length) (h2 : j < rb.length) => show (List.zip ra rb)[j] = (ra[j], rb[j]) from List.getElem_zip)
              have HCE := Lib.hid (show colEq ra rb = (List.zip ra rb).all hue from rfl)
              clear hra hrb era erb hrc hsc hne1 hne2
              generalize List.zip ra rb = zs at *
              have hi3 : (i : Int) + 1 < f.length := by omega
              go_wp2
              go_loopw [4, 8] (fun due jj wj => ∃ (j : Nat) (d'' : Bool), j ≤ ra.length ∧ due = .bool d'' ∧ jj = .int .i64 (j : Int) ∧ Aft w3 wj ∧ (d'' = true ↔ d' = true ∧ (zs.take j).all hue = true)) (fun _ jj _ => ra.length - (intOf jj).toNat)
              case atStart => exact ⟨0, d', by omega, rfl, rfl, hwi, ⟨fun h => ⟨h, by simp⟩, fun h => h.1⟩⟩
              case round =>
                obtain ⟨j, d'', hj, rfl, rfl, hwj, hd''⟩ := hrel
                have HD'' := Lib.hid hd''
                clear hd''
                have m0 := hwj.load hca
                have m1 := hwj.load hcb
                by_cases hj2 : j < ra.length
                · have hj3 : j < rb.length := by have := HLEN.out; omega
                  have hz : j < zs.length := by have := HZL.out; omega
                  have n0 := hwj.load (HRC.out j hj2).2
                  have n1 := hwj.load (HSC.out j hj3).2
                  have HG := Lib.hid (HZG.out j hz hj2 hj3)
                  have HST := Lib.hid (hue_step hz)
                  generalize zs[j]'hz = zj at *
                  generalize ra[j]'hj2 = ac at *
                  generalize rb[j]'hj3 = bc at *
                  have hs1 : IntKind.i64.wrap ((i : Int) + 1) = ((i + 1 : Nat) : Int) := by rw [IntWalk.i64_in _ (by omega)]; omega
                  have hlb : j < rb.length := hj3
                  cases d'' with
                  | true =>
                    have h1 := HD''.out.mp rfl
                    have HR := Lib.hid (show (feq ac.2.1 bc.2.1 && feq ac.2.2 bc.2.2) = true ↔ d' = true ∧ (zs.take (j + 1)).all hue = true from by
                      rw [HST.out, HG.out, h1.2]
                      exact ⟨fun h => ⟨h1.1, h⟩, fun h => h.2⟩)
                    clear h1
                    go_wp2
                    go_quiet (fail)
                    rename_i nq
                    have hwq : Aft w3 (wr.drewN nq) := belowDN hwj nq
                    generalize wr.drewN nq = wq at *
                    clear m0 m1 n0 n1 hs1
                    go_wp2
                    go_roundw
                    case rel => exact ⟨j + 1, _, by omega, rfl, by go_num, hwq, HR.out⟩
                    case measure => simp [intOf]; omega
                  | false =>
                    have HR := Lib.hid (show d' = true → (zs.take (j + 1)).all hue = true → False from fun e h => by
                      rw [HST.out, Bool.and_eq_true] at h
                      have := HD''.out.mpr ⟨e, h.1⟩
                      cases this)
                    go_wp2
                    go_quiet (fail)
                    rename_i nq
                    have hwq : Aft w3 (wr.drewN nq) := belowDN hwj nq
                    generalize wr.drewN nq = wq at *
                    clear m0 m1 n0 n1 hs1
                    go_wp2
                    go_roundw
                    case rel => exact ⟨j + 1, false, by omega, rfl, by go_num, hwq, ⟨fun h => (by cases h), fun h => (HR.out h.1 h.2).elim⟩⟩
                    case measure => simp [intOf]; omega
                · have HTK := Lib.hid (show zs.take j = zs from List.take_of_length_le (by have := HZL.out; omega))
                  have HR := Lib.hid (show d'' = true ↔ d = true ∧ FPto f (i + 2) from by
                    rw [HD''.out, HD'.out, HSTEP.out, HTK.out, HCE.out, and_assoc])
                  clear m1
                  go_wp2
                  go_roundw
                  case rel => exact ⟨i + 2, d'', by have := HIE.out; omega, by omega, rfl, by go_num, hwj, HR.out⟩
                  case measure => simp [intOf]; omega
            · have HR := Lib.hid (show d' = true ↔ ∀ q, q < k + 1 → FP (fld rs q) from by
                rw [HD'.out, HDD.out, fpto_end (by omega) HIE.out]
                exact HEND.out)
              have hwk := hw3.next hwi
              have hnl : ¬ ((i : Int) + 1 < f.length) := by omega
              go_wp2
              go_roundw
              case rel => exact ⟨k + 1, d', by omega, rfl, by go_num, hwk, HR.out⟩
              case measure => simp [intOf]; omega
        · have hk3 : k = 2 := by omega
          subst hk3
          have HR := Lib.hid (show d = true ↔ PairP rs rs.length from by
            rw [HDD.out, pair_iff]
            exact ⟨fun h => ⟨h 0 (by omega), h 1 (by omega)⟩, fun h q hq => by
              rcases (by omega : q = 0 ∨ q = 1) with rfl | rfl
              · exact h.1
              · exact h.2⟩)
          go_wp2_with fail
          refine (isPaired_any v rs _ (HP2.out.below hw) HT.out (by omega)).mono ?_
          rintro e w4 ⟨t, rfl, htt, hb4⟩
          have htd : t = d := by
            cases t <;> cases d
            · rfl
            · have := htt.mpr ⟨HPOK.out, HR.out.mp rfl⟩; cases this
            · have := HR.out.mpr (htt.mp rfl).2; cases this
            · rfl
          subst htd
          clear htt
          have hw4 := hw.next hb4
          go_wp2_with fail
          refine (HFO 0 _ hw4 (by omega)).out.mono ?_
          rintro e w5 ⟨vf, rfl, hvf, hb5⟩
          have hfl := fld_len rs 0
          obtain ⟨af, cf, rfl⟩ := hvf.lenv
          have hpos : 0 < (fld rs 0).length := by omega
          have hwe := hw4.next hb5
          clear hvf hfl
          go_wp2
          go_ret
          exact ⟨rfl, below_trans hb1 (below_trans hb2 hwe hb2.size) hb1.size⟩
end Go.Proofs.Ytfoggbcfkniimaa
