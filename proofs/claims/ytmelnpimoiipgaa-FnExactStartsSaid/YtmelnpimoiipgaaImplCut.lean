/-
  What is proved: the walk of the program's CutLines.
  Conditions: the stream and the places can be read.
-/
import Derived.Test.YtmelnpimoiipgaaPkGen
import Derived.Test.YtmelnpimoiipgaaSpecCut
import Derived.Test.YtmelnpimoiipgaaImplErase
import Derived.Test.YtmelnpimoiipgaaPkMake
import Derived.IntWalk
namespace Go.Proofs.Ytmelnpimoiipgaa
set_option linter.unusedVariables false
open Go.RowKit
attribute [local go_sem] run_store_float run_store_complex unary_negf neg256

/-- A list of lines with one line more, whatever block it lies in. -/
theorem Grid.snocV {wr w6 : World} {base g6 n6 cap6 : Nat} {v : Value} {rows : List (List Nat)} {ss : List SV} {s : SV} {ys : List Nat} (h : Grid wr base v rows ss) (hg : wr.grownBy w6 v.ownBlock) (hs : FNew w6 base s.v ys)
    (hk : ∀ k, s.v.ownBlock = some k → wr.heap.size ≤ k ∧ k ≠ g6) (hg6 : v.ownBlock = some g6 ∨ wr.heap.size ≤ g6) (ho : LSf.Own w6 base (.slice (some ⟨g6, 0, none⟩) n6 cap6) (ss ++ [s])) : Grid w6 base (.slice (some ⟨g6, 0, none⟩) n6 cap6) (rows ++ [ys]) (ss ++ [s]) := by
  have hlt : ∀ i (hi : i < ss.length) k, ss[i].v.ownBlock = some k → k < wr.heap.size := fun i hi k e => (h.lines.row i hi (by rw [← h.lines.len]; exact hi)).blk e
  refine ⟨ho, h.lines.snoc hg hs (fun k e => ⟨fun i hi e' => ?_, fun e' => ?_⟩) ?_⟩
  · have := hlt i hi k e'
    have := (hk k e).1
    omega
  · have e2 : g6 = k := Option.some.inj e'
    exact (hk k e).2 e2.symm
  · rcases hg6 with e | h6
    · exact .inl e.symm
    · exact .inr ⟨g6, rfl, fun i hi e' => by have := hlt i hi g6 e'; omega⟩
theorem isLine_any (n : Int) (w : World) : Calls Try.prog 65 #[.int .i64 n] w fun e w' => e = .returned (.bool (lineN n)) ∧ w = w' := by
  by_cases h1 : 28 ≤ n
  · by_cases h2 : n ≤ 280
    · have HL := Lib.hid (show lineN n = true by unfold lineN; simp [h1, h2])
      go_enter Try.func65, Try.ntmps65
      go_wp2
      go_ret
      exact ⟨by rw [HL.out]; rfl, rfl⟩
    · have HL := Lib.hid (show lineN n = false by unfold lineN; simp [h2])
      go_enter Try.func65, Try.ntmps65
      go_wp2
      go_ret
      exact ⟨by rw [HL.out]; rfl, rfl⟩
  · have HL := Lib.hid (show lineN n = false by unfold lineN; simp [h1])
    go_enter Try.func65, Try.ntmps65
    go_wp2
    go_ret
    exact ⟨by rw [HL.out]; rfl, rfl⟩
set_option maxRecDepth 100000 in
set_option maxHeartbeats 4000000 in
theorem cut_any (v vp : Value) (xs : List Nat) (ps : List Int) (n : Int) (w : World) (h : FRow w v xs) (hps : LI.Row w vp ps) (hi : ∀ p ∈ ps, I64 p) (hn : I64 n) (hl : xs.length ≤ 4000000) (hl2 : ps.length ≤ 4000000) :
    Calls Try.prog 19 #[v, vp, .int .i64 n] w fun e w' => GotG (cuts xs ps n) w e w' := by
  have HIN := fun W => Lib.hid (isLine_any n W)
  have HG0 := Lib.hid (show Grid w w.heap.size (.slice none 0 0) [] [] from ⟨LSf.ownNil _ _, Lines.nil _ _ _⟩)
  have hrow := h
  obtain ⟨av, cv, rfl⟩ := h.lenv
  obtain ⟨ap, cp, rfl, hcell⟩ := ints_any hps
  have HROW := Lib.hid hrow
  have HC := Lib.hid hcell
  have HI := Lib.hid hi
  clear h hrow hcell hps hi
  cases hin : lineN n with
  | false =>
    rw [hin] at HIN
    have HE := Lib.hid (show cuts xs ps n = [] by unfold cuts; rw [if_neg]; rw [hin]; intro hh; cases hh.1)
    clear hin hn
    go_enter Try.func19, Try.ntmps19
    go_wp2_with fail
    refine (HIN _).out.mono ?_
    rintro e w1 ⟨rfl, rfl⟩
    go_wp2
    go_ret
    rw [HE.out]
    exact GotG.mk HG0.out (Below.refl _ _)
  | true =>
    rw [hin] at HIN
    have hn2 : 28 ≤ n ∧ n ≤ 280 := by unfold lineN at hin; simpa using hin
    by_cases hbig : 20000 < xs.length
    · have HE := Lib.hid (show cuts xs ps n = [] by unfold cuts; rw [if_neg]; intro hh; omega)
      clear hin hn
      go_enter Try.func19, Try.ntmps19
      go_wp2_with fail
      refine (HIN _).out.mono ?_
      rintro e w1 ⟨rfl, rfl⟩
      go_wp2
      go_ret
      rw [HE.out]
      exact GotG.mk HG0.out (Below.refl _ _)
    · obtain ⟨len, rfl⟩ : ∃ m : Nat, n = m := Int.eq_ofNat_of_zero_le (by omega)
      have HE := Lib.hid (show cuts xs ps (len : Int) = cutsK xs len ps by unfold cuts; rw [if_pos ⟨hin, by omega⟩]; rfl)
      have hwl : IntKind.i64.wrap ((xs.length : Int) - (len : Int)) = (xs.length : Int) - (len : Int) := IntWalk.i64_in _ (by omega)
      clear hin hn
      go_enter Try.func19, Try.ntmps19
      go_wp2_with fail
      refine (HIN _).out.mono ?_
      rintro e w1 ⟨rfl, rfl⟩
      go_wp2
      go_loopw [7, 20] (fun out i wr => ∃ (k : Nat) (ss : List SV), k ≤ ps.length ∧ i = .int .i64 (k : Int) ∧ Below w.heap.size w wr ∧ Grid wr w.heap.size out (cutsK xs len (ps.take k)) ss) (fun _ i _ => ps.length - (intOf i).toNat)
      case atStart => exact ⟨0, [], Nat.zero_le _, rfl, Below.refl _ _, HG0.out⟩
      case round =>
        obtain ⟨k, ss, hk, rfl, hb, hgr⟩ := hrel
        have HGR := Lib.hid hgr
        have hss : ss.length ≤ k := by have := cutsK_len xs len k ps; rw [← hgr.lines.len] at this; exact this
        clear hgr
        by_cases hlt : k < ps.length
        · obtain ⟨g1, o1, rfl, hcap1, hc1⟩ := HC.out k hlt
          have hc1' := (grown_of hb).cell hc1 (by simp)
          have hpi := HI.out ps[k] (List.getElem_mem hlt)
          have HYES := Lib.hid (cutsK_yes (xs := xs) (n := len) hlt)
          have HNO := Lib.hid (cutsK_no (xs := xs) (n := len) hlt)
          clear hc1
          obtain ⟨p, hp⟩ : ∃ p, ps[k] = p := ⟨_, rfl⟩
          rw [hp] at hc1' hpi HYES HNO
          clear hp
          by_cases h0 : 0 ≤ p
          · by_cases h1 : p ≤ (xs.length : Int) - (len : Int)
            · have HS := Lib.hid (HYES.out (by unfold cutAt; simp [h0, h1]))
              obtain ⟨q, rfl⟩ : ∃ q : Nat, p = q := Int.eq_ofNat_of_zero_le h0
              have hql : q + len ≤ xs.length := by omega
              obtain ⟨g0, o0, rfl, hcap0⟩ : ∃ g o, av = some ⟨g, o, none⟩ ∧ xs.length ≤ cv := by
                rcases HROW.out with ⟨_, e1⟩ | ⟨g0, o0, cap0, he, hcap0, _⟩
                · rw [e1] at hql; simp at hql; omega
                · cases he; exact ⟨g0, o0, rfl, hcap0⟩
              have HPR := Lib.hid (FRow.part (HROW.out.below hb) rfl q len (cv - q) hql (by omega) (by omega))
              have HPL := Lib.hid (part_len xs q len hql)
              have HCLN := Lib.hid (cloneE_any (.slice (some ⟨g0, o0 + q, none⟩) len (cv - q)) (part xs q len) wr HPR.out (by have := HPL.out; omega))
              have hwrap : IntKind.i64.wrap ((q : Int) + (len : Int)) = (q : Int) + (len : Int) := IntWalk.i64_in _ (by omega)
              have hi1 : (0 : Int) ≤ (q : Int) := by omega
              have hi2 : (q : Int) ≤ (q : Int) + (len : Int) := by omega
              have hi3 : (q : Int) + (len : Int) ≤ (cv : Int) := by omega
              have hi4 : ¬ cv = q := by omega
              have hi5 : ¬ q = cv := by omega
              have hi6 : ((q : Int) + (len : Int)).toNat = q + len := by omega
              clear hpi
              go_wp2_with fail
              refine HCLN.out.mono ?_
              rintro e w5 ⟨v5, rfl, hn5, hb5⟩
              obtain ⟨g5, cap5, rfl⟩ := hn5.row4 (by have := HPL.out; omega)
              rw [HPL.out] at hn5 ⊢
              have hsz : w.heap.size ≤ wr.heap.size := hb.size
              have hlt5 := hn5.lt g5 rfl
              have HN5 := Lib.hid hn5
              have HB5 := Lib.hid hb5
              have HOW5 := Lib.hid ((HGR.out.own.kept (grown_of hb5) (by cases u7.ownBlock <;> simp)).alloc (.cells #[.slice (some ⟨g5, 0, none⟩) len cap5] 24))
              have h5s := hb5.size
              clear hn5 hb5 hc1' hi1 hi2 hi3 hi4 hi5 hi6 hwrap
              go_wp2_with (at_builtin; refine LSf_ok.snoc rfl (.tmp 34) (.tmp 42) rfl w.heap.size _ ss _ rfl HOW5.out rfl _ rfl (some ⟨g5, 0, none⟩, len, cap5) (lit_cells w5 _ _) (by omega) (by simp; omega) ?_; intro g6 cap6 w6 ho6 hg6 hor6 hlt6)
              have hA : Below wr.heap.size wr (w5.alloc (.cells #[.slice (some ⟨g5, 0, none⟩) len cap5] 24)) := HB5.out.alloc h5s _
              have hgr6 : wr.grownBy w6 u7.ownBlock := (grown_any u7.ownBlock hA).trans hg6
              have hown := fun k e => (HGR.out.own.lt k e)
              have hs5 : FNew w6 w.heap.size (.slice (some ⟨g5, 0, none⟩) len cap5) (part xs q len) := ((HN5.out.far (World.grownBy_alloc w5 _ none) (by simp)).far hg6 (fun k e e' => by
                have h1 := (hown k e').2
                have h2 : g5 = k := Option.some.inj e
                omega)).mono hsz
              have hne : g5 ≠ g6 := by
                rcases hor6 with h | h
                · have := (hown g6 h).2; omega
                · simp at h; omega
              have hor' : u7.ownBlock = some g6 ∨ wr.heap.size ≤ g6 := by
                rcases hor6 with h | h
                · exact .inl h
                · simp at h; exact .inr (by omega)
              have HGG := Lib.hid (HGR.out.snocV (s := (some ⟨g5, 0, none⟩, len, cap5)) hgr6 hs5 (fun k e => by cases e; exact ⟨hlt5.1, hne⟩) hor' ho6)
              have hb6 := hb.grown hgr6 hsz (fun k e => (hown k e).1)
              clear ho6 hg6 hor6 hs5 hown hgr6 hA
              go_wp2
              go_roundw
              case rel => exact ⟨k + 1, ss ++ [(some ⟨g5, 0, none⟩, len, cap5)], by omega, by go_num, hb6, by rw [HS.out]; exact HGG.out⟩
              case measure => simp [intOf]; omega
            · have HS := Lib.hid (HNO.out (by unfold cutAt; simp [h1]))
              go_wp2
              go_roundw
              case rel => exact ⟨k + 1, ss, by omega, by go_num, hb, by rw [HS.out]; exact HGR.out⟩
              case measure => simp [intOf]; omega
          · have HS := Lib.hid (HNO.out (by unfold cutAt; simp [h0]))
            go_wp2
            go_roundw
            case rel => exact ⟨k + 1, ss, by omega, by go_num, hb, by rw [HS.out]; exact HGR.out⟩
            case measure => simp [intOf]; omega
        · have hkk : k = ps.length := by omega
          have HT := Lib.hid (show ps.take k = ps from List.take_of_length_le (by omega))
          subst hkk
          go_wp2
          go_ret
          rw [HE.out]
          have hfin := HGR.out
          rw [HT.out] at hfin
          exact GotG.mk hfin hb
end Go.Proofs.Ytmelnpimoiipgaa
