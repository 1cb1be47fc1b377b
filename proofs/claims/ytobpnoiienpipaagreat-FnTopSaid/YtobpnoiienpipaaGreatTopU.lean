/-
  What is proved: all that is told of a link, of its lines and of what is received of them.
  Conditions: the picture and the channel are those of a link.
-/
import Derived.Test.YtobpnoiienpipaaGreatPz48
namespace Go.Proofs.YtobpnoiienpipaaGreat
set_option linter.unusedVariables false
open Go.RowKit
open Flt (Q)

theorem colEq_of {a b : List C3} (ha : LinkR a) (he : ∀ i (h : i < a.length) (h' : i < b.length), a[i].2 = b[i].2) : colEq a b = true := by
  unfold colEq
  refine List.all_eq_true.2 fun p hp => ?_
  obtain ⟨i, hi, rfl⟩ := List.mem_iff_getElem.1 hp
  have hi' := hi
  rw [List.length_zip] at hi'
  rw [List.getElem_zip]
  obtain ⟨_, e2, e3⟩ := ha.fin _ (List.getElem_mem (show i < a.length by omega))
  have f : ∀ {x : Nat}, Flt.fin x = true → feq x x = true := fun hx => by
    obtain ⟨s, u, hn, _⟩ := Flt.fin_of hx
    exact feq_self (Flt.num_read hn)
  unfold hue
  simp only
  rw [← he i (by omega) (by omega), f e2, f e3]
  rfl
set_option maxHeartbeats 1000000 in
theorem top4 {h : Chn} {W : Nat} (r0 r1 r2 r3 : List C3) (hok : ChOk h ∧ MagH h) (hW : 1 ≤ W ∧ W ≤ 4) (hr : ∀ r ∈ [r0, r1, r2, r3], LinkR r ∧ r.length = W)
    (p0 : TwoF h r0 r2) (p1 : TwoF h r1 r3) (hpp : PairP [r0, r1, r2, r3] [r0, r1, r2, r3].length) : TopF h [r0, r1, r2, r3] W := by
  obtain ⟨kr0, lr0⟩ := hr r0 (by simp)
  obtain ⟨kr1, lr1⟩ := hr r1 (by simp)
  obtain ⟨kr2, lr2⟩ := hr r2 (by simp)
  obtain ⟨kr3, lr3⟩ := hr r3 (by simp)
  have hm2 : [r0, r1, r2, r3].length / 2 = 2 := by simp
  have hL : studL h [r0, r1, r2, r3] = [lnk h r0 false, lnk h r2 true, lnk h r1 false, lnk h r3 true] := by
    unfold studL sentL
    rw [show fld [r0, r1, r2, r3] 0 = [r0, r2] from rfl, show fld [r0, r1, r2, r3] 1 = [r1, r3] from rfl, show [r0, r2].length = 2 from rfl, show [r1, r3].length = 2 from rfl]
    rfl
  have hLn : (studL h [r0, r1, r2, r3]).length = 4 := by rw [hL]; rfl
  have hg0 : ∀ two ok, PairS ((studL h [r0, r1, r2, r3]).getD (2 * 0) []) ((studL h [r0, r1, r2, r3]).getD (2 * 0 + 1) []) 1040187392 1065353216 two ok → ok = true ∧ ∃ d0 d1, two = [d0, d1] ∧ Got1 r0 d0 ∧ Got1 r2 d1 := by rw [hL]; exact p0.got
  have hg1 : ∀ two ok, PairS ((studL h [r0, r1, r2, r3]).getD (2 * 1) []) ((studL h [r0, r1, r2, r3]).getD (2 * 1 + 1) []) 1040187392 1065353216 two ok → ok = true ∧ ∃ d0 d1, two = [d0, d1] ∧ Got1 r1 d0 ∧ Got1 r3 d1 := by rw [hL]; exact p1.got
  have hline : ∀ l ∈ studL h [r0, r1, r2, r3], l.length = 24 + 4 * W ∧ ∃ e, LowL l 3250585600 (24 + 4 * W) e := by
    intro l hl
    rw [hL] at hl
    simp only [List.mem_cons, List.mem_nil_iff, or_false] at hl
    rcases hl with rfl | rfl | rfl | rfl
    · rw [← lr0]; exact ⟨p0.fst.len, p0.fst.low⟩
    · rw [← lr2]; exact ⟨p0.snd.len, p0.snd.low⟩
    · rw [← lr1]; exact ⟨p1.fst.len, p1.fst.low⟩
    · rw [← lr3]; exact ⟨p1.snd.len, p1.snd.low⟩
  have hpk : pok [r0, r1, r2, r3] = true := pok_of (W := W) (.inl rfl) fun r hm => ⟨(hr r hm).1.rok (by rw [(hr r hm).2]; omega) (by rw [(hr r hm).2]; omega), (hr r hm).2⟩
  have ht0 : Thru h (fld [r0, r1, r2, r3] 0) := by
    have hln : (fld [r0, r1, r2, r3] 0).length = 2 := rfl
    refine ⟨by rw [hln]; decide, fun i hi => ?_, fun i hi => ?_, fun i hi => ?_, fun i hi => ?_⟩
    · rw [hln] at hi
      rcases (by omega : i = 0 ∨ i = 1) with rfl | rfl
      · exact kr0.rok (by omega) (by omega)
      · exact kr2.rok (by omega) (by omega)
    · rw [hln] at hi
      rcases (by omega : i = 0 ∨ i = 1) with rfl | rfl
      · exact kr0.fit
      · exact kr2.fit
    · rw [hln] at hi
      rcases (by omega : i = 0 ∨ i = 1) with rfl | rfl
      · exact p0.fst.ok1
      · exact p0.snd.ok1
    · rw [hln] at hi
      rcases (by omega : i = 0 ∨ i = 1) with rfl | rfl
      · exact p0.fst.ok2
      · exact p0.snd.ok2
  have ht1 : Thru h (fld [r0, r1, r2, r3] 1) := by
    have hln : (fld [r0, r1, r2, r3] 1).length = 2 := rfl
    refine ⟨by rw [hln]; decide, fun i hi => ?_, fun i hi => ?_, fun i hi => ?_, fun i hi => ?_⟩
    · rw [hln] at hi
      rcases (by omega : i = 0 ∨ i = 1) with rfl | rfl
      · exact kr1.rok (by omega) (by omega)
      · exact kr3.rok (by omega) (by omega)
    · rw [hln] at hi
      rcases (by omega : i = 0 ∨ i = 1) with rfl | rfl
      · exact kr1.fit
      · exact kr3.fit
    · rw [hln] at hi
      rcases (by omega : i = 0 ∨ i = 1) with rfl | rfl
      · exact p1.fst.ok1
      · exact p1.snd.ok1
    · rw [hln] at hi
      rcases (by omega : i = 0 ∨ i = 1) with rfl | rfl
      · exact p1.fst.ok2
      · exact p1.snd.ok2
  refine ⟨hok, hpk, fun r hm => by rw [(hr r hm).2]; omega, hpp, ht0, ht1, by rw [show fld [r0, r1, r2, r3] 0 = [r0, r2] from rfl]; simp, by rw [show fld [r0, r1, r2, r3] 1 = [r1, r3] from rfl]; simp, ?_, hLn, top_cut hW hLn (.inl rfl) (fun l hm => (hline l hm).1) (fun l hm => (hline l hm).2), fun l hm => by rw [(hline l hm).1]; omega, (.inl rfl), fun out ok hro => ?_, fun out hto => ?_⟩
  · rw [lines_len _ (fun l hm => (hline l hm).1), hLn]; omega
  · rcases hro with ⟨e, _⟩ | ⟨_, _, i, hi, two, hp⟩
    · exact e
    · rw [hm2] at hi
      rcases (by omega : i = 0 ∨ i = 1) with rfl | rfl
      · cases (hg0 two false hp).1
      · cases (hg1 two false hp).1
  · rw [hm2] at hto ⊢
    obtain ⟨T, hT, rfl⟩ := hto
    obtain ⟨_, d0, d2, t0, g0, g2⟩ := hg0 _ _ (hT 0 (by decide))
    obtain ⟨_, d1, d3, t1, g1, g3⟩ := hg1 _ _ (hT 1 (by decide))
    have e : (List.range 2).flatMap T = (T 0 ++ T 1) := by
      rw [show List.range 2 = [0, 1] from rfl]
      simp [List.flatMap_cons]
    rw [e, t0, t1]
    rw [show wv 2 (([d0, d2] ++ [d1, d3])) = [d0, d1, d2, d3] from rfl]
    refine ⟨pok_of (W := W) (.inl rfl) fun r hm => ?_, rfl, fun i hi hi' => ?_⟩
    · simp only [List.mem_cons, List.mem_nil_iff, or_false] at hm
      rcases hm with rfl | rfl | rfl | rfl
      · exact ⟨g0.2.1, g0.2.2.trans lr0⟩
      · exact ⟨g1.2.1, g1.2.2.trans lr1⟩
      · exact ⟨g2.2.1, g2.2.2.trans lr2⟩
      · exact ⟨g3.2.1, g3.2.2.trans lr3⟩
    · have hi : i < 4 := hi
      rcases (by omega : i = 0 ∨ i = 1 ∨ i = 2 ∨ i = 3) with rfl | rfl | rfl | rfl
      · exact g0.1
      · exact g1.1
      · exact g2.1
      · exact g3.1
set_option maxHeartbeats 1000000 in
theorem top8 {h : Chn} {W : Nat} (r0 r1 r2 r3 r4 r5 r6 r7 : List C3) (hok : ChOk h ∧ MagH h) (hW : 1 ≤ W ∧ W ≤ 4) (hr : ∀ r ∈ [r0, r1, r2, r3, r4, r5, r6, r7], LinkR r ∧ r.length = W)
    (p0 : TwoF h r0 r2) (p1 : TwoF h r4 r6) (p2 : TwoF h r1 r3) (p3 : TwoF h r5 r7) (hpp : PairP [r0, r1, r2, r3, r4, r5, r6, r7] [r0, r1, r2, r3, r4, r5, r6, r7].length) : TopF h [r0, r1, r2, r3, r4, r5, r6, r7] W := by
  obtain ⟨kr0, lr0⟩ := hr r0 (by simp)
  obtain ⟨kr1, lr1⟩ := hr r1 (by simp)
  obtain ⟨kr2, lr2⟩ := hr r2 (by simp)
  obtain ⟨kr3, lr3⟩ := hr r3 (by simp)
  obtain ⟨kr4, lr4⟩ := hr r4 (by simp)
  obtain ⟨kr5, lr5⟩ := hr r5 (by simp)
  obtain ⟨kr6, lr6⟩ := hr r6 (by simp)
  obtain ⟨kr7, lr7⟩ := hr r7 (by simp)
  have hm2 : [r0, r1, r2, r3, r4, r5, r6, r7].length / 2 = 4 := by simp
  have hL : studL h [r0, r1, r2, r3, r4, r5, r6, r7] = [lnk h r0 false, lnk h r2 true, lnk h r4 false, lnk h r6 true, lnk h r1 false, lnk h r3 true, lnk h r5 false, lnk h r7 true] := by
    unfold studL sentL
    rw [show fld [r0, r1, r2, r3, r4, r5, r6, r7] 0 = [r0, r2, r4, r6] from rfl, show fld [r0, r1, r2, r3, r4, r5, r6, r7] 1 = [r1, r3, r5, r7] from rfl, show [r0, r2, r4, r6].length = 4 from rfl, show [r1, r3, r5, r7].length = 4 from rfl]
    rfl
  have hLn : (studL h [r0, r1, r2, r3, r4, r5, r6, r7]).length = 8 := by rw [hL]; rfl
  have hg0 : ∀ two ok, PairS ((studL h [r0, r1, r2, r3, r4, r5, r6, r7]).getD (2 * 0) []) ((studL h [r0, r1, r2, r3, r4, r5, r6, r7]).getD (2 * 0 + 1) []) 1040187392 1065353216 two ok → ok = true ∧ ∃ d0 d1, two = [d0, d1] ∧ Got1 r0 d0 ∧ Got1 r2 d1 := by rw [hL]; exact p0.got
  have hg1 : ∀ two ok, PairS ((studL h [r0, r1, r2, r3, r4, r5, r6, r7]).getD (2 * 1) []) ((studL h [r0, r1, r2, r3, r4, r5, r6, r7]).getD (2 * 1 + 1) []) 1040187392 1065353216 two ok → ok = true ∧ ∃ d0 d1, two = [d0, d1] ∧ Got1 r4 d0 ∧ Got1 r6 d1 := by rw [hL]; exact p1.got
  have hg2 : ∀ two ok, PairS ((studL h [r0, r1, r2, r3, r4, r5, r6, r7]).getD (2 * 2) []) ((studL h [r0, r1, r2, r3, r4, r5, r6, r7]).getD (2 * 2 + 1) []) 1040187392 1065353216 two ok → ok = true ∧ ∃ d0 d1, two = [d0, d1] ∧ Got1 r1 d0 ∧ Got1 r3 d1 := by rw [hL]; exact p2.got
  have hg3 : ∀ two ok, PairS ((studL h [r0, r1, r2, r3, r4, r5, r6, r7]).getD (2 * 3) []) ((studL h [r0, r1, r2, r3, r4, r5, r6, r7]).getD (2 * 3 + 1) []) 1040187392 1065353216 two ok → ok = true ∧ ∃ d0 d1, two = [d0, d1] ∧ Got1 r5 d0 ∧ Got1 r7 d1 := by rw [hL]; exact p3.got
  have hline : ∀ l ∈ studL h [r0, r1, r2, r3, r4, r5, r6, r7], l.length = 24 + 4 * W ∧ ∃ e, LowL l 3250585600 (24 + 4 * W) e := by
    intro l hl
    rw [hL] at hl
    simp only [List.mem_cons, List.mem_nil_iff, or_false] at hl
    rcases hl with rfl | rfl | rfl | rfl | rfl | rfl | rfl | rfl
    · rw [← lr0]; exact ⟨p0.fst.len, p0.fst.low⟩
    · rw [← lr2]; exact ⟨p0.snd.len, p0.snd.low⟩
    · rw [← lr4]; exact ⟨p1.fst.len, p1.fst.low⟩
    · rw [← lr6]; exact ⟨p1.snd.len, p1.snd.low⟩
    · rw [← lr1]; exact ⟨p2.fst.len, p2.fst.low⟩
    · rw [← lr3]; exact ⟨p2.snd.len, p2.snd.low⟩
    · rw [← lr5]; exact ⟨p3.fst.len, p3.fst.low⟩
    · rw [← lr7]; exact ⟨p3.snd.len, p3.snd.low⟩
  have hpk : pok [r0, r1, r2, r3, r4, r5, r6, r7] = true := pok_of (W := W) (.inr rfl) fun r hm => ⟨(hr r hm).1.rok (by rw [(hr r hm).2]; omega) (by rw [(hr r hm).2]; omega), (hr r hm).2⟩
  have ht0 : Thru h (fld [r0, r1, r2, r3, r4, r5, r6, r7] 0) := by
    have hln : (fld [r0, r1, r2, r3, r4, r5, r6, r7] 0).length = 4 := rfl
    refine ⟨by rw [hln]; decide, fun i hi => ?_, fun i hi => ?_, fun i hi => ?_, fun i hi => ?_⟩
    · rw [hln] at hi
      rcases (by omega : i = 0 ∨ i = 1 ∨ i = 2 ∨ i = 3) with rfl | rfl | rfl | rfl
      · exact kr0.rok (by omega) (by omega)
      · exact kr2.rok (by omega) (by omega)
      · exact kr4.rok (by omega) (by omega)
      · exact kr6.rok (by omega) (by omega)
    · rw [hln] at hi
      rcases (by omega : i = 0 ∨ i = 1 ∨ i = 2 ∨ i = 3) with rfl | rfl | rfl | rfl
      · exact kr0.fit
      · exact kr2.fit
      · exact kr4.fit
      · exact kr6.fit
    · rw [hln] at hi
      rcases (by omega : i = 0 ∨ i = 1 ∨ i = 2 ∨ i = 3) with rfl | rfl | rfl | rfl
      · exact p0.fst.ok1
      · exact p0.snd.ok1
      · exact p1.fst.ok1
      · exact p1.snd.ok1
    · rw [hln] at hi
      rcases (by omega : i = 0 ∨ i = 1 ∨ i = 2 ∨ i = 3) with rfl | rfl | rfl | rfl
      · exact p0.fst.ok2
      · exact p0.snd.ok2
      · exact p1.fst.ok2
      · exact p1.snd.ok2
  have ht1 : Thru h (fld [r0, r1, r2, r3, r4, r5, r6, r7] 1) := by
    have hln : (fld [r0, r1, r2, r3, r4, r5, r6, r7] 1).length = 4 := rfl
    refine ⟨by rw [hln]; decide, fun i hi => ?_, fun i hi => ?_, fun i hi => ?_, fun i hi => ?_⟩
    · rw [hln] at hi
      rcases (by omega : i = 0 ∨ i = 1 ∨ i = 2 ∨ i = 3) with rfl | rfl | rfl | rfl
      · exact kr1.rok (by omega) (by omega)
      · exact kr3.rok (by omega) (by omega)
      · exact kr5.rok (by omega) (by omega)
      · exact kr7.rok (by omega) (by omega)
    · rw [hln] at hi
      rcases (by omega : i = 0 ∨ i = 1 ∨ i = 2 ∨ i = 3) with rfl | rfl | rfl | rfl
      · exact kr1.fit
      · exact kr3.fit
      · exact kr5.fit
      · exact kr7.fit
    · rw [hln] at hi
      rcases (by omega : i = 0 ∨ i = 1 ∨ i = 2 ∨ i = 3) with rfl | rfl | rfl | rfl
      · exact p2.fst.ok1
      · exact p2.snd.ok1
      · exact p3.fst.ok1
      · exact p3.snd.ok1
    · rw [hln] at hi
      rcases (by omega : i = 0 ∨ i = 1 ∨ i = 2 ∨ i = 3) with rfl | rfl | rfl | rfl
      · exact p2.fst.ok2
      · exact p2.snd.ok2
      · exact p3.fst.ok2
      · exact p3.snd.ok2
  refine ⟨hok, hpk, fun r hm => by rw [(hr r hm).2]; omega, hpp, ht0, ht1, by rw [show fld [r0, r1, r2, r3, r4, r5, r6, r7] 0 = [r0, r2, r4, r6] from rfl]; simp, by rw [show fld [r0, r1, r2, r3, r4, r5, r6, r7] 1 = [r1, r3, r5, r7] from rfl]; simp, ?_, hLn, top_cut hW hLn (.inr rfl) (fun l hm => (hline l hm).1) (fun l hm => (hline l hm).2), fun l hm => by rw [(hline l hm).1]; omega, (.inr rfl), fun out ok hro => ?_, fun out hto => ?_⟩
  · rw [lines_len _ (fun l hm => (hline l hm).1), hLn]; omega
  · rcases hro with ⟨e, _⟩ | ⟨_, _, i, hi, two, hp⟩
    · exact e
    · rw [hm2] at hi
      rcases (by omega : i = 0 ∨ i = 1 ∨ i = 2 ∨ i = 3) with rfl | rfl | rfl | rfl
      · cases (hg0 two false hp).1
      · cases (hg1 two false hp).1
      · cases (hg2 two false hp).1
      · cases (hg3 two false hp).1
  · rw [hm2] at hto ⊢
    obtain ⟨T, hT, rfl⟩ := hto
    obtain ⟨_, d0, d2, t0, g0, g2⟩ := hg0 _ _ (hT 0 (by decide))
    obtain ⟨_, d4, d6, t1, g4, g6⟩ := hg1 _ _ (hT 1 (by decide))
    obtain ⟨_, d1, d3, t2, g1, g3⟩ := hg2 _ _ (hT 2 (by decide))
    obtain ⟨_, d5, d7, t3, g5, g7⟩ := hg3 _ _ (hT 3 (by decide))
    have e : (List.range 4).flatMap T = (((T 0 ++ T 1) ++ T 2) ++ T 3) := by
      rw [show List.range 4 = [0, 1, 2, 3] from rfl]
      simp [List.flatMap_cons]
    rw [e, t0, t1, t2, t3]
    rw [show wv 4 (((([d0, d2] ++ [d4, d6]) ++ [d1, d3]) ++ [d5, d7])) = [d0, d1, d2, d3, d4, d5, d6, d7] from rfl]
    refine ⟨pok_of (W := W) (.inr rfl) fun r hm => ?_, rfl, fun i hi hi' => ?_⟩
    · simp only [List.mem_cons, List.mem_nil_iff, or_false] at hm
      rcases hm with rfl | rfl | rfl | rfl | rfl | rfl | rfl | rfl
      · exact ⟨g0.2.1, g0.2.2.trans lr0⟩
      · exact ⟨g1.2.1, g1.2.2.trans lr1⟩
      · exact ⟨g2.2.1, g2.2.2.trans lr2⟩
      · exact ⟨g3.2.1, g3.2.2.trans lr3⟩
      · exact ⟨g4.2.1, g4.2.2.trans lr4⟩
      · exact ⟨g5.2.1, g5.2.2.trans lr5⟩
      · exact ⟨g6.2.1, g6.2.2.trans lr6⟩
      · exact ⟨g7.2.1, g7.2.2.trans lr7⟩
    · have hi : i < 8 := hi
      rcases (by omega : i = 0 ∨ i = 1 ∨ i = 2 ∨ i = 3 ∨ i = 4 ∨ i = 5 ∨ i = 6 ∨ i = 7) with rfl | rfl | rfl | rfl | rfl | rfl | rfl | rfl
      · exact g0.1
      · exact g1.1
      · exact g2.1
      · exact g3.1
      · exact g4.1
      · exact g5.1
      · exact g6.1
      · exact g7.1
/-- All that is told of a link. -/
theorem link_top {h : Chn} (hl : LinkH h) {rs : List (List C3)} {W : Nat} (hW : 1 ≤ W ∧ W ≤ 4) (hH : rs.length = 4 ∨ rs.length = 8) (hd : DoneL rs W rs.length 0) (hw : ∀ r ∈ rs, r.length = W) : TopF h rs W := by
  obtain ⟨α, ω, ξ, η, hlq⟩ := hl.q
  have hlk : ∀ j (hj : j < rs.length), LinkR rs[j] := fun j hj c hc => by
    obtain ⟨i, hi, rfl⟩ := List.mem_iff_getElem.1 hc
    have := hd.link j i hj (by rw [← hw _ (List.getElem_mem hj)]; exact hi) (.inl hj)
    rwa [at2_of hj hi] at this
  have hrow : ∀ r ∈ rs, LinkR r ∧ r.length = W := fun r hm => by
    obtain ⟨j, hj, rfl⟩ := List.mem_iff_getElem.1 hm
    exact ⟨hlk j hj, hw _ hm⟩
  have hcol : ∀ j (hj : j + 2 < rs.length), j % 4 < 2 → ∀ i (h : i < (rs[j]'(by omega)).length) (h' : i < rs[j + 2].length), (rs[j]'(by omega))[i].2 = rs[j + 2][i].2 := fun j hj h4 i hi hi' => by
    have h1 := hd.pair (j + 2) i hj (by rw [← hw _ (List.getElem_mem hj)]; exact hi') (.inl hj) (by omega)
    rw [show j + 2 - 2 = j by omega, at2_of hj hi', at2_of (show j < rs.length by omega) hi] at h1
    exact h1.symm
  have hpp : PairP rs rs.length := fun r hr h4 hr2 => colEq_of (hlk r (by omega)) (hcol r hr2 h4)
  have htwo : ∀ j (hj : j + 2 < rs.length), j % 4 < 2 → TwoF h (rs[j]'(by omega)) rs[j + 2] := fun j hj h4 => by
    have e1 := hw _ (List.getElem_mem (show j < rs.length by omega))
    have e2 := hw _ (List.getElem_mem hj)
    exact link_two hlq (hlk j (by omega)) (hlk (j + 2) hj) (by rw [e1, e2]) (by omega) (by omega) (hcol j hj h4)
  clear hd hw hlk hcol
  rcases hH with e | e
  · match rs, e, hrow, hpp, htwo with
    | [r0, r1, r2, r3], _, hrow, hpp, htwo => exact top4 r0 r1 r2 r3 hlq.valid hW (fun r hm => hrow r hm) (htwo 0 (by show 2 < 4; decide) (by decide)) (htwo 1 (by show 3 < 4; decide) (by decide)) hpp
  · match rs, e, hrow, hpp, htwo with
    | [r0, r1, r2, r3, r4, r5, r6, r7], _, hrow, hpp, htwo => exact top8 r0 r1 r2 r3 r4 r5 r6 r7 hlq.valid hW (fun r hm => hrow r hm) (htwo 0 (by show 2 < 8; decide) (by decide)) (htwo 4 (by show 6 < 8; decide) (by decide)) (htwo 1 (by show 3 < 8; decide) (by decide)) (htwo 5 (by show 7 < 8; decide) (by decide)) hpp
end Go.Proofs.YtobpnoiienpipaaGreat
