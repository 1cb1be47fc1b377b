/-
  What is proved: the walk of the model's Tune.
  Conditions: the log can be read; its texts and the line have at most 1048576 bytes each.
-/
import Derived.Test.YtobpnoiienpipaaDoorTuneI
import Derived.Test.YtobpnoiienpipaaDoorDoneV
namespace Go.Proofs.YtobpnoiienpipaaDoor
set_option linter.unusedVariables false
open Go.RowKit
attribute [local go_sem] run_store_float run_store_complex unary_negf neg256

theorem OwnS.put1 {W : World} {b base i : Nat} {v : Value} {ls : List (List UInt8)} (h : OwnS W base v ls) (hne : ∀ k, v.ownBlock = some k → k ≠ b) (v0 : Value) : OwnS (W.setCell ⟨b, i, none⟩ v0) base v ls := by
  refine ⟨h.1, h.2.imp id fun ⟨g, cap, cur, h1, h2, h3, h4⟩ => ⟨g, cap, cur, h1, h2, ?_, h4⟩⟩
  subst h1
  have hb : ¬ b = g := fun e => hne g rfl e.symm
  rw [← h3]
  simp [World.setCell, Array.getElem?_modify, hb]
/-- A list of texts lies in no set's block. -/
theorem own_mark {W : World} {b base : Nat} {cs : Array Value} {v : Value} {ls : List (List UInt8)} (hb : W.heap[b]? = some (.cells cs 27 (0, 0))) (h : OwnS W base v ls) : ∀ k, v.ownBlock = some k → k ≠ b := by
  intro k hk e
  subst e
  rcases h.2 with ⟨rfl, _⟩ | ⟨g, cap, cur, rfl, _, hg, _⟩
  · cases hk
  cases hk
  rw [hb] at hg
  injection hg with e
  injection e with _ e2
  exact absurd e2 (by decide)
theorem setB_succ (x : SetC) (n : Nat) : setB x (n + 1) = (setB x n && decide (n < 100)) := by
  have h : decide (n + 1 ≤ 100) = (decide (n ≤ 100) && decide (n < 100)) := by
    by_cases h : n < 100
    · rw [decide_eq_true h, decide_eq_true (show n + 1 ≤ 100 by omega), decide_eq_true (show n ≤ 100 by omega)]; rfl
    · rw [decide_eq_false h, decide_eq_false (show ¬ n + 1 ≤ 100 by omega), Bool.and_false]
  unfold setB
  rw [h]
  simp only [Bool.and_assoc]
theorem join_take (fs : List (List UInt8)) (j : Nat) (h1 : 1 ≤ j) (h : j < fs.length) : ((⟨(Lib.join (fs.take j) [32]).toArray⟩ : ByteArray) ++ ⟨#[32]⟩) ++ ⟨fs[j].toArray⟩ = ⟨(Lib.join (fs.take (j + 1)) [32]).toArray⟩ := by
  have e : Lib.join (fs.take (j + 1)) [32] = Lib.join (fs.take j) [32] ++ [32] ++ fs[j] := by
    rw [List.take_succ_eq_append_getElem h]
    cases hx : fs.take j with
    | nil =>
      have := congrArg List.length hx
      rw [List.length_take, List.length_nil] at this
      omega
    | cons x r =>
      rw [List.cons_append, Lib.join_cons, Lib.join_cons]
      simp [Lib.joinTail]
  rw [e]
  apply ByteArray.ext
  simp [ByteArray.data_append]
theorem tuneF_full {x : SetC} {ls : List (List UInt8)} {line : List UInt8} (h : 100 ≤ ls.length) : tuneF x ls line = none := by
  cases e : tuneF x ls line with
  | none => rfl
  | some y =>
    have h1 := (tuneF_parts (q := (x, ls)) e).2.2.2.1
    have h2 : ls.length + 1 ≤ 100 := setB_le h1
    omega
theorem tuneF_bad {x y : SetC} {ls : List (List UInt8)} {line : List UInt8} (h : doF x (spl line) = some y) (h2 : setB y ls.length = false) : tuneF x ls line = none := by
  unfold tuneF
  split
  · rw [h]
    show (if setB y (ls.length + 1) = true then _ else _) = _
    rw [setB_succ, h2]
    rfl
  · rfl
theorem tuneF_good {x y : SetC} {ls : List (List UInt8)} {line : List UInt8} (h1 : splB line = true) (h2 : setB x ls.length = true) (h : doF x (spl line) = some y) (h3 : setB y ls.length = true) (h4 : ls.length < 100) : tuneF x ls line = some (y, ls ++ [Lib.join (spl line) [32]]) := by
  unfold tuneF
  rw [h1, h2, if_pos (by rfl), h]
  show (if setB y (ls.length + 1) = true then _ else _) = _
  rw [setB_succ, h3, decide_eq_true h4]
  rfl
set_option maxRecDepth 100000 in
set_option maxHeartbeats 4000000 in
theorem specTune_early (x : SetC) (v : Value) (ls : List (List UInt8)) (s : ByteArray) (w : World) (hx : x.ok) (h : TRow w v ls) (hs : Short ls) (hsz : s.size ≤ 1048576)
    (hno : splB s.data.toList = false ∨ spl s.data.toList = [] ∨ setB x ls.length = false ∨ 100 ≤ ls.length) :
    Calls Tryd.prog 26 #[x.val v, .string s] w fun e w' => TunePost (x, ls) s.data.toList w e w' := by
  have HQ := Lib.hid (show tuneF x ls s.data.toList = none by
    rcases hno with h | h | h | h
    · exact tuneF_split h
    · exact tuneF_empty h
    · exact tuneF_set h
    · exact tuneF_full h)
  have HNO := Lib.hid hno
  have hlen : ls.length ≤ 3000000 := hs.1
  have HC := fun W hr => Lib.hid (l08Copy_any x v ls W hr hs.1)
  have HSP := fun W => Lib.hid (specSplitFields_any s W hsz)
  have HOK := fun W hr => Lib.hid (specSetOk_any x v ls W hx hr hs.1)
  have HN := fun w' v h1 h2 h3 => Lib.hid (TunePost.no (x := x) (ls := ls) (line := s.data.toList) (v := v) (w := w) (w' := w') h1 h2 h3)
  have HR := Lib.hid h
  obtain ⟨a, c, rfl⟩ := h.lenv
  obtain ⟨k1, k2, hsz2, hbl⟩ := alloc2 w (.cells (x.cells (.slice a ls.length c)) 27) (.cells #[.int .i64 0, .int .i64 0, .float .f32 0, .float .f32 0, .float .f32 0, .slice none 0 0] 27)
  generalize s.data.toList = line at *
  obtain ⟨xc, xr, xs, xl, xt⟩ := x
  simp only [SetC.val, SetC.cells] at *
  clear h hs hx hno
  obtain ⟨p0, p1, p2, p3, p4, p5⟩ := SetAt.of (x := ⟨xc, xr, xs, xl, xt⟩) (v := .slice a ls.length c) k1
  go_enter Tryd.func26, Tryd.ntmps26
  go_wp2_with fail
  generalize World.alloc (World.alloc w _) _ = X at *
  refine (HSP X).out.mono ?_
  rintro e w1 ⟨u, rfl, ho, hb1⟩
  have g1 := below_trans hbl hb1 hbl.size
  have hz1 := hb1.size
  replace k1 := (hb1.block _ (by omega)).trans k1
  replace k2 := (hb1.block _ (by omega)).trans k2
  have HO := Lib.hid ho
  obtain ⟨au, cu, hu⟩ := ho.row.lenv
  subst hu
  clear ho hb1 HSP
  obtain ⟨p0, p1, p2, p3, p4, p5⟩ := SetAt.of (x := ⟨xc, xr, xs, xl, xt⟩) (v := .slice a ls.length c) k1
  cases hB : splB line with
  | false =>
    generalize (spl line).length = n at *
    go_wp2_with fail
    refine (HC w1 (HR.out.below g1)).out.mono ?_
    rintro e w8 ⟨v8, rfl, ho8, hb8⟩
    obtain ⟨a8, c8, rfl⟩ := ho8.row.lenv
    have g8 := below_trans g1 hb8 g1.size
    have m8 := (hb8.block (w.heap.size + 1) (by omega)).trans k2
    have HOW := Lib.hid ho8
    obtain ⟨r0, r1, r2, r3, r4, r5⟩ := SetAt.of (x := zeroC) (v := .slice none 0 0) m8
    obtain ⟨t0, t1, t2, t3, t4, t5⟩ := froz6 m8
    simp only [zeroC] at r0 r1 r2 r3 r4
    try clear p0 p1 p2 p3 p4 p5
    try clear u0 u1 u2 u3 u4 u5
    clear ho8 hb8 m8
    go_wp2_with fail
    refine bodyPost_ret (v := .tuple #[.agg #[.int .i64 xc, .int .i64 xr, .float .f32 xs, .float .f32 xl, .float .f32 xt, .slice a8 ls.length c8], .bool false]) ?_ rfl (HN _ _ HQ.out ?_ ?_).out
    · simp [results, Tryd.results26, go_sem, r0, r1, r2, r3, r4, r5]
    · refine (OwnS.put6 HOW.out (fun k hk => ?_) _ _ _ _ _ _).low (by omega)
      have := (HOW.out.lt k hk).1
      omega
    · exact below6 g8 (by omega) _ _ _ _ _ _
  | true =>
    by_cases h0 : spl line = []
    · have hn : (spl line).length = 0 := by rw [h0]; rfl
      generalize (spl line).length = n at *
      subst hn
      clear h0
      go_wp2_with fail
      refine (HC w1 (HR.out.below g1)).out.mono ?_
      rintro e w8 ⟨v8, rfl, ho8, hb8⟩
      obtain ⟨a8, c8, rfl⟩ := ho8.row.lenv
      have g8 := below_trans g1 hb8 g1.size
      have m8 := (hb8.block (w.heap.size + 1) (by omega)).trans k2
      have HOW := Lib.hid ho8
      obtain ⟨r0, r1, r2, r3, r4, r5⟩ := SetAt.of (x := zeroC) (v := .slice none 0 0) m8
      obtain ⟨t0, t1, t2, t3, t4, t5⟩ := froz6 m8
      simp only [zeroC] at r0 r1 r2 r3 r4
      try clear p0 p1 p2 p3 p4 p5
      try clear u0 u1 u2 u3 u4 u5
      clear ho8 hb8 m8
      go_wp2_with fail
      refine bodyPost_ret (v := .tuple #[.agg #[.int .i64 xc, .int .i64 xr, .float .f32 xs, .float .f32 xl, .float .f32 xt, .slice a8 ls.length c8], .bool false]) ?_ rfl (HN _ _ HQ.out ?_ ?_).out
      · simp [results, Tryd.results26, go_sem, r0, r1, r2, r3, r4, r5]
      · refine (OwnS.put6 HOW.out (fun k hk => ?_) _ _ _ _ _ _).low (by omega)
        have := (HOW.out.lt k hk).1
        omega
      · exact below6 g8 (by omega) _ _ _ _ _ _
    · have hn : ¬ ((spl line).length : Int) = 0 := by
        have := List.length_pos_iff.2 h0
        omega
      have hbf : setB ⟨xc, xr, xs, xl, xt⟩ ls.length = false ∨ 100 ≤ ls.length := by
        rcases HNO.out with h | h | h | h
        · rw [hB] at h; cases h
        · exact absurd h h0
        · exact .inl h
        · exact .inr h
      have HK := Lib.hid (HOK w1 (HR.out.below g1)).out
      generalize (spl line).length = n at *
      clear h0
      cases hS : setB ⟨xc, xr, xs, xl, xt⟩ ls.length with
      | false =>
        rw [hS] at HK
        clear hbf hS
        go_wp2_with fail
        refine HK.out.mono ?_
        rintro e w2 ⟨rfl, hb2⟩
        have g2 := below_trans g1 hb2 g1.size
        replace k1 := (hb2.block (w.heap.size) (by omega)).trans k1
        replace k2 := (hb2.block (w.heap.size + 1) (by omega)).trans k2
        have hz2 := hb2.size
        clear p0 p1 p2 p3 p4 p5 hb2 HK
        obtain ⟨p0, p1, p2, p3, p4, p5⟩ := SetAt.of (x := ⟨xc, xr, xs, xl, xt⟩) (v := .slice a ls.length c) k1
        go_wp2_with fail
        refine (HC w2 (HR.out.below g2)).out.mono ?_
        rintro e w8 ⟨v8, rfl, ho8, hb8⟩
        obtain ⟨a8, c8, rfl⟩ := ho8.row.lenv
        have g8 := below_trans g2 hb8 g2.size
        have m8 := (hb8.block (w.heap.size + 1) (by omega)).trans k2
        have HOW := Lib.hid ho8
        obtain ⟨r0, r1, r2, r3, r4, r5⟩ := SetAt.of (x := zeroC) (v := .slice none 0 0) m8
        obtain ⟨t0, t1, t2, t3, t4, t5⟩ := froz6 m8
        simp only [zeroC] at r0 r1 r2 r3 r4
        try clear p0 p1 p2 p3 p4 p5
        try clear u0 u1 u2 u3 u4 u5
        clear ho8 hb8 m8
        go_wp2_with fail
        refine bodyPost_ret (v := .tuple #[.agg #[.int .i64 xc, .int .i64 xr, .float .f32 xs, .float .f32 xl, .float .f32 xt, .slice a8 ls.length c8], .bool false]) ?_ rfl (HN _ _ HQ.out ?_ ?_).out
        · simp [results, Tryd.results26, go_sem, r0, r1, r2, r3, r4, r5]
        · refine (OwnS.put6 HOW.out (fun k hk => ?_) _ _ _ _ _ _).low (by omega)
          have := (HOW.out.lt k hk).1
          omega
        · exact below6 g8 (by omega) _ _ _ _ _ _
      | true =>
        have h100 : (100 : Int) ≤ ls.length := by
          rcases hbf with h | h
          · rw [hS] at h; cases h
          · omega
        rw [hS] at HK
        clear hbf hS
        go_wp2_with fail
        refine HK.out.mono ?_
        rintro e w2 ⟨rfl, hb2⟩
        have g2 := below_trans g1 hb2 g1.size
        replace k1 := (hb2.block (w.heap.size) (by omega)).trans k1
        replace k2 := (hb2.block (w.heap.size + 1) (by omega)).trans k2
        have hz2 := hb2.size
        clear p0 p1 p2 p3 p4 p5 hb2 HK
        obtain ⟨p0, p1, p2, p3, p4, p5⟩ := SetAt.of (x := ⟨xc, xr, xs, xl, xt⟩) (v := .slice a ls.length c) k1
        go_wp2_with fail
        refine (HC w2 (HR.out.below g2)).out.mono ?_
        rintro e w8 ⟨v8, rfl, ho8, hb8⟩
        obtain ⟨a8, c8, rfl⟩ := ho8.row.lenv
        have g8 := below_trans g2 hb8 g2.size
        have m8 := (hb8.block (w.heap.size + 1) (by omega)).trans k2
        have HOW := Lib.hid ho8
        obtain ⟨r0, r1, r2, r3, r4, r5⟩ := SetAt.of (x := zeroC) (v := .slice none 0 0) m8
        obtain ⟨t0, t1, t2, t3, t4, t5⟩ := froz6 m8
        simp only [zeroC] at r0 r1 r2 r3 r4
        try clear p0 p1 p2 p3 p4 p5
        try clear u0 u1 u2 u3 u4 u5
        clear ho8 hb8 m8
        go_wp2_with fail
        refine bodyPost_ret (v := .tuple #[.agg #[.int .i64 xc, .int .i64 xr, .float .f32 xs, .float .f32 xl, .float .f32 xt, .slice a8 ls.length c8], .bool false]) ?_ rfl (HN _ _ HQ.out ?_ ?_).out
        · simp [results, Tryd.results26, go_sem, r0, r1, r2, r3, r4, r5]
        · refine (OwnS.put6 HOW.out (fun k hk => ?_) _ _ _ _ _ _).low (by omega)
          have := (HOW.out.lt k hk).1
          omega
        · exact below6 g8 (by omega) _ _ _ _ _ _
set_option maxRecDepth 100000 in
set_option maxHeartbeats 4000000 in
theorem specTune_late (x : SetC) (v : Value) (ls : List (List UInt8)) (s : ByteArray) (w : World) (hx : x.ok) (h : TRow w v ls) (hs : Short ls) (hsz : s.size ≤ 1048576)
    (n : List UInt8) (vs : List (List UInt8)) (hspb : splB s.data.toList = true) (hspl : spl s.data.toList = n :: vs) (hset : setB x ls.length = true) (hlt : ls.length < 100) :
    Calls Tryd.prog 26 #[x.val v, .string s] w fun e w' => TunePost (x, ls) s.data.toList w e w' := by
  have hlen : ls.length ≤ 3000000 := hs.1
  have HX := Lib.hid hx
  have hsm := (spl_small hspb).1
  have h24 := (spl_small hspb).2
  rw [hspl] at hsm h24
  have HSM := Lib.hid hsm
  have HSV := Lib.hid (show Short (n :: vs) from ⟨by omega, fun l hl => by have := hsm l hl; omega⟩)
  have HDO := fun (v : Value) (u : Value) (W : World) (h : TRow W v ls) (h' : TRow W u (n :: vs)) => Lib.hid (done_any x v u ls (n :: vs) W h h' HSV.out)
  have HQ1 := Lib.hid (fun (h : doF x (n :: vs) = none) => show tuneF x ls s.data.toList = none from tuneF_do (by rw [hspl]; exact h))
  have HQ2 := Lib.hid (fun (y : SetC) (h : doF x (n :: vs) = some y) (h2 : setB y ls.length = false) => show tuneF x ls s.data.toList = none from tuneF_bad (by rw [hspl]; exact h) h2)
  have HQ3 := Lib.hid (fun (y : SetC) (h : doF x (n :: vs) = some y) (h2 : setB y ls.length = true) => show tuneF x ls s.data.toList = some (y, ls ++ [Lib.join (n :: vs) [32]]) from by rw [← hspl]; exact tuneF_good hspb hset (by rw [hspl]; exact h) h2 hlt)
  have HYS := fun w' v y out h1 h2 h3 => Lib.hid (TunePost.yes (x := x) (y := y) (ls := ls) (out := out) (line := s.data.toList) (v := v) (w := w) (w' := w') h1 h2 h3)
  have HOKY := fun (y : SetC) (hy : y.ok) (v : Value) W hr => Lib.hid (specSetOk_any y v ls W hy hr hlen)
  have HC := fun W hr => Lib.hid (l08Copy_any x v ls W hr hs.1)
  have HSP := fun W => Lib.hid (specSplitFields_any s W hsz)
  have HOK := fun W hr => Lib.hid (specSetOk_any x v ls W hx hr hs.1)
  have HN := fun w' v h1 h2 h3 => Lib.hid (TunePost.no (x := x) (ls := ls) (line := s.data.toList) (v := v) (w := w) (w' := w') h1 h2 h3)
  have HR := Lib.hid h
  obtain ⟨a, c, rfl⟩ := h.lenv
  obtain ⟨k1, k2, hsz2, hbl⟩ := alloc2 w (.cells (x.cells (.slice a ls.length c)) 27) (.cells #[.int .i64 0, .int .i64 0, .float .f32 0, .float .f32 0, .float .f32 0, .slice none 0 0] 27)
  rw [hset] at HOK
  unfold SplitPost at HSP
  rw [hspb, hspl] at HSP
  have HBD := Lib.hid (fun (y : SetC) (h : doF x (n :: vs) = some y) => doF_ok HX.out h)
  generalize s.data.toList = line at *
  obtain ⟨xc, xr, xs, xl, xt⟩ := x
  simp only [SetC.val, SetC.cells] at *
  clear h hs hx hset hspb hspl hsm
  obtain ⟨p0, p1, p2, p3, p4, p5⟩ := SetAt.of (x := ⟨xc, xr, xs, xl, xt⟩) (v := .slice a ls.length c) k1
  go_enter Tryd.func26, Tryd.ntmps26
  go_wp2_with fail
  generalize World.alloc (World.alloc w _) _ = X at *
  refine (HSP X).out.mono ?_
  rintro e w1 ⟨u, rfl, ho, hb1⟩
  have g1 := below_trans hbl hb1 hbl.size
  have hz1 := hb1.size
  replace k1 := (hb1.block _ (by omega)).trans k1
  replace k2 := (hb1.block _ (by omega)).trans k2
  have HO := Lib.hid ho
  obtain ⟨au, cu, hu⟩ := ho.row.lenv
  subst hu
  clear ho hb1 HSP
  obtain ⟨p0, p1, p2, p3, p4, p5⟩ := SetAt.of (x := ⟨xc, xr, xs, xl, xt⟩) (v := .slice a ls.length c) k1
  generalize hm : (n :: vs).length = m at *
  have HM := Lib.hid hm
  have hnl : ¬ (m : Int) = 0 := by simp at hm; omega
  have hm1 : 0 < m := by simp at hm; omega
  clear hm
  have h100 : ¬ (100 : Int) ≤ ls.length := by omega
  have hm0 : ¬ m = 0 := by omega
  have hbm : ((m : Int) == 0) = false := by simpa using hm0
  have hb100 : decide ((100 : Int) ≤ ls.length) = false := decide_eq_false h100
  go_wp2_with fail
  refine (HOK w1 (HR.out.below g1)).out.mono ?_
  rintro e w2 ⟨rfl, hb2⟩
  have g2 := below_trans g1 hb2 g1.size
  replace k1 := (hb2.block (w.heap.size) (by omega)).trans k1
  replace k2 := (hb2.block (w.heap.size + 1) (by omega)).trans k2
  have hz2 := hb2.size
  replace HO := Lib.hid (HO.out.below hb2)
  clear p0 p1 p2 p3 p4 p5 hb2
  obtain ⟨p0, p1, p2, p3, p4, p5⟩ := SetAt.of (x := ⟨xc, xr, xs, xl, xt⟩) (v := .slice a ls.length c) k1
  go_wp2_with fail
  refine (HC w2 (HR.out.below g2)).out.mono ?_
  rintro e w3 ⟨v3, rfl, ho3, hb3⟩
  obtain ⟨a3, c3, rfl⟩ := ho3.row.lenv
  have g3 := below_trans g2 hb3 g2.size
  replace k1 := (hb3.block (w.heap.size) (by omega)).trans k1
  replace k2 := (hb3.block (w.heap.size + 1) (by omega)).trans k2
  have hz3 := hb3.size
  replace HO := Lib.hid (HO.out.below hb3)
  have HO3 := Lib.hid ho3
  have RG := Lib.hid (show ∀ r, (Value.slice a3 ls.length c3).ownBlock = some r → w2.heap.size ≤ r ∧ r < w3.heap.size from ho3.lt)
  clear p0 p1 p2 p3 p4 p5 hb3 ho3
  go_wp2_with fail
  refine (HDO _ _ w3 HO3.out.row HO.out.row).out.mono ?_
  rintro e w4 ⟨y, b, rfl, hy1, hy2, hb4⟩
  have g4 := below_trans g3 hb4 g3.size
  replace k1 := (hb4.block (w.heap.size) (by omega)).trans k1
  replace k2 := (hb4.block (w.heap.size + 1) (by omega)).trans k2
  have hz4 := hb4.size
  replace HO := Lib.hid (HO.out.below hb4)
  replace HO3 := Lib.hid (HO3.out.below hb4)
  obtain ⟨yc, yr, ys, yl, yt⟩ := y
  simp only [SetC.val] at *
  have HY1 := Lib.hid hy1
  have HY2 := Lib.hid hy2
  clear hb4 hy1 hy2
  have m3 := heap_alloc_new w4 (.cells #[.int .i64 yc, .int .i64 yr, .float .f32 ys, .float .f32 yl, .float .f32 yt, .slice a3 ls.length c3] 27)
  have m1 := (alloc_keeps w4 (.cells #[.int .i64 yc, .int .i64 yr, .float .f32 ys, .float .f32 yl, .float .f32 yt, .slice a3 ls.length c3] 27) (show w.heap.size < w4.heap.size by omega)).trans k1
  have m2 := (alloc_keeps w4 (.cells #[.int .i64 yc, .int .i64 yr, .float .f32 ys, .float .f32 yl, .float .f32 yt, .slice a3 ls.length c3] 27) (show w.heap.size + 1 < w4.heap.size by omega)).trans k2
  have g5 := g4.alloc g4.size (.cells #[.int .i64 yc, .int .i64 yr, .float .f32 ys, .float .f32 yl, .float .f32 yt, .slice a3 ls.length c3] 27)
  have z5 : (w4.alloc (.cells #[.int .i64 yc, .int .i64 yr, .float .f32 ys, .float .f32 yl, .float .f32 yt, .slice a3 ls.length c3] 27)).heap.size = w4.heap.size + 1 := by simp
  replace HO := Lib.hid (HO.out.alloc (.cells #[.int .i64 yc, .int .i64 yr, .float .f32 ys, .float .f32 yl, .float .f32 yt, .slice a3 ls.length c3] 27))
  replace HO3 := Lib.hid (HO3.out.alloc (.cells #[.int .i64 yc, .int .i64 yr, .float .f32 ys, .float .f32 yl, .float .f32 yt, .slice a3 ls.length c3] 27))
  clear k1 k2
  cases b with
  | false =>
    have HQ := Lib.hid (HQ1.out (HY2.out rfl))
    obtain ⟨p0, p1, p2, p3, p4, p5⟩ := SetAt.of (x := ⟨xc, xr, xs, xl, xt⟩) (v := .slice a ls.length c) m1
    clear m3
    go_wp2_with fail
    generalize World.alloc w4 _ = X2 at *
    refine (HC X2 (HR.out.below g5)).out.mono ?_
    rintro e w8 ⟨v8, rfl, ho8, hb8⟩
    obtain ⟨a8, c8, rfl⟩ := ho8.row.lenv
    have g8 := below_trans g5 hb8 g5.size
    have m8 := (hb8.block (w.heap.size + 1) (by omega)).trans m2
    have HOW := Lib.hid ho8
    obtain ⟨r0, r1, r2, r3, r4, r5⟩ := SetAt.of (x := zeroC) (v := .slice none 0 0) m8
    obtain ⟨t0, t1, t2, t3, t4, t5⟩ := froz6 m8
    simp only [zeroC] at r0 r1 r2 r3 r4
    try clear p0 p1 p2 p3 p4 p5
    try clear u0 u1 u2 u3 u4 u5
    clear ho8 hb8 m8
    go_wp2_with fail
    refine bodyPost_ret (v := .tuple #[.agg #[.int .i64 xc, .int .i64 xr, .float .f32 xs, .float .f32 xl, .float .f32 xt, .slice a8 ls.length c8], .bool false]) ?_ rfl (HN _ _ HQ.out ?_ ?_).out
    · simp [results, Tryd.results26, go_sem, r0, r1, r2, r3, r4, r5]
    · refine (OwnS.put6 HOW.out (fun k hk => ?_) _ _ _ _ _ _).low (by omega)
      have := (HOW.out.lt k hk).1
      omega
    · exact below6 g8 (by omega) _ _ _ _ _ _
  | true =>
    have hdo := HY1.out rfl
    have hyok := HBD.out _ hdo
    have hdq2 := HQ2.out _ hdo
    have hdq3 := HQ3.out _ hdo
    have HKY := Lib.hid (fun W hr => (HOKY ⟨yc, yr, ys, yl, yt⟩ hyok (.slice a3 ls.length c3) W hr).out)
    have HJ2 := Lib.hid hdq2
    have HJ3 := Lib.hid hdq3
    clear hdo hyok hdq2 hdq3
    obtain ⟨u0, u1, u2, u3, u4, u5⟩ := SetAt.of (x := ⟨yc, yr, ys, yl, yt⟩) (v := .slice a3 ls.length c3) m3
    cases hS : setB ⟨yc, yr, ys, yl, yt⟩ ls.length with
    | false =>
      have HQ := Lib.hid (HJ2.out hS)
      have HKZ := Lib.hid (fun W hr => (by have := HKY.out W hr; rw [hS] at this; exact this : Calls Tryd.prog 22 #[.agg #[.int .i64 yc, .int .i64 yr, .float .f32 ys, .float .f32 yl, .float .f32 yt, .slice a3 ls.length c3]] W fun e w' => e = .returned (.bool false) ∧ Below W.heap.size W w'))
      clear hS
      go_wp2_with fail
      generalize World.alloc w4 _ = X2 at *
      refine (HKZ.out X2 HO3.out.row).mono ?_
      rintro e w6 ⟨rfl, hb6⟩
      have g6 := below_trans g5 hb6 g5.size
      replace m1 := (hb6.block (w.heap.size) (by omega)).trans m1
      replace m2 := (hb6.block (w.heap.size + 1) (by omega)).trans m2
      have hz6 := hb6.size
      clear u0 u1 u2 u3 u4 u5 hb6
      obtain ⟨p0, p1, p2, p3, p4, p5⟩ := SetAt.of (x := ⟨xc, xr, xs, xl, xt⟩) (v := .slice a ls.length c) m1
      go_wp2_with fail
      refine (HC w6 (HR.out.below g6)).out.mono ?_
      rintro e w8 ⟨v8, rfl, ho8, hb8⟩
      obtain ⟨a8, c8, rfl⟩ := ho8.row.lenv
      have g8 := below_trans g6 hb8 g6.size
      have m8 := (hb8.block (w.heap.size + 1) (by omega)).trans m2
      have HOW := Lib.hid ho8
      obtain ⟨r0, r1, r2, r3, r4, r5⟩ := SetAt.of (x := zeroC) (v := .slice none 0 0) m8
      obtain ⟨t0, t1, t2, t3, t4, t5⟩ := froz6 m8
      simp only [zeroC] at r0 r1 r2 r3 r4
      try clear p0 p1 p2 p3 p4 p5
      try clear u0 u1 u2 u3 u4 u5
      clear ho8 hb8 m8
      go_wp2_with fail
      refine bodyPost_ret (v := .tuple #[.agg #[.int .i64 xc, .int .i64 xr, .float .f32 xs, .float .f32 xl, .float .f32 xt, .slice a8 ls.length c8], .bool false]) ?_ rfl (HN _ _ HQ.out ?_ ?_).out
      · simp [results, Tryd.results26, go_sem, r0, r1, r2, r3, r4, r5]
      · refine (OwnS.put6 HOW.out (fun k hk => ?_) _ _ _ _ _ _).low (by omega)
        have := (HOW.out.lt k hk).1
        omega
      · exact below6 g8 (by omega) _ _ _ _ _ _
    | true =>
      have HQ := Lib.hid (HJ3.out hS)
      have HKZ := Lib.hid (fun W hr => (by have := HKY.out W hr; rw [hS] at this; exact this : Calls Tryd.prog 22 #[.agg #[.int .i64 yc, .int .i64 yr, .float .f32 ys, .float .f32 yl, .float .f32 yt, .slice a3 ls.length c3]] W fun e w' => e = .returned (.bool true) ∧ Below W.heap.size W w'))
      clear hS
      go_wp2_with fail
      generalize World.alloc w4 _ = X2 at *
      refine (HKZ.out X2 HO3.out.row).mono ?_
      rintro e w6 ⟨rfl, hb6⟩
      have g6 := below_trans g5 hb6 g5.size
      replace m2 := (hb6.block (w.heap.size + 1) (by omega)).trans m2
      replace m3 := (hb6.block (w4.heap.size) (by omega)).trans m3
      have hz6 := hb6.size
      replace HO := Lib.hid (HO.out.below hb6)
      replace HO3 := Lib.hid (HO3.out.below hb6)
      clear u0 u1 u2 u3 u4 u5 hb6 m1
      rcases HO.out.shape with ⟨_, e⟩ | ⟨g, cap, hv, _, hgl, hcap, _⟩
      · cases e
      injection hv with hv1 hv2 hv3
      subst hv1 hv3
      have hc0 := (HO.out.cell 0 (by simp)).1
      simp only [List.getElem_cons_zero, strV] at hc0
      rw [HM.out] at hcap
      clear hv2
      have hmi : (m : Int) ≤ 25 := by omega
      have HJL := Lib.hid (fun j (h1 : 1 ≤ j) (hj : j ≤ m) => show (Lib.join ((n :: vs).take j) [32]).length ≤ 20000 from by
        obtain ⟨j, rfl⟩ : ∃ k, j = k + 1 := ⟨j - 1, by omega⟩
        have h2 := join_bound n (vs.take j) (fun g hg => HSM.out g (by
          rcases List.mem_cons.1 hg with rfl | hg
          · simp
          · simp [List.mem_of_mem_take hg]))
        have h3 : (vs.take j).length ≤ 24 := by
          have := HM.out
          rw [List.length_cons] at this
          rw [List.length_take]
          omega
        rw [List.take_succ_cons]
        omega)
      go_wp2
      go_loop [10, 11] (fun t i => ∃ j : Nat, 1 ≤ j ∧ j ≤ m ∧ i = .int .i64 (j : Int) ∧ t = .string ⟨(Lib.join ((n :: vs).take j) [32]).toArray⟩) (fun _ i => m - (intOf i).toNat)
      case atStart => exact ⟨1, Nat.le_refl _, by omega, rfl, by simp [Lib.join_one]⟩
      case round =>
        obtain ⟨j, hj1, hj, rfl, rfl⟩ := hrel
        by_cases hlt : j < m
        · have hlt' : j < (n :: vs).length := by rw [HM.out]; exact hlt
          obtain ⟨c1, _⟩ := HO.out.cell j hlt'
          have l1 := HJL.out j hj1 hj
          have l2 := HSM.out _ (List.getElem_mem hlt')
          have HTJ := Lib.hid (join_take (n :: vs) j hj1 hlt')
          unfold strV at c1
          generalize (n :: vs)[j] = f at *
          have l3 : (Lib.join ((n :: vs).take j) [32]).length + f.length ≤ 400000 := by omega
          clear hc0
          go_wp2
          go_round
          case rel => exact ⟨j + 1, by omega, by omega, by go_num, congrArg Value.string HTJ.out⟩
          case measure => simp [intOf]; omega
        · obtain rfl : j = m := by omega
          have e0 : (n :: vs).take j = n :: vs := by rw [← HM.out, List.take_length]
          rw [e0]
          clear e0 hc0 HJL
          generalize Lib.join (n :: vs) [32] = T at *
          obtain ⟨u0, u1, u2, u3, u4, u5⟩ := SetAt.of (x := ⟨yc, yr, ys, yl, yt⟩) (v := .slice a3 ls.length c3) m3
          go_wp2_with (
            at_builtin
            refine list_str rfl (.tmp 70) (.tmp 72) rfl w2.heap.size _ ls rfl HO3.out _ _ T rfl rfl (by omega) (by omega) ?_
            intro v' w7 ho7 hg7
            obtain ⟨a7, c7, rfl⟩ := ho7.row.lenv
            have hz7 : w6.heap.size + 1 ≤ w7.heap.size := by have := hg7.size; simpa using this
            have m37 := (hg7.block (w4.heap.size) (by simp; omega) (fun e => by have := RG.out _ e.symm; omega)).trans ((alloc_keeps w6 (.cells #[.string ⟨T.toArray⟩] 9) (show w4.heap.size < w6.heap.size by omega)).trans m3)
            have m27 := (hg7.block (w.heap.size + 1) (by simp; omega) (fun e => by have := RG.out _ e.symm; omega)).trans ((alloc_keeps w6 (.cells #[.string ⟨T.toArray⟩] 9) (show w.heap.size + 1 < w6.heap.size by omega)).trans m2)
            have g7 : Below w.heap.size w w7 := (g6.alloc g6.size _).grown hg7 (by have := g6.size; simp; omega) (fun r hr => by have := RG.out r hr; omega)
            have HO7 := Lib.hid ho7
            clear u0 u1 u2 u3 u4 u5
            obtain ⟨u0, u1, u2, u3, u4, u5⟩ := SetAt.of (x := ⟨yc, yr, ys, yl, yt⟩) (v := .slice a3 ls.length c3) m37
            obtain ⟨f0, f1, f2, f3, f4, f5⟩ := froz6 m37
            obtain ⟨r0, r1, r2, r3, r4, r5⟩ := SetAt.of (x := zeroC) (v := .slice none 0 0) m27
            obtain ⟨t0, t1, t2, t3, t4, t5⟩ := froz6 m27
            simp only [zeroC] at r0 r1 r2 r3 r4
            have hne1 : ¬ w4.heap.size = w.heap.size + 1 := by omega
            have hne2 : ¬ w.heap.size + 1 = w4.heap.size := by omega
            clear ho7 hg7)
          refine bodyPost_ret (v := .tuple #[.agg #[.int .i64 yc, .int .i64 yr, .float .f32 ys, .float .f32 yl, .float .f32 yt, .slice a7 (ls ++ [T]).length c7], .bool true]) ?_ rfl (HYS _ _ ⟨yc, yr, ys, yl, yt⟩ (ls ++ [T]) HQ.out ?_ ?_).out
          · simp [results, Tryd.results26, go_sem, r0, r1, r2, r3, r4, r5, hne1, hne2]
          · refine (OwnS.put6 (OwnS.put1 HO7.out (fun k hk => ?_) _) (fun k hk => ?_) _ _ _ _ _ _).low (by omega)
            · have h1 := own_mark m37 HO7.out k hk
              exact h1
            · have h1 := own_mark m27 HO7.out k hk
              exact h1
          · exact below6 (g7.setCell (p := ⟨_, _, none⟩) (by simp; omega) _) (by omega) _ _ _ _ _ _
theorem specTune_any (x : SetC) (v : Value) (ls : List (List UInt8)) (s : ByteArray) (w : World) (hx : x.ok) (h : TRow w v ls) (hs : Short ls) (hsz : s.size ≤ 1048576) :
    Calls Tryd.prog 26 #[x.val v, .string s] w fun e w' => TunePost (x, ls) s.data.toList w e w' := by
  by_cases h1 : splB s.data.toList = false
  · exact specTune_early x v ls s w hx h hs hsz (.inl h1)
  by_cases h2 : setB x ls.length = false
  · exact specTune_early x v ls s w hx h hs hsz (.inr (.inr (.inl h2)))
  by_cases h4 : 100 ≤ ls.length
  · exact specTune_early x v ls s w hx h hs hsz (.inr (.inr (.inr h4)))
  cases h3 : spl s.data.toList with
  | nil => exact specTune_early x v ls s w hx h hs hsz (.inr (.inl h3))
  | cons n vs => exact specTune_late x v ls s w hx h hs hsz n vs (by simpa using h1) h3 (by simpa using h2) (by omega)
end Go.Proofs.YtobpnoiienpipaaDoor
