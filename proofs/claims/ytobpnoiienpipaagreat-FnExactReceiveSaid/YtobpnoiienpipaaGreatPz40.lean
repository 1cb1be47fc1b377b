/-
  What is proved: what Receive answers, of any set and any stream.
  Conditions: the stream can be read.
-/
import Derived.Test.YtobpnoiienpipaaGreatPz38
import Derived.Test.YtobpnoiienpipaaGreatPz39
import Derived.Test.YtobpnoiienpipaaGreatPz32
import Derived.Test.YtobpnoiienpipaaGreatPz28
import Derived.Test.YtobpnoiienpipaaGreatPz26
namespace Go.Proofs.YtobpnoiienpipaaGreat
set_option linter.unusedVariables false
open Go.RowKit Go.Shelf
attribute [local go_sem] run_store_float run_store_complex unary_negf neg256

/-- The lines that are cut are no longer than what is cut. -/
theorem setLines_le (x : SetC) (xs : List Nat) : ∀ l ∈ setLines x xs, l.length ≤ xs.length := by
  intro l hl
  unfold setLines cuts at hl
  split at hl
  · unfold cutsK at hl
    obtain ⟨p, _, rfl⟩ := List.mem_map.1 hl
    unfold part
    rw [List.length_take, List.length_drop]
    omega
  · cases hl
/-- What is received. -/
def RecR (x : SetC) (n : Nat) (xs : List Nat) (rows : List (List C3)) (ok : Bool) : Prop :=
  ((setB x n && decide (((setLines x xs).length : Int) = x.r)) = false ∧ ok = false ∧ rows = []) ∨
  ((setB x n && decide (((setLines x xs).length : Int) = x.r)) = true ∧ ∃ out o, RowsR (setLines x xs) x.l x.t ((setLines x xs).length / 2) out o ∧
    ((o = false ∧ ok = false ∧ rows = []) ∨ (o = true ∧ ok = pok (wv ((setLines x xs).length / 2) out) ∧ rows = if pok (wv ((setLines x xs).length / 2) out) = true then wv ((setLines x xs).length / 2) out else [])))
theorem RecR.same {x : SetC} {n : Nat} {xs : List Nat} {rows rows' : List (List C3)} {ok ok' : Bool} (h : RecR x n xs rows ok) (h' : RecR x n xs rows' ok') : ok = ok' ∧ rows = rows' := by
  rcases h with ⟨h1, rfl, rfl⟩ | ⟨h1, out, o, hr, h⟩ <;> rcases h' with ⟨k1, rfl, rfl⟩ | ⟨k1, out', o', kr, k⟩
  · exact ⟨rfl, rfl⟩
  · rw [h1] at k1; cases k1
  · rw [h1] at k1; cases k1
  · obtain ⟨rfl, rfl⟩ := hr.same kr
    rcases h with ⟨rfl, rfl, rfl⟩ | ⟨rfl, rfl, rfl⟩ <;> rcases k with ⟨e, rfl, rfl⟩ | ⟨e, rfl, rfl⟩
    · exact ⟨rfl, rfl⟩
    · cases e
    · cases e
    · exact ⟨rfl, rfl⟩
def RecA (x : SetC) (n : Nat) (xs : List Nat) (w : World) (e : Ending) (w' : World) : Prop := ∃ v rows ss ok, e = .returned (.tuple #[v, .bool ok]) ∧ RecR x n xs rows ok ∧ GridN w' w.heap.size v rows ss ∧ Below w.heap.size w w'
theorem RecA.no {x : SetC} {n : Nat} {xs : List Nat} {w w' : World} (h : RecR x n xs [] false) (hb : Below w.heap.size w w') : RecA x n xs w (.returned (.tuple #[.slice none 0 0, .bool false])) w' := ⟨_, [], [], false, rfl, h, GridN.nil0 _ _, hb⟩
theorem RecA.yes {x : SetC} {n : Nat} {xs : List Nat} {w w2 w' : World} {v : Value} {rows : List (List C3)} {ss : List SV} {ok : Bool} (h : RecR x n xs rows ok) (hg : GridN w' w2.heap.size v rows ss) (h2 : w.heap.size ≤ w2.heap.size) (hb : Below w.heap.size w w') : RecA x n xs w (.returned (.tuple #[v, .bool ok])) w' := ⟨v, rows, ss, ok, rfl, h, hg.mono h2, hb⟩
set_option maxRecDepth 100000 in
set_option maxHeartbeats 2000000 in
theorem receive_any (x : SetC) (vl v : Value) (log : List (List UInt8)) (xs : List Nat) (w : World) (hx : x.ok) (hlog : TRow w vl log) (hll : log.length ≤ 3000000) (h : FRow w v xs) (hl : xs.length ≤ 3000000) :
    Calls Tryz.prog 10 #[x.val vl, v] w fun e w' => RecA x log.length xs w e w' := by
  have HOK := fun W hr => Lib.hid (setOk_any x vl log W hx hr hll)
  obtain ⟨av, cv, rfl⟩ := h.lenv
  have HR := Lib.hid h
  have HLG := Lib.hid hlog
  have K := heap_alloc_new w (.cells (x.cells vl) 37)
  have hb0 := (Below.refl w.heap.size w).alloc (Nat.le_refl _) (.cells (x.cells vl) 37)
  have hz0 : (w.alloc (.cells (x.cells vl) 37)).heap.size = w.heap.size + 1 := by simp
  cases hset : setB x log.length with
  | false =>
    rw [hset] at HOK
    have HNO := Lib.hid (show RecR x log.length xs [] false from .inl ⟨by rw [hset]; rfl, rfl, rfl⟩)
    obtain ⟨p0, p1, p2, p3, p4, p5⟩ := SetAt.of (x := x) (v := vl) K
    obtain ⟨xc, xr, xsl, xl, xt⟩ := x
    simp only [SetC.val, SetC.cells] at *
    clear h hlog hset hx
    go_enter Tryz.func10, Tryz.ntmps10
    go_wp2_with fail
    generalize World.alloc w _ = w1 at *
    refine (HOK w1 (HLG.out.below hb0)).out.mono ?_
    rintro e w2 ⟨rfl, hb2⟩
    go_wp2
    go_ret2
    exact RecA.no HNO.out (below_trans hb0 hb2 hb0.size)
  | true =>
    have hcc : 1 ≤ x.c ∧ x.c ≤ 64 ∧ rowCnt x.r = true := by
      have h1 := hset
      unfold setB at h1
      simp only [Bool.and_eq_true, decide_eq_true_eq] at h1
      exact ⟨h1.1, h1.2.1, h1.2.2.1⟩
    have HCU := fun W hr => Lib.hid (cutLines_any x vl (.slice av xs.length cv) xs W ⟨hcc.1, hcc.2.1⟩ hr hl)
    rw [hset] at HOK
    have hLB := setLines_le x xs
    have HPRE := Lib.hid (show setB x log.length = true from hset)
    by_cases hn : ((setLines x xs).length : Int) = x.r
    · obtain ⟨m, hm⟩ : ∃ m, (setLines x xs).length = 2 * m := by
        have h1 := hcc.2.2
        unfold rowCnt at h1
        simp only [Bool.and_eq_true, decide_eq_true_eq] at h1
        exact ⟨(setLines x xs).length / 2, by omega⟩
      have hm1 : 1 ≤ m ∧ m ≤ 32 := by
        have h1 := hcc.2.2
        unfold rowCnt at h1
        simp only [Bool.and_eq_true, decide_eq_true_eq] at h1
        omega
      have hm2 : (setLines x xs).length / 2 = m := by omega
      have HTR := fun (orig : List (Value × List Nat)) base g cap W h1 h2 h3 h4 h5 h6 => Lib.hid (callsIn_wide.1 (takenRows_in x vl (setLines x xs) orig base m g cap W h1 h2 h3 h4 h5 h6 hm1.1 hm1.2))
      have HYES := Lib.hid (show ∀ out, RowsR (setLines x xs) x.l x.t m out true → RecR x log.length xs (if pok (wv m out) = true then wv m out else []) (pok (wv m out)) from fun out h => .inr ⟨by rw [hset, decide_eq_true hn]; rfl, out, true, by rw [hm2]; exact h, .inr ⟨rfl, by rw [hm2], by rw [hm2]⟩⟩)
      have HNOT := Lib.hid (show ∀ out, RowsR (setLines x xs) x.l x.t m out false → RecR x log.length xs [] false from fun out h => .inr ⟨by rw [hset, decide_eq_true hn]; rfl, out, false, by rw [hm2]; exact h, .inl ⟨rfl, rfl, rfl⟩⟩)
      have HWD := Lib.hid (show ∀ l ∈ setLines x xs, l.length ≤ 3000000 from fun l hm => Nat.le_trans (hLB l hm) hl)
      obtain ⟨N, hN⟩ : ∃ N, N = 2 * m := ⟨_, rfl⟩
      have HN := Lib.hid hN
      have hmN0 := hm1.1
      have hmN1 := hm1.2
      rw [← hN] at hm HTR
      have HLN := Lib.hid hm
      rw [hm] at hn
      obtain ⟨n0, hn0⟩ : ∃ n0, log.length = n0 := ⟨_, rfl⟩
      rw [hn0] at HYES HNOT ⊢
      obtain ⟨xc, xr, xsl, xl, xt⟩ := x
      simp only at hn
      subst hn
      obtain ⟨p0, p1, p2, p3, p4, p5⟩ := SetAt.of (x := ⟨xc, (N : Int), xsl, xl, xt⟩) (v := vl) K
      simp only [SetC.val, SetC.cells] at *
      generalize hL : setLines ⟨xc, (N : Int), xsl, xl, xt⟩ xs = L at *
      clear hL h hlog hset hx hcc hLB hm hm1 hm2 hn0 HPRE hN
      go_enter Tryz.func10, Tryz.ntmps10
      go_wp2_with fail
      generalize World.alloc w _ = w1 at *
      refine (HOK w1 (HLG.out.below hb0)).out.mono ?_
      rintro e w2 ⟨rfl, hb2⟩
      have hb02 := below_trans hb0 hb2 hb0.size
      replace K := (hb2.block w.heap.size (by omega)).trans K
      have hz2 := hb2.size
      clear p0 p1 p2 p3 p4 p5 hb2 hb0 HLG HOK
      obtain ⟨p0, p1, p2, p3, p4, p5⟩ := SetAt.of (x := ⟨xc, (N : Int), xsl, xl, xt⟩) (v := vl) K
      go_wp2_with fail
      refine (HCU w2 (HR.out.below hb02)).out.mono ?_
      rintro e w3 ⟨v3, s3, rfl, hg3, hb3⟩
      have hb03 := below_trans hb02 hb3 hb02.size
      replace K := (hb3.block w.heap.size (by omega)).trans K
      have hz3 := hb3.size
      clear p0 p1 p2 p3 p4 p5 hb02 HCU HR
      obtain ⟨p0, p1, p2, p3, p4, p5⟩ := SetAt.of (x := ⟨xc, (N : Int), xsl, xl, xt⟩) (v := vl) K
      have hs3 : s3.length = N := by rw [hg3.lines.len]; exact HLN.out
      have hNm := HN.out
      obtain ⟨gl, cl, curl, rfl, hgl1, hgl2, hgl3, hgl4⟩ : ∃ gl cl, ∃ cur : Array Value, v3 = .slice (some ⟨gl, 0, none⟩) N cl ∧ w2.heap.size ≤ gl ∧ N ≤ cl ∧ w3.heap[gl]? = some (.cells cur 31 (0, 0)) ∧ ∀ i (h : i < s3.length), cur[i]? = some s3[i].v := by
        rcases hg3.own.2 with ⟨_, e⟩ | ⟨g, cap, cur, rfl, hbb, hgg, hn, _⟩
        · omega
        · refine ⟨g, cap, cur, by rw [hs3], hbb, by omega, hgg, fun i hi => ?_⟩
          obtain ⟨a, c, e, hcell⟩ := Lay.Row.any LSf_ok hg3.own.row
          obtain ⟨g', o', e1, _, h2⟩ := hcell i hi
          cases e
          cases e1
          have h3 := h2 0 s3[i].v rfl
          simp only [World.cell?, hgg] at h3
          simpa [LSf] using h3
      have horig : (List.zipWith (fun (s : SV) (l : List Nat) => ((s.v, l) : Value × List Nat)) s3 L).length = N := by rw [List.length_zipWith, hs3, HLN.out]; exact Nat.min_self N
      have hcurL : CurL w3 w2.heap.size gl (List.zipWith (fun (s : SV) (l : List Nat) => ((s.v, l) : Value × List Nat)) s3 L) := by
        have hll := hg3.lines.len
        refine ⟨⟨curl, hgl3, ?_, fun i hi => ?_⟩, fun i hi => ?_, fun i hi k hk => ?_⟩
        · rw [horig]
          have := hgl4 (N - 1) (by omega)
          have := (Array.getElem?_eq_some_iff.1 this).1
          omega
        · rw [List.getElem_zipWith]; exact hgl4 i (by omega)
        · rw [List.getElem_zipWith]; exact ⟨hg3.lines.row i (by omega) (by omega), HWD.out _ (List.getElem_mem _)⟩
        · rw [List.getElem_zipWith] at hk
          intro e
          exact hg3.lines.out i (by omega) k hk (by rw [e]; rfl)
      have HTK := Lib.hid (HTR _ w2.heap.size gl cl w3 hcurL horig (fun i hi => by
        rw [List.getElem_zipWith, getD_in (show i < L.length by rw [HLN.out]; omega)]) hz3 hgl1 (by omega)).out
      have hb23 := hb3
      clear hcurL horig hgl3 hgl4 hg3 hs3 HTR hb3 hNm
      go_wp2_with fail
      refine HTK.out.mono ?_
      rintro e w4 ⟨v4, out, s4, ok, rfl, hrr, hg4, hb4⟩
      have HB04 := Lib.hid (hb03.trans (hb4.mono (show w.heap.size ≤ w2.heap.size by omega)))
      cases ok with
      | false =>
        have HR0 := Lib.hid (HNOT.out out hrr)
        obtain ⟨a4, n4, c4, rfl⟩ : ∃ a n c, v4 = .slice a n c := by
          obtain ⟨a, c, e, _⟩ := hg4.rows.any
          exact ⟨a, _, c, e⟩
        clear hrr hg4 hb4 hb03 hb23 HTK HYES HNOT HLN HWD K p0 p1 p2 p3 p4 p5 HN hz2 hz3 hz0
        go_wp2
        go_ret2
        exact RecA.no HR0.out HB04.out
      | true =>
        have HRY := Lib.hid (HYES.out out hrr)
        have hNm := HN.out
        have htk : TakenK L xl xt m out := by
          rcases hrr with ⟨_, h⟩ | ⟨e, _⟩
          · exact h
          · cases e
        have hol := htk.len
        have hs4 : s4.length = N := by rw [hg4.len, hol, hNm]
        have HTHIN := Lib.hid (show Thin (wv m out) from fun r hr => Nat.le_trans (htk.row r (wv_mem hol r hr)).1 (by decide))
        obtain ⟨g4, c4, rfl, hc4⟩ : ∃ g4 c4, v4 = .slice (some ⟨g4, 0, none⟩) N c4 ∧ N ≤ c4 := by
          rcases hg4.own.shape with ⟨_, e⟩ | ⟨g, cap, rfl, _, _, hc, _⟩
          · rw [e] at hs4; simp at hs4; omega
          · exact ⟨g, cap, by rw [hs4], by omega⟩
        have hrv := hg4.rows
        have hdiv : ((N : Int) / 2) = (m : Int) := by omega
        have hNm2 : N - m = m := by omega
        have hmN : (m : Int) ≤ (N : Int) := by omega
        have hmc : (m : Int) ≤ (c4 : Int) := by omega
        have hNc : (N : Int) ≤ (c4 : Int) := by omega
        have hm0 : (0 : Int) ≤ (m : Int) := by omega
        have hcm : ¬ c4 = m := by omega
        have hcm2 : ¬ c4 - m = 0 := by omega
        have HWV := Lib.hid (weaveN_any g4 0 c4 g4 m (c4 - m) m (by omega) (wv m out) (wv_len m out) HTHIN.out w4.drew (fun k hk hq => by
            rw [wv_even hq, Nat.zero_add]
            exact (hrv.below (Below.refl _ _).drew).cells (by omega))
          (fun k hk hq => by
            rw [wv_odd hq]
            exact (hrv.below (Below.refl _ _).drew).cells (by omega)))
        generalize hpk : pok (wv m out) = pk at *
        clear hrv hol hs4 htk hrr hg4 hb4 hb03 hb23 HTK HTHIN HYES HNOT HLN HWD hNm K p0 p1 p2 p3 p4 p5 HN hz2 hz3 hz0
        go_wp2
        go_region_held3 (fun V => True) (trivial) (first
          | ((try go_simp); go_at_call 34; (try simp only [hNm2, Nat.zero_add]); refine HWV.out.mono ?_; rintro e w5 ⟨v5, s5, rfl, hp5, hb5⟩))
        go_wp2
        go_ret2
        rw [hpk] at hp5
        exact RecA.yes HRY.out hp5 HB04.out.drew.size (below_trans HB04.out.drew hb5 HB04.out.size)
    · have HNO := Lib.hid (show RecR x log.length xs [] false from .inl ⟨by rw [decide_eq_false hn, Bool.and_false], rfl, rfl⟩)
      have HLL := Lib.hid (show (setLines x xs).length ≤ xs.length + 2 from by
        unfold setLines
        refine Nat.le_trans ?_ (starts_bound xs x.s (24 + 4 * x.c) 3).2
        unfold cuts
        split
        · unfold cutsK
          rw [List.length_map]
          exact List.length_filter_le _ _
        · exact Nat.zero_le _)
      obtain ⟨xc, xr, xsl, xl, xt⟩ := x
      simp only at hn
      obtain ⟨p0, p1, p2, p3, p4, p5⟩ := SetAt.of (x := ⟨xc, xr, xsl, xl, xt⟩) (v := vl) K
      simp only [SetC.val, SetC.cells] at *
      obtain ⟨N, hN⟩ : ∃ N, (setLines ⟨xc, xr, xsl, xl, xt⟩ xs).length = N := ⟨_, rfl⟩
      rw [hN] at hn HLL
      have HLN := Lib.hid hN
      have hnn : ¬ xr = (N : Int) := fun e => hn e.symm
      clear h hlog hset hx hcc hLB HPRE hN
      go_enter Tryz.func10, Tryz.ntmps10
      go_wp2_with fail
      generalize World.alloc w _ = w1 at *
      refine (HOK w1 (HLG.out.below hb0)).out.mono ?_
      rintro e w2 ⟨rfl, hb2⟩
      have hb02 := below_trans hb0 hb2 hb0.size
      replace K := (hb2.block w.heap.size (by omega)).trans K
      have hz2 := hb2.size
      clear p0 p1 p2 p3 p4 p5 hb2 hb0 HLG HOK
      obtain ⟨p0, p1, p2, p3, p4, p5⟩ := SetAt.of (x := ⟨xc, xr, xsl, xl, xt⟩) (v := vl) K
      go_wp2_with fail
      refine (HCU w2 (HR.out.below hb02)).out.mono ?_
      rintro e w3 ⟨v3, s3, rfl, hg3, hb3⟩
      have hb03 := below_trans hb02 hb3 hb02.size
      replace K := (hb3.block w.heap.size (by omega)).trans K
      clear p0 p1 p2 p3 p4 p5 hb02 HCU HR
      obtain ⟨p0, p1, p2, p3, p4, p5⟩ := SetAt.of (x := ⟨xc, xr, xsl, xl, xt⟩) (v := vl) K
      have hs3 : s3.length = N := by rw [hg3.lines.len]; exact HLN.out
      obtain ⟨al, cl, rfl⟩ : ∃ al cl, v3 = .slice al N cl := by
        obtain ⟨a, c, e, _⟩ := Lay.Row.any LSf_ok hg3.own.row
        exact ⟨a, c, by rw [e, hs3]⟩
      clear hs3 hg3 hb3 HLN
      go_wp2
      go_ret2
      exact RecA.no HNO.out hb03
end Go.Proofs.YtobpnoiienpipaaGreat

/-
  What is proved: the walks of NewSet, the program's and the model's.
  Conditions: the numbers are 64-bit ones.
-/
namespace Go.Proofs.YtobpnoiienpipaaGreat
set_option linter.unusedVariables false
open Go.RowKit
attribute [local go_sem] run_store_float run_store_complex unary_negf neg256 neg1024

theorem alloc2 (w : World) (o1 o2 : Obj) : ((w.alloc o1).alloc o2).heap[w.heap.size]? = some o1 ∧ ((w.alloc o1).alloc o2).heap[w.heap.size + 1]? = some o2 ∧
    ((w.alloc o1).alloc o2).heap.size = w.heap.size + 2 ∧ Below w.heap.size w ((w.alloc o1).alloc o2) := by
  have h1 : (w.alloc o1).heap.size = w.heap.size + 1 := by simp
  refine ⟨?_, ?_, by simp, ?_⟩
  · rw [alloc_keeps _ _ (by omega)]
    exact heap_alloc_new _ _
  · rw [← h1]
    exact heap_alloc_new _ _
  · exact ((Below.refl _ _).alloc (Nat.le_refl _) _).alloc (by omega) _
end Go.Proofs.YtobpnoiienpipaaGreat

/-
  What is proved: what the model answers of rows whose colours are taken away.
  Conditions: the rows can be read, and have cells.
-/
namespace Go.Proofs.YtobpnoiienpipaaGreat
set_option linter.unusedVariables false
open Go.RowKit
attribute [local go_sem] run_store_float run_store_complex unary_negf neg256

theorem l02Row_any (v : Value) (cs : List C3) (w : World) (h : RowV w v cs) (h0 : cs ≠ []) (hl : cs.length ≤ 100000) :
    Calls Tryz.prog 79 #[v] w fun e w' => ∃ g cap, e = .returned (.slice (some ⟨g, 0, none⟩) cs.length cap) ∧ OwnC w' w.heap.size (.slice (some ⟨g, 0, none⟩) cs.length cap) cs ∧ Below w.heap.size w w' := by
  obtain ⟨g, o, cap, rfl, hcap, hcell⟩ := h.resolve_left (fun e => h0 e.2)
  have hb := (Below.refl w.heap.size w).alloc (Nat.le_refl _) (.cells #[] 61)
  have HV := Lib.hid (show RowV (w.alloc (.cells #[] 61)) (.slice (some ⟨g, o, none⟩) cs.length cap) cs from h.below hb)
  have HO := Lib.hid (OwnC.made0 w)
  have hpos : 0 < cs.length := List.length_pos_iff.2 h0
  clear h hcell h0
  go_enter Tryz.func79, Tryz.ntmps79
  go_wp2_with (at_builtin; refine own_append rfl (.tmp 3) (.tmp 4) rfl w.heap.size _ [] cs rfl HO.out g o cap rfl HV.out hpos (by simp; omega) (by simp) ?_; intro g6 cap6 w6 ho6 hg6 hor6 hlt6)
  have HF := Lib.hid (show OwnC w6 w.heap.size (.slice (some ⟨g6, 0, none⟩) cs.length cap6) cs by simpa using ho6)
  have hb6 := hb.grown hg6 hb.size (fun k e => by have := Option.some.inj e; simp at this; omega)
  clear ho6 hg6 hor6 hlt6
  go_wp2
  go_ret
  exact ⟨g6, cap6, by simp, HF.out, hb6⟩
theorem gc_take {cs : List C3} {k : Nat} (h : k < cs.length) (hl : k < ((cs.map gc).take k ++ cs.drop k).length) : ((cs.map gc).take k ++ cs.drop k).set k (((cs.map gc).take k ++ cs.drop k)[k].1, 0, 0) = (cs.map gc).take (k + 1) ++ cs.drop (k + 1) := by
  have hm : (cs.map gc).length = cs.length := List.length_map _
  rw [take_drop_at hm h hl]
  exact set_take_drop (by omega) h (by rw [List.getElem_map]; rfl)
set_option maxRecDepth 100000 in
set_option maxHeartbeats 4000000 in
theorem specGreyed_rows (v : Value) (rows : List (List C3)) (ss : List SV) (w : World) (h : RowsV w v rows ss) (hl : rows.length ≤ 1000000) (hr : ∀ r ∈ rows, r.length ≤ 100000) (hne : ∀ r ∈ rows, r ≠ []) :
    Calls Tryz.prog 75 #[v] w fun e w' => ∃ v' so, e = .returned v' ∧ GridN w' w.heap.size v' (greyL rows) so ∧ Below w.heap.size w w' := by
  obtain ⟨a, c, rfl, hcell⟩ := h.any
  have hl1 := h.len
  have HC := Lib.hid hcell
  have HE := Lib.hid h.each
  have HRL := Lib.hid hr
  have HNE := Lib.hid hne
  have HL1 := Lib.hid hl1
  have hls : ss.length ≤ 1000000 := by omega
  have HG0 := Lib.hid (GridC.nil w).new
  have HB0 := Lib.hid ((Below.refl w.heap.size w).alloc (Nat.le_refl _) (.cells #[] 40))
  clear h hcell hr hl1 hne
  go_enter Tryz.func75, Tryz.ntmps75
  go_wp2
  go_loopw [3, 4] (fun m i wr => ∃ (j : Nat) (so : List SV), j ≤ ss.length ∧ i = .int .i64 (j : Int) ∧ GridN wr w.heap.size m (greyL (rows.take j)) so ∧ Below w.heap.size w wr) (fun _ i _ => ss.length - (intOf i).toNat)
  case atStart => exact ⟨0, [], Nat.zero_le _, rfl, HG0.out, HB0.out⟩
  case round =>
    obtain ⟨j, so, hj, rfl, hgr, hb⟩ := hrel
    have HGR := Lib.hid hgr
    have hsol : so.length ≤ j := by have := hgr.len; unfold greyL at this; simp at this; omega
    clear HG0 HB0 hgr
    by_cases hlt : j < ss.length
    · obtain ⟨g1, o1, rfl, hcap1, hc1⟩ := HC.out j hlt
      have hltr : j < rows.length := by have := HL1.out; omega
      have hc1' := (grown_of hb).cell hc1 (by simp)
      have HSR := Lib.hid (l02Row_any ss[j].v rows[j] wr ((HE.out j hlt hltr).below hb) (HNE.out _ (List.getElem_mem hltr)) (HRL.out _ (List.getElem_mem hltr)))
      have hcl : rows[j].length ≤ 100000 := HRL.out _ (List.getElem_mem hltr)
      have HTK := Lib.hid (show greyL (rows.take (j + 1)) = greyL (rows.take j) ++ [rows[j].map gc] by unfold greyL; rw [List.take_succ_eq_append_getElem hltr, List.map_append]; rfl)
      clear hc1
      generalize ss[j].v = x at *
      generalize rows[j] = cs at *
      go_wp2_with fail
      refine HSR.out.mono ?_
      rintro e w5 ⟨g5, cap5, rfl, ho5, hb5⟩
      have hsz : w.heap.size ≤ wr.heap.size := hb.size
      have hn5 := ho5.rnew
      have hlt5 := hn5.lt g5 rfl
      have HN5 := Lib.hid hn5
      have HB5 := Lib.hid hb5
      clear ho5 hn5 hb5 HSR hc1'
      obtain ⟨wo, hwo⟩ : ∃ wo, wr = wo := ⟨_, rfl⟩
      rw [hwo] at hb HGR HN5 HB5 hsz hlt5
      clear hwo wr
      go_wp2
      go_loopw [6] (fun i wi => ∃ k : Nat, k ≤ cs.length ∧ i = .int .i64 (k : Int) ∧ RNew wi wo.heap.size (.slice (some ⟨g5, 0, none⟩) cs.length cap5) ((cs.map gc).take k ++ cs.drop k) ∧ w5.grownBy wi (some g5)) (fun i _ => cs.length - (intOf i).toNat)
      case atStart => exact ⟨0, Nat.zero_le _, rfl, by simpa using HN5.out, World.grownBy.refl _ _⟩
      case round =>
        obtain ⟨k, hk, rfl, hn, hgw⟩ := hrel
        have HN := Lib.hid hn
        clear hn
        by_cases hltk : k < cs.length
        · have hkl : k < ((cs.map gc).take k ++ cs.drop k).length := by rw [take_drop_len (by simp) (by omega)]; exact hltk
          obtain ⟨x0, x1, x3, x2⟩ := HN.out.rd hkl
          clear x0 x3
          generalize ((cs.map gc).take k ++ cs.drop k)[k] = cc at x1
          have HP := Lib.hid (show RNew (wr.setCell ⟨g5, k * 2 + 1, none⟩ (.complex .f32 0 0)) wo.heap.size (.slice (some ⟨g5, 0, none⟩) cs.length cap5) ((cs.map gc).take (k + 1) ++ cs.drop (k + 1)) from by
            have := HN.out.putC hkl 0 0
            rwa [gc_take hltk hkl] at this)
          have hcc : cs.length ≤ cap5 := by
            obtain ⟨g7, cap7, e7, h7, _⟩ := HN5.out.some5 (by intro e; subst e; simp at hltk)
            cases e7
            exact h7
          have HGW := Lib.hid (hgw.trans (Lib.grownBy_setCell wr g5 (k * 2 + 1) (.complex .f32 0 0)))
          clear hkl
          go_wp2
          go_roundw
          case rel => exact ⟨k + 1, by omega, by go_num, HP.out, HGW.out⟩
          case measure => simp [intOf]; omega
        · have hkk : k = cs.length := by omega
          have HNF := Lib.hid (show RNew wr wo.heap.size (.slice (some ⟨g5, 0, none⟩) cs.length cap5) (cs.map gc) from by
            have := HN.out
            rwa [hkk, List.take_of_length_le (by simp), List.drop_length, List.append_nil] at this)
          have hb5w : Below wo.heap.size wo wr := HB5.out.grown hgw HB5.out.size (fun k e => by have := Option.some.inj e; omega)
          have HB5W := Lib.hid hb5w
          have h5s := hb5w.size
          have HOW5 := Lib.hid ((HGR.out.own.kept (grown_of hb5w) (by cases u3.ownBlock <;> simp)).alloc (.cells #[.slice (some ⟨g5, 0, none⟩) cs.length cap5] 40))
          have HST := Lib.hid (fun (w6 : World) (g6 cap6 : Nat) ho hg hor => HGR.out.step (w6 := w6) (g6 := g6) (n6 := so.length + 1) (cap6 := cap6) (s := (some ⟨g5, 0, none⟩, cs.length, cap5)) (ys := cs.map gc) hsz HB5W.out HNF.out (.cells #[.slice (some ⟨g5, 0, none⟩) cs.length cap5] 40) ho hg hor)
          clear hb5w HN
          subst hkk
          go_wp2_with (at_builtin; refine LSc_ok.snoc rfl (.tmp 29) (.tmp 31) rfl w.heap.size u3 so so.length rfl HOW5.out rfl _ rfl (some ⟨g5, 0, none⟩, cs.length, cap5) (lit_cells wr _ _) (by omega) (by simp; omega) ?_; intro g6 cap6 w6 ho6 hg6 hor6 hlt6)
          obtain ⟨hgn, hgww⟩ := HST.out w6 g6 cap6 ho6 hg6 hor6
          have HGN := Lib.hid hgn
          have hb6 := hb.grown hgww hsz (fun k e => (HGR.out.own.lt k e).1)
          clear ho6 hg6 hor6 hgn hgww HST
          go_wp2
          go_roundw
          case rel => exact ⟨j + 1, so ++ [(some ⟨g5, 0, none⟩, cs.length, cap5)], by omega, by go_num, by rw [HTK.out]; exact HGN.out, hb6⟩
          case measure => simp [intOf]; omega
    · have hkk : j = rows.length := by have := HL1.out; omega
      have HF := Lib.hid (show GridN wr w.heap.size u3 (greyL rows) so by have := HGR.out; rwa [hkk, List.take_length] at this)
      clear HGR hkk
      have hjj : j = ss.length := by omega
      subst hjj
      go_wp2
      go_ret
      exact ⟨_, so, rfl, HF.out, hb⟩
end Go.Proofs.YtobpnoiienpipaaGreat
