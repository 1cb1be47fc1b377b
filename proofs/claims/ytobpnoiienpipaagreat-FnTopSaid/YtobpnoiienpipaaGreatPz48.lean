/-
  What is proved: what is received of a stream whose lines are all there, and of which all pairs make rows.
  Conditions: the set is valid; the stream can be read.
-/
import Derived.Test.YtobpnoiienpipaaGreatRec3
import Derived.Test.YtobpnoiienpipaaGreatPz47
import Derived.Deep.RegionHeld3
import Derived.Test.YtobpnoiienpipaaGreatPz41
import Derived.Test.YtobpnoiienpipaaGreatPz33
import Derived.Test.YtobpnoiienpipaaGreatPz36
namespace Go.Proofs.YtobpnoiienpipaaGreat
set_option linter.unusedVariables false
open Go.RowKit Go.Shelf
attribute [local go_sem] run_store_float run_store_complex unary_negf neg256

theorem getD_in {α : Type} {l : List α} {d : α} {i : Nat} (h : i < l.length) : l.getD i d = l[i] := by
  rw [List.getD_eq_getElem?_getD, List.getElem?_eq_getElem h]; rfl
/-- The rows of a picture, of those of its two fields. -/
def wv (m : Nat) (out : List (List C3)) : List (List C3) := (List.range (2 * m)).map fun i => out.getD (if i % 2 = 0 then i / 2 else m + i / 2) []
theorem wv_len (m : Nat) (out : List (List C3)) : (wv m out).length = 2 * m := by simp [wv]
theorem wv_even {m k : Nat} {out : List (List C3)} (h : 2 * k < (wv m out).length) : (wv m out)[2 * k] = out.getD k [] := by
  simp only [wv, List.getElem_map, List.getElem_range]
  rw [if_pos (by omega), show 2 * k / 2 = k by omega]
theorem wv_odd {m k : Nat} {out : List (List C3)} (h : 2 * k + 1 < (wv m out).length) : (wv m out)[2 * k + 1] = out.getD (m + k) [] := by
  simp only [wv, List.getElem_map, List.getElem_range]
  rw [if_neg (by omega), show (2 * k + 1) / 2 = k by omega]
theorem wv_mem {m : Nat} {out : List (List C3)} (hl : out.length = 2 * m) : ∀ r ∈ wv m out, r ∈ out := by
  intro r hr
  unfold wv at hr
  obtain ⟨i, hi, rfl⟩ := List.mem_map.1 hr
  have hi := List.mem_range.1 hi
  have : (if i % 2 = 0 then i / 2 else m + i / 2) < out.length := by split <;> omega
  rw [getD_in this]
  exact List.getElem_mem _
/-- A list of rows, cell by cell. -/
theorem RowsV.cells {w : World} {g cap n : Nat} {rows : List (List C3)} {ss : List SV} (h : RowsV w (.slice (some ⟨g, 0, none⟩) n cap) rows ss) {k : Nat} (hk : k < rows.length) : ∃ a c, w.cell? ⟨g, k, none⟩ = some (.slice a (rows.getD k []).length c) ∧ RowV w (.slice a (rows.getD k []).length c) (rows.getD k []) := by
  have hks : k < ss.length := by rw [h.len]; exact hk
  obtain ⟨a, c, e, hc⟩ := h.any
  obtain ⟨g', o', e1, _, h2⟩ := hc k hks
  cases e
  cases e1
  have h3 := h.each k hks hk
  rw [getD_in hk]
  obtain ⟨a2, c2, e2⟩ := h3.lenv
  rw [Nat.zero_add] at h2
  exact ⟨a2, c2, by rw [h2, e2], by rw [← e2]; exact h3⟩
set_option maxRecDepth 100000 in
set_option maxHeartbeats 1000000 in
theorem receive_yes (x : SetC) (vl v : Value) (log : List (List UInt8)) (xs : List Nat) (m : Nat) (w : World) (hx : x.ok) (hlog : TRow w vl log) (hll : log.length ≤ 3000000) (h : FRow w v xs) (hl : xs.length ≤ 3000000) (hset : setB x log.length = true) (hc : 1 ≤ x.c ∧ x.c ≤ 64) (hr : x.r = ((2 * m : Nat) : Int)) (hm : 1 ≤ m ∧ m ≤ 32)
    (hlines : (setLines x xs).length = 2 * m) (hwide : ∀ l ∈ setLines x xs, l.length ≤ 3000000) (hrows : ∀ out ok, RowsR (setLines x xs) x.l x.t m out ok → ok = true) (rs : List (List C3)) (hrs : ∀ out, TakenK (setLines x xs) x.l x.t m out → wv m out = rs) :
    Calls Tryz.prog 10 #[x.val vl, v] w fun e w' => WeavePost rs w e w' := by
  have HOK := fun W hr => Lib.hid (setOk_any x vl log W hx hr hll)
  have HCU := fun W hr => Lib.hid (cutLines_any x vl v xs W hc hr hl)
  have HTR := fun (orig : List (Value × List Nat)) base g cap W h1 h2 h3 h4 h5 h6 => Lib.hid (callsIn_wide.1 (takenRows_in x vl (setLines x xs) orig base m g cap W h1 h2 h3 h4 h5 h6 hm.1 hm.2))
  obtain ⟨av, cv, rfl⟩ := h.lenv
  have HR := Lib.hid h
  have HLG := Lib.hid hlog
  have K := heap_alloc_new w (.cells (x.cells vl) 37)
  have hb0 := (Below.refl w.heap.size w).alloc (Nat.le_refl _) (.cells (x.cells vl) 37)
  have hz0 : (w.alloc (.cells (x.cells vl) 37)).heap.size = w.heap.size + 1 := by simp
  have HROWS := Lib.hid hrows
  have HRS := Lib.hid hrs
  have HLN := Lib.hid hlines
  have HWD := Lib.hid hwide
  rw [hset] at HOK
  obtain ⟨xc, xr, xsl, xl, xt⟩ := x
  simp only at hr hc
  subst hr
  obtain ⟨N, hN⟩ : ∃ N, N = 2 * m := ⟨_, rfl⟩
  have HN := Lib.hid hN
  rw [← hN] at HOK HCU HTR K hb0 hz0 HLN HWD HROWS HRS ⊢
  obtain ⟨p0, p1, p2, p3, p4, p5⟩ := SetAt.of (x := ⟨xc, (N : Int), xsl, xl, xt⟩) (v := vl) K
  simp only [SetC.val, SetC.cells] at *
  generalize hL : setLines ⟨xc, (N : Int), xsl, xl, xt⟩ xs = L at *
  clear hL h hlog hrows hrs hlines hwide hset hx hN
  go_enter Tryz.func10, Tryz.ntmps10
  go_wp2_with fail
  generalize World.alloc w _ = w1 at *
  refine (HOK w1 (HLG.out.below hb0)).out.mono ?_
  rintro e w2 ⟨rfl, hb2⟩
  have hb02 := below_trans hb0 hb2 hb0.size
  replace K := (hb2.block w.heap.size (by omega)).trans K
  have hz2 := hb2.size
  clear p0 p1 p2 p3 p4 p5 hb2 hb0 HLG HOK
  obtain ⟨p0, p1, p2, p3, p4, p5⟩ := SetAt.of (x := ⟨xc, (N : Int), xsl, xl, xt⟩) (v := vl) K
  go_wp2_with fail
  refine (HCU w2 (HR.out.below hb02)).out.mono ?_
  rintro e w3 ⟨v3, s3, rfl, hg3, hb3⟩
  have hb03 := below_trans hb02 hb3 hb02.size
  replace K := (hb3.block w.heap.size (by omega)).trans K
  have hz3 := hb3.size
  clear p0 p1 p2 p3 p4 p5 hb02 HCU HR
  obtain ⟨p0, p1, p2, p3, p4, p5⟩ := SetAt.of (x := ⟨xc, (N : Int), xsl, xl, xt⟩) (v := vl) K
  have hs3 : s3.length = N := by rw [hg3.lines.len]; exact HLN.out
  have hNm := HN.out
  obtain ⟨gl, cl, curl, rfl, hgl1, hgl2, hgl3, hgl4⟩ : ∃ gl cl, ∃ cur : Array Value, v3 = .slice (some ⟨gl, 0, none⟩) N cl ∧ w2.heap.size ≤ gl ∧ N ≤ cl ∧ w3.heap[gl]? = some (.cells cur 31 (0, 0)) ∧ ∀ i (h : i < s3.length), cur[i]? = some s3[i].v := by
    rcases hg3.own.2 with ⟨_, e⟩ | ⟨g, cap, cur, rfl, hbb, hgg, hn, _⟩
    · omega
    · refine ⟨g, cap, cur, by rw [hs3], hbb, by omega, hgg, fun i hi => ?_⟩
      obtain ⟨a, c, e, hcell⟩ := Lay.Row.any LSf_ok hg3.own.row
      obtain ⟨g', o', e1, _, h2⟩ := hcell i hi
      cases e
      cases e1
      have h3 := h2 0 s3[i].v rfl
      simp only [World.cell?, hgg] at h3
      simpa [LSf] using h3
  have horig : (List.zipWith (fun (s : SV) (l : List Nat) => ((s.v, l) : Value × List Nat)) s3 L).length = N := by rw [List.length_zipWith, hs3, HLN.out]; exact Nat.min_self N
  have hcurL : CurL w3 w2.heap.size gl (List.zipWith (fun (s : SV) (l : List Nat) => ((s.v, l) : Value × List Nat)) s3 L) := by
    have hll := hg3.lines.len
    refine ⟨⟨curl, hgl3, ?_, fun i hi => ?_⟩, fun i hi => ?_, fun i hi k hk => ?_⟩
    · rw [horig]
      rcases Nat.eq_zero_or_pos N with h0 | h0
      · omega
      · have := hgl4 (N - 1) (by omega)
        have := (Array.getElem?_eq_some_iff.1 this).1
        omega
    · rw [List.getElem_zipWith]; exact hgl4 i (by omega)
    · rw [List.getElem_zipWith]; exact ⟨hg3.lines.row i (by omega) (by omega), HWD.out _ (List.getElem_mem _)⟩
    · rw [List.getElem_zipWith] at hk
      intro e
      exact hg3.lines.out i (by omega) k hk (by rw [e]; rfl)
  have HTK := Lib.hid (HTR _ w2.heap.size gl cl w3 hcurL horig (fun i hi => by
    rw [List.getElem_zipWith, getD_in (show i < L.length by rw [HLN.out]; omega)]) hz3 hgl1 (by omega)).out
  have hb23 := hb3
  clear hcurL horig hgl3 hgl4 hg3 hs3 HTR hb3 hNm
  go_wp2_with fail
  refine HTK.out.mono ?_
  rintro e w4 ⟨v4, out, s4, ok, rfl, hrr, hg4, hb4⟩
  have hNm := HN.out
  obtain rfl := HROWS.out out ok hrr
  have htk : TakenK L xl xt m out := by
    rcases hrr with ⟨_, h⟩ | ⟨e, _⟩
    · exact h
    · cases e
  have HRSE := Lib.hid (HRS.out out htk)
  have hol := htk.len
  have hs4 : s4.length = N := by rw [hg4.len, hol, hNm]
  have HTHIN := Lib.hid (show Thin rs from fun r hr => by
    rw [← HRSE.out] at hr
    exact Nat.le_trans (htk.row r (wv_mem hol r hr)).1 (by decide))
  obtain ⟨g4, c4, rfl, hc4⟩ : ∃ g4 c4, v4 = .slice (some ⟨g4, 0, none⟩) N c4 ∧ N ≤ c4 := by
    rcases hg4.own.shape with ⟨_, e⟩ | ⟨g, cap, rfl, _, _, hc, _⟩
    · rw [e] at hs4; simp at hs4; omega
    · exact ⟨g, cap, by rw [hs4], by omega⟩
  have hrv := hg4.rows
  have hdiv : ((N : Int) / 2) = (m : Int) := by omega
  have hNm2 : N - m = m := by omega
  have hmN : (m : Int) ≤ (N : Int) := by omega
  have hmc : (m : Int) ≤ (c4 : Int) := by omega
  have hNc : (N : Int) ≤ (c4 : Int) := by omega
  have hm0 : (0 : Int) ≤ (m : Int) := by omega
  have hcm : ¬ c4 = m := by omega
  have hcm2 : ¬ c4 - m = 0 := by omega
  have HB04 := Lib.hid (hb03.trans (hb4.mono (show w.heap.size ≤ w2.heap.size by omega)))
  have e := HRSE.out
  subst e
  have HWV := Lib.hid (weave_yes g4 0 c4 g4 m (c4 - m) m (by omega) (wv m out) (wv_len m out) HTHIN.out w4.drew (fun k hk hq => by
      rw [wv_even hq, Nat.zero_add]
      exact (hrv.below (Below.refl _ _).drew).cells (by omega))
    (fun k hk hq => by
      rw [wv_odd hq]
      exact (hrv.below (Below.refl _ _).drew).cells (by omega)))
  clear hrv hol hs4 htk hrr hg4 hb4 hb03 hb23 HTK HRSE HTHIN HROWS HRS HLN HWD hNm K p0 p1 p2 p3 p4 p5 HN hz2 hz3 hz0
  go_wp2
  go_region_held3 (fun V => True) (trivial) (first
    | ((try go_simp); go_at_call 34; (try simp only [hNm2, Nat.zero_add]); refine HWV.out.mono ?_; rintro e w5 ⟨v5, rfl, hp5, hb5⟩))
  go_wp2
  go_ret2
  exact ⟨v5, rfl, hp5, below_trans HB04.out.drew hb5 HB04.out.size⟩
end Go.Proofs.YtobpnoiienpipaaGreat

/-
  What is proved: the walks of NewSet, the program's and the model's.
  Conditions: the numbers are 64-bit ones.
-/
namespace Go.Proofs.YtobpnoiienpipaaGreat
set_option linter.unusedVariables false
open Go.RowKit
attribute [local go_sem] run_store_float run_store_complex unary_negf neg256 neg1024

/-- The set that NewSet makes, and the one of zeros. -/
def newC (c r : Int) : SetC := ⟨c, r, 3250585600, 1040187392, 1065353216⟩
def zeroC : SetC := ⟨0, 0, 0, 0, 0⟩
def newB (c r : Int) : Bool := setB (newC c r) 0
def newR (c r : Int) : SetC := if newB c r = true then newC c r else zeroC
theorem newC_ok {c r : Int} (h : I64 c) (h' : I64 r) : (newC c r).ok := ⟨h, h'⟩
theorem alloc2 (w : World) (o1 o2 : Obj) : ((w.alloc o1).alloc o2).heap[w.heap.size]? = some o1 ∧ ((w.alloc o1).alloc o2).heap[w.heap.size + 1]? = some o2 ∧
    ((w.alloc o1).alloc o2).heap.size = w.heap.size + 2 ∧ Below w.heap.size w ((w.alloc o1).alloc o2) := by
  have h1 : (w.alloc o1).heap.size = w.heap.size + 1 := by simp
  refine ⟨?_, ?_, by simp, ?_⟩
  · rw [alloc_keeps _ _ (by omega)]
    exact heap_alloc_new _ _
  · rw [← h1]
    exact heap_alloc_new _ _
  · exact ((Below.refl _ _).alloc (Nat.le_refl _) _).alloc (by omega) _
set_option maxHeartbeats 2000000 in
theorem newSet_any (c r : Int) (w : World) (hc : I64 c) (hr : I64 r) :
    Calls Tryz.prog 9 #[.int .i64 c, .int .i64 r] w fun e w' => e = .returned (.tuple #[(newR c r).val (.slice none 0 0), .bool (newB c r)]) ∧ Below w.heap.size w w' := by
  have HS := fun W => Lib.hid (setOk_any (newC c r) (.slice none 0 0) [] W (newC_ok hc hr) (.inl ⟨⟨_, _, rfl⟩, rfl⟩) (by simp))
  have hB : setB (newC c r) ([] : List (List UInt8)).length = newB c r := rfl
  simp only [hB] at HS
  unfold newR
  obtain ⟨b, hb⟩ : ∃ b, newB c r = b := ⟨_, rfl⟩
  rw [hb] at HS ⊢
  clear hB hb hc hr
  simp only [SetC.val, newC] at HS
  obtain ⟨k1, k2, hsz, hbl⟩ := alloc2 w (.cells #[.int .i64 0, .int .i64 0, .float .f32 0, .float .f32 0, .float .f32 0, .slice none 0 0] 37) (.cells #[.int .i64 c, .int .i64 r, .float .f32 3250585600, .float .f32 1040187392, .float .f32 1065353216, .slice none 0 0] 37)
  go_enter Tryz.func9, Tryz.ntmps9
  go_wp2_with fail
  generalize World.alloc (World.alloc w _) _ = X at *
  refine (HS X).out.mono ?_
  rintro e w1 ⟨rfl, hb1⟩
  have hbw := below_trans hbl hb1 hbl.size
  replace k1 := (hb1.block _ (by omega)).trans k1
  replace k2 := (hb1.block _ (by omega)).trans k2
  obtain ⟨p0, p1, p2, p3, p4, p5⟩ : (w1.cell? ⟨w.heap.size + 1, 0, none⟩ = some (.int .i64 c)) ∧ (w1.cell? ⟨w.heap.size + 1, 1, none⟩ = some (.int .i64 r)) ∧ (w1.cell? ⟨w.heap.size + 1, 2, none⟩ = some (.float .f32 3250585600)) ∧ (w1.cell? ⟨w.heap.size + 1, 3, none⟩ = some (.float .f32 1040187392)) ∧ (w1.cell? ⟨w.heap.size + 1, 4, none⟩ = some (.float .f32 1065353216)) ∧ (w1.cell? ⟨w.heap.size + 1, 5, none⟩ = some (.slice none 0 0)) := by
    refine ⟨?_, ?_, ?_, ?_, ?_, ?_⟩ <;> simp [World.cell?, k2]
  obtain ⟨r0, r1, r2, r3, r4, r5⟩ : (w1.cell? ⟨w.heap.size, 0, none⟩ = some (.int .i64 0)) ∧ (w1.cell? ⟨w.heap.size, 1, none⟩ = some (.int .i64 0)) ∧ (w1.cell? ⟨w.heap.size, 2, none⟩ = some (.float .f32 0)) ∧ (w1.cell? ⟨w.heap.size, 3, none⟩ = some (.float .f32 0)) ∧ (w1.cell? ⟨w.heap.size, 4, none⟩ = some (.float .f32 0)) ∧ (w1.cell? ⟨w.heap.size, 5, none⟩ = some (.slice none 0 0)) := by
    refine ⟨?_, ?_, ?_, ?_, ?_, ?_⟩ <;> simp [World.cell?, k1]
  obtain ⟨s0, s1, s2, s3, s4, s5⟩ : w1.frozen? ⟨w.heap.size, 0, none⟩ = false ∧ w1.frozen? ⟨w.heap.size, 1, none⟩ = false ∧ w1.frozen? ⟨w.heap.size, 2, none⟩ = false ∧ w1.frozen? ⟨w.heap.size, 3, none⟩ = false ∧ w1.frozen? ⟨w.heap.size, 4, none⟩ = false ∧ w1.frozen? ⟨w.heap.size, 5, none⟩ = false := by
    refine ⟨?_, ?_, ?_, ?_, ?_, ?_⟩ <;> simp [World.frozen?, k1]
  clear HS k1 k2 hb1 hsz
  cases b
  · go_wp2
    refine bodyPost_ret (v := .tuple #[.agg #[.int .i64 0, .int .i64 0, .float .f32 0, .float .f32 0, .float .f32 0, .slice none 0 0], .bool false]) ?_ rfl ⟨rfl, ?_⟩
    · simp [results, Tryz.results9, go_sem, r0, r1, r2, r3, r4, r5]
    · exact ((((((hbw.setCell (p := ⟨_, _, none⟩) (by simp) _).setCell (p := ⟨_, _, none⟩) (by simp) _).setCell (p := ⟨_, _, none⟩) (by simp) _).setCell (p := ⟨_, _, none⟩) (by simp) _).setCell (p := ⟨_, _, none⟩) (by simp) _).setCell (p := ⟨_, _, none⟩) (by simp) _)
  · go_wp2
    refine bodyPost_ret (v := .tuple #[.agg #[.int .i64 c, .int .i64 r, .float .f32 3250585600, .float .f32 1040187392, .float .f32 1065353216, .slice none 0 0], .bool true]) ?_ rfl ⟨rfl, ?_⟩
    · simp [results, Tryz.results9, go_sem, r0, r1, r2, r3, r4, r5]
    · exact ((((((hbw.setCell (p := ⟨_, _, none⟩) (by simp) _).setCell (p := ⟨_, _, none⟩) (by simp) _).setCell (p := ⟨_, _, none⟩) (by simp) _).setCell (p := ⟨_, _, none⟩) (by simp) _).setCell (p := ⟨_, _, none⟩) (by simp) _).setCell (p := ⟨_, _, none⟩) (by simp) _)
end Go.Proofs.YtobpnoiienpipaaGreat

/-
  What is proved: a link's picture is received as it was sent: what is told of its lines, pair by pair.
  Conditions: the picture and the channel are those of a link.
-/
namespace Go.Proofs.YtobpnoiienpipaaGreat
set_option linter.unusedVariables false
open Go.RowKit
open Flt (Q)

/-- All cells are such as a link carries. -/
def LinkR (cs : List C3) : Prop := ∀ c ∈ cs, LinkC c
theorem LinkC.pc {c : C3} (h : LinkC c) : ∃ a b d, PC c a b d ∧ 0 ≤ a ∧ b.natAbs ≤ 32 ∧ d.natAbs ≤ 32 := by
  obtain ⟨a, b, d, h1, h2, h3, h4, h5, h6⟩ := h
  exact ⟨a, b, d, ⟨h1, h2, h3, by omega, by omega, by omega⟩, h4.1, h5, h6⟩
theorem LinkR.plain {cs : List C3} (h : LinkR cs) : PlainR cs := fun c hc => by
  obtain ⟨a, b, d, hp, _⟩ := (h c hc).pc
  exact ⟨a, b, d, hp⟩
theorem LinkR.fin {cs : List C3} (h : LinkR cs) : ∀ c ∈ cs, Flt.fin c.1 = true ∧ Flt.fin c.2.1 = true ∧ Flt.fin c.2.2 = true := fun c hc => by
  obtain ⟨a, b, d, hp, _⟩ := (h c hc).pc
  exact hp.fins
theorem LinkR.fit {cs : List C3} (h : LinkR cs) : Fit cs := fun c hc => by
  obtain ⟨a, b, d, hp, _⟩ := (h c hc).pc
  exact hp.fit
theorem LinkR.rok {cs : List C3} (h : LinkR cs) (h1 : 1 ≤ cs.length) (h2 : cs.length ≤ 64) : Proofs.YtobpnoiienpipaaGreat.rok cs = true := rok_iff.2 ⟨⟨h1, h2⟩, h.fin⟩
/-- Rows of the same colours: their whole numbers. -/
theorem link_twin : ∀ {cs ds : List C3}, LinkR cs → LinkR ds → cs.length = ds.length → (∀ i (h : i < cs.length) (h' : i < ds.length), cs[i].2 = ds[i].2) → ∃ ks ls, CellsQ cs ks ∧ CellsQ ds ls ∧ KLink ks ∧ KLink ls ∧ ls.length = ks.length ∧ ∀ i (h : i < ks.length) (h' : i < ls.length), ks[i].2 = ls[i].2
  | [], [], _, _, _, _ => ⟨[], [], trivial, trivial, fun k hk => (by cases hk), fun k hk => (by cases hk), rfl, fun i h => absurd h (by simp)⟩
  | c :: cs, d :: ds, hc, hd, hl, he => by
    obtain ⟨ks, ls, h1, h2, h3, h4, h5, h6⟩ := link_twin (cs := cs) (ds := ds) (fun x hx => hc x (List.mem_cons_of_mem _ hx)) (fun x hx => hd x (List.mem_cons_of_mem _ hx)) (by simpa using hl) (fun i hi hi' => he (i + 1) (Nat.succ_lt_succ hi) (Nat.succ_lt_succ hi'))
    obtain ⟨a, b, e, hp, e1, e2, e3⟩ := (hc c (List.mem_cons_self ..)).pc
    obtain ⟨a', b', e', hp', e1', _, _⟩ := (hd d (List.mem_cons_self ..)).pc
    have e0 := he 0 (Nat.succ_pos _) (Nat.succ_pos _)
    simp only [List.getElem_cons_zero] at e0
    refine ⟨(a, b, e) :: ks, (a', b, e) :: ls, ⟨hp, h1⟩, ⟨⟨hp'.1, by rw [← e0]; exact hp.2.1, by rw [← e0]; exact hp.2.2.1, hp'.2.2.2.1, hp.2.2.2.2.1, hp.2.2.2.2.2⟩, h2⟩, fun k hk => ?_, fun k hk => ?_, by rw [List.length_cons, List.length_cons, h5], fun i hi hi' => ?_⟩
    · rcases List.mem_cons.1 hk with rfl | hk
      · exact ⟨e1, e2, e3⟩
      · exact h3 k hk
    · rcases List.mem_cons.1 hk with rfl | hk
      · exact ⟨e1', e2, e3⟩
      · exact h4 k hk
    · cases i with
      | zero => rfl
      | succ i => exact h6 i (Nat.lt_of_succ_lt_succ hi) (Nat.lt_of_succ_lt_succ hi')
  | [], _ :: _, _, _, hl, _ => absurd hl (by simp)
  | _ :: _, [], _, _, hl, _ => absurd hl (by simp)
theorem KLink.o {ks : List I3} (h : KLink ks) (odd : Bool) : KLink (ks.map (oI odd)) := by
  intro k hk
  obtain ⟨k0, h0, rfl⟩ := List.mem_map.1 hk
  obtain ⟨e1, e2, e3⟩ := h k0 h0
  refine ⟨e1, e2, ?_⟩
  unfold oI
  cases odd <;> simp [sgo] <;> omega

/-- A line of a link behind its channel. -/
def lnk (h : Chn) (cs : List C3) (odd : Bool) : List Nat := txs h (lineL cs odd)
/-- What is told of one line of a link. -/
structure LineF (h : Chn) (cs : List C3) (odd : Bool) : Prop where
  ok1 : sampOk (lineL cs odd) = true
  ok2 : sampOk (lnk h cs odd) = true
  lev : levOk (lnk h cs odd) = true
  low : ∃ e, LowL (lnk h cs odd) 3250585600 (24 + 4 * cs.length) e
  len : (lnk h cs odd).length = 24 + 4 * cs.length
theorem link_line {h : Chn} {α ω ξ η : Int} (hl : LinkQ h α ω ξ η) {cs : List C3} (hr : LinkR cs) (h1 : 1 ≤ cs.length) (h2 : cs.length ≤ 64) (odd : Bool) {ks : List I3} (hk : CellsQ cs ks) (hkl : KLink ks) :
    LineF h cs odd ∧ LineZ ξ η ks odd (levs (lnk h cs odd)) := by
  have hlen := hk.len
  obtain ⟨e1, e2, e3, e4, e5, e6⟩ := link_level hl hr.plain h1 h2 odd (hk.odd odd)
  have hlow := link_low hl.pos hl.wb hl.four.le hl.eb (hkl.o odd) (by rw [List.length_map]; omega) e5
  rw [List.length_map, ← hlen] at hlow
  refine ⟨⟨e1, e2, e3, hlow, ?_⟩, lineZ_of hl.four.le hl.eb hk.kb (by omega) (by omega) e4 e6⟩
  unfold lnk
  rw [txs_len h (6 + cs.length) _ (by rw [lineL_len]; omega), lineL_len]
/-- What is received of a row that was sent. -/
def Got1 (r d : List C3) : Prop := Alike r d ∧ Proofs.YtobpnoiienpipaaGreat.rok d = true ∧ d.length = r.length
/-- What is told of two lines of a link. -/
structure TwoF (h : Chn) (a b : List C3) : Prop where
  fst : LineF h a false
  snd : LineF h b true
  got : ∀ two ok, PairS (lnk h a false) (lnk h b true) 1040187392 1065353216 two ok → ok = true ∧ ∃ d0 d1, two = [d0, d1] ∧ Got1 a d0 ∧ Got1 b d1
theorem link_two {h : Chn} {α ω ξ η : Int} (hl : LinkQ h α ω ξ η) {a b : List C3} (ha : LinkR a) (hb : LinkR b) (hlen : a.length = b.length) (h1 : 1 ≤ a.length) (h2 : a.length ≤ 64) (he : ∀ i (h : i < a.length) (h' : i < b.length), a[i].2 = b[i].2) : TwoF h a b := by
  obtain ⟨ks, ls, k1, k2, k3, k4, k5, k6⟩ := link_twin ha hb hlen he
  obtain ⟨f1, z1⟩ := link_line hl ha h1 h2 false k1 k3
  obtain ⟨f2, z2⟩ := link_line hl hb (by omega) (by omega) true k2 k4
  have l1 := k1.len
  have l2 := k2.len
  refine ⟨f1, f2, fun two ok hp => ?_⟩
  rcases hp with ⟨e, _⟩ | ⟨_, ht⟩
  · rw [f1.lev, f2.lev] at e; cases e
  · obtain ⟨e, d0, d1, rfl, y0, y1⟩ := takeZ hl.four hl.eb z1 z2 k1.kb k2.kb k5 (by omega) (by omega) k6 ht
    have n0 := y0.1
    have n1 := y1.1
    rw [List.length_map] at n0 n1
    exact ⟨e, d0, d1, rfl, ⟨y0.alike k1, y0.rok (m8_kz k1.kb (by decide)) (by rw [List.length_map]; omega) (by rw [List.length_map]; omega), by omega⟩, ⟨y1.alike k2, y1.rok (m8_kz k2.kb (by decide)) (by rw [List.length_map]; omega) (by rw [List.length_map]; omega), by omega⟩⟩
theorem LinkR.got {r : List C3} (h : LinkR r) (h1 : 1 ≤ r.length) (h2 : r.length ≤ 64) : Got1 r r := by
  refine ⟨⟨rfl, fun i hi hi' => ?_⟩, h.rok h1 h2, rfl⟩
  obtain ⟨e1, e2, e3⟩ := h.fin _ (List.getElem_mem hi)
  have f : ∀ {x : Nat}, Flt.fin x = true → feq x x = true := fun hx => by
    obtain ⟨s, u, hn, _⟩ := Flt.fin_of hx
    exact feq_self (Flt.num_read hn)
  rw [f e1, f e2, f e3]
  rfl
/-- What is told of a link. -/
structure TopF (h : Chn) (rs : List (List C3)) (W : Nat) : Prop where
  ok : ChOk h ∧ MagH h
  pic : pok rs = true
  thin : Thin rs
  pair : PairP rs rs.length
  t0 : Thru h (fld rs 0)
  t1 : Thru h (fld rs 1)
  n0 : fld rs 0 ≠ []
  n1 : fld rs 1 ≠ []
  few : (studL h rs).flatten.length ≤ 3000000
  count : (studL h rs).length = rs.length
  cut : setLines (newC (W : Int) (rs.length : Int)) (studL h rs).flatten = studL h rs
  wide : ∀ l ∈ studL h rs, l.length ≤ 3000000
  high : rs.length = 4 ∨ rs.length = 8
  rows : ∀ out ok, RowsR (studL h rs) 1040187392 1065353216 (rs.length / 2) out ok → ok = true
  back : ∀ out, TakenK (studL h rs) 1040187392 1065353216 (rs.length / 2) out → pok (wv (rs.length / 2) out) = true ∧ AlikeR rs (wv (rs.length / 2) out)
theorem pok_of {rs : List (List C3)} {W : Nat} (hn : rs.length = 4 ∨ rs.length = 8) (h : ∀ r ∈ rs, Proofs.YtobpnoiienpipaaGreat.rok r = true ∧ r.length = W) : pok rs = true := by
  unfold pok
  rw [sizeOk_iff.2 (by rcases hn with e | e <;> omega), Bool.true_and]
  refine List.all_eq_true.2 fun r hr => ?_
  unfold rowFit
  have h0 : (rs.headD []).length = W := by
    cases rs with
    | nil => rcases hn with e | e <;> cases e
    | cons r0 rs => exact (h r0 (List.mem_cons_self ..)).2
  rw [(h r hr).1, h0, decide_eq_true (h r hr).2]
  rfl
/-- The lines of a link, all alike long, each low in its pulse: where they are cut. -/
theorem top_cut {lines : List (List Nat)} {W N : Nat} (hW : 1 ≤ W ∧ W ≤ 4) (hN : lines.length = N) (h4 : N = 4 ∨ N = 8) (hw : ∀ l ∈ lines, l.length = 24 + 4 * W) (hl : ∀ l ∈ lines, ∃ e, LowL l 3250585600 (24 + 4 * W) e) :
    setLines (newC (W : Int) (N : Int)) lines.flatten = lines := by
  have hm : lines.length * (24 + 4 * W) ≤ 8 * 40 := Nat.mul_le_mul (by omega) (by omega)
  obtain ⟨e1, e2⟩ := link_cut hw (by omega) (by omega) hl (by omega) (by omega)
  unfold setLines newC
  simp only
  have e : (24 + 4 * (W : Int)) = ((24 + 4 * W : Nat) : Int) := by omega
  rw [e, e1, e2]
end Go.Proofs.YtobpnoiienpipaaGreat
