/-
  What is proved: what a set takes of lines, two by two.
  Conditions: the lines lie in new memory of the caller's; there is an even number of them.
-/
import Derived.Test.YtobpnoiienpipaaGreatRec2
import Derived.Test.YtobpnoiienpipaaGreatHeldIn
namespace Go.Proofs.YtobpnoiienpipaaGreat
set_option linter.unusedVariables false
open Go.RowKit Go.Shelf
attribute [local go_sem] run_store_float run_store_complex unary_negf neg256 Oper.semAt_some

/-- The pairs come in order. -/
def Good {m : Nat} (pre : List (Ch m)) : Prop := ∀ i (h : i < pre.length), pre[i].1 = i
theorem good_snoc {m : Nat} {pre : List (Ch m)} {x : Ch m} (h : Good (pre ++ [x])) : Good pre ∧ x.1 = pre.length := by
  refine ⟨fun i hi => ?_, ?_⟩
  · have := h i (by first | (simp; done) | (simp; omega))
    rwa [List.getElem_append_left hi] at this
  · have := h pre.length (by simp)
    rw [List.getElem_append_right (Nat.le_refl _)] at this
    simpa using this
theorem good_pre {m : Nat} {pre : List (Ch m)} (h : pre <+: idxF m m (Nat.le_refl m)) : Good pre := fun i hi => by
  have h1 := h.getElem hi
  rw [h1]
  exact idxF_get m m (Nat.le_refl m) i _
/-- What stands at the head of a round. -/
structure TakI (w0 : World) (H base g N m cap : Nat) (x : SetC) (vl : Value) (L : List (List Nat)) (orig : List (Value × List Nat)) (pre : List (Ch m)) (W : World) : Prop where
  set : W.heap[H]? = some (.cells (x.cells vl) 37 (0, 0))
  r1 : Boxed W (H + 1) 24 (.slice none 0 0)
  r2 : Boxed W (H + 1 + 1) 4 (.bool false)
  b4 : Boxed W (H + 4) 65 (.slice (some ⟨g, 0, none⟩) N cap)
  b5 : Boxed W (H + 5) 3 (.int .i64 2)
  below : Below base w0 W
  size : H + 6 ≤ W.heap.size
  rest : ∃ cur v out st, cur.length = N ∧ CurL W base g cur ∧ (∀ i (h : i < cur.length) k, cur[i].1.ownBlock = some k → k < H) ∧ (Good pre → ∀ i (h : i < cur.length) (h' : i < orig.length), 2 * pre.length ≤ i → cur[i] = orig[i]) ∧
    Boxed W (H + 1 + 1 + 1) 24 v ∧ GridN W (H + 6) v out st ∧ out.length ≤ 2 * pre.length ∧ (Good pre → TakenK L x.l x.t pre.length out)
/-- How a round is left early. -/
structure TakX (w0 : World) (H base m : Nat) (x : SetC) (L : List (List Nat)) (c : Code) (pre : List (Ch m)) (W : World) : Prop where
  ret : c = .ret
  r1 : Boxed W (H + 1) 24 (.slice none 0 0)
  r2 : Boxed W (H + 1 + 1) 4 (.bool false)
  below : Below base w0 W
  bad : Good pre → ∃ i, i < m ∧ ∃ two, PairS (L.getD (2 * i) []) (L.getD (2 * i + 1) []) x.l x.t two false
theorem cells_own {B : Nat} {o : Obj} {X Y : World} {row : Option Nat} (h : X.heap[B]? = some o) (ho : o.isCells = true) (hg : X.grownBy Y row) (hr : ∀ r, row = some r → ∃ o : Obj, X.heap[r]? = some o ∧ o.isCells = false) : Y.heap[B]? = some o :=
  (hg.block B (Array.getElem?_eq_some_iff.1 h).1 (fun e => not_cells ⟨o, h, ho⟩ hr e.symm)).trans h
theorem takI_own {w0 : World} {H base g N m cap : Nat} {x : SetC} {vl : Value} {L : List (List Nat)} {orig : List (Value × List Nat)} {B : Nat} (hB : base ≤ B) (hw : base ≤ w0.heap.size) : OwnFrom B (TakI w0 H base g N m cap x vl L orig) := by
  rintro pre X Y row ⟨h1, h2, h3, h4, h5, h6, h7, cur, v, out, st, k1, k2, k0, k3, k4, k5, k6⟩ hg hr
  have hr' : ∀ r, row = some r → ∃ o : Obj, X.heap[r]? = some o ∧ o.isCells = false := fun r e => (hr r e).2
  exact ⟨cells_own h1 rfl hg hr', cells_own h2 rfl hg hr', cells_own h3 rfl hg hr', cells_own h4 rfl hg hr', cells_own h5 rfl hg hr',
    h6.grown hg (Nat.le_trans hw h6.size) (fun r e => Nat.le_trans hB (hr r e).1), Nat.le_trans h7 hg.size, cur, v, out, st, k1, k2.own hg hr', k0, k3, cells_own k4 rfl hg hr', k5.ownC hg hr', k6⟩
theorem takX_own {w0 : World} {H base m : Nat} {x : SetC} {L : List (List Nat)} {c : Code} {B : Nat} (hB : base ≤ B) (hw : base ≤ w0.heap.size) : OwnFrom B (TakX w0 H base m x L c) := by
  rintro pre X Y row ⟨h1, h2, h3, h6, h7⟩ hg hr
  have hr' : ∀ r, row = some r → ∃ o : Obj, X.heap[r]? = some o ∧ o.isCells = false := fun r e => (hr r e).2
  exact ⟨h1, cells_own h2 rfl hg hr', cells_own h3 rfl hg hr', h6.grown hg (Nat.le_trans hw h6.size) (fun r e => Nat.le_trans hB (hr r e).1), h7⟩
def TakA (L : List (List Nat)) (l k m base : Nat) (w : World) (e : Ending) (w' : World) : Prop := ∃ v out st ok, e = .returned (.tuple #[v, .bool ok]) ∧ RowsR L l k m out ok ∧ GridN w' w.heap.size v out st ∧ Below base w w'
theorem six_blocks (w0 : World) (o0 o1 o2 o3 o4 o5 : Obj) : ((((((w0.alloc o0).alloc o1).alloc o2).alloc o3).alloc o4).alloc o5).heap.size = w0.heap.size + 6 ∧ ((((((w0.alloc o0).alloc o1).alloc o2).alloc o3).alloc o4).alloc o5).heap[w0.heap.size]? = some o0 ∧
    ((((((w0.alloc o0).alloc o1).alloc o2).alloc o3).alloc o4).alloc o5).heap[w0.heap.size + 1]? = some o1 ∧ ((((((w0.alloc o0).alloc o1).alloc o2).alloc o3).alloc o4).alloc o5).heap[w0.heap.size + 1 + 1]? = some o2 ∧ ((((((w0.alloc o0).alloc o1).alloc o2).alloc o3).alloc o4).alloc o5).heap[w0.heap.size + 1 + 1 + 1]? = some o3 ∧
    ((((((w0.alloc o0).alloc o1).alloc o2).alloc o3).alloc o4).alloc o5).heap[w0.heap.size + 4]? = some o4 ∧ ((((((w0.alloc o0).alloc o1).alloc o2).alloc o3).alloc o4).alloc o5).heap[w0.heap.size + 5]? = some o5 ∧
    Below w0.heap.size w0 ((((((w0.alloc o0).alloc o1).alloc o2).alloc o3).alloc o4).alloc o5) := by
  have hb := ((((((Below.refl w0.heap.size w0).alloc (Nat.le_refl _) o0).alloc (by simp) o1).alloc (by first | (simp; done) | (simp; omega)) o2).alloc (by first | (simp; done) | (simp; omega)) o3).alloc (by first | (simp; done) | (simp; omega)) o4).alloc (by first | (simp; done) | (simp; omega)) o5
  have n0 := heap_alloc_new w0 o0
  have n1 := heap_alloc_new (w0.alloc o0) o1
  have n2 := heap_alloc_new ((w0.alloc o0).alloc o1) o2
  have n3 := heap_alloc_new (((w0.alloc o0).alloc o1).alloc o2) o3
  have n4 := heap_alloc_new ((((w0.alloc o0).alloc o1).alloc o2).alloc o3) o4
  have n5 := heap_alloc_new (((((w0.alloc o0).alloc o1).alloc o2).alloc o3).alloc o4) o5
  simp only [World.size_alloc] at n0 n1 n2 n3 n4 n5
  refine ⟨by simp, ?_, ?_, ?_, ?_, ?_, n5, hb⟩
  · exact (alloc_keeps _ o5 (by first | (simp; done) | (simp; omega))).trans ((alloc_keeps _ o4 (by first | (simp; done) | (simp; omega))).trans ((alloc_keeps _ o3 (by first | (simp; done) | (simp; omega))).trans ((alloc_keeps _ o2 (by first | (simp; done) | (simp; omega))).trans ((alloc_keeps _ o1 (by simp)).trans n0))))
  · exact (alloc_keeps _ o5 (by first | (simp; done) | (simp; omega))).trans ((alloc_keeps _ o4 (by first | (simp; done) | (simp; omega))).trans ((alloc_keeps _ o3 (by first | (simp; done) | (simp; omega))).trans ((alloc_keeps _ o2 (by simp)).trans n1)))
  · exact (alloc_keeps _ o5 (by first | (simp; done) | (simp; omega))).trans ((alloc_keeps _ o4 (by first | (simp; done) | (simp; omega))).trans ((alloc_keeps _ o3 (by simp)).trans n2))
  · exact (alloc_keeps _ o5 (by first | (simp; done) | (simp; omega))).trans ((alloc_keeps _ o4 (by simp)).trans n3)
  · exact (alloc_keeps _ o5 (by simp)).trans n4
set_option maxRecDepth 100000 in
set_option maxHeartbeats 1000000 in
theorem takenRows_in (x : SetC) (vl : Value) (L : List (List Nat)) (orig : List (Value × List Nat)) (base m g cap : Nat) (w0 : World) (ho : CurL w0 base g orig) (hol : orig.length = 2 * m) (hoL : ∀ i (h : i < orig.length), L.getD i [] = orig[i].2) (hbase : base ≤ w0.heap.size) (hgb : base ≤ g) (hcap : 2 * m ≤ cap) (hm : 1 ≤ m) (hm64 : m ≤ 32) :
    CallsIn Fence.wide 3 Tryz.prog 33 #[x.val vl, .slice (some ⟨g, 0, none⟩) (2 * m) cap] w0 fun e w' => TakA L x.l x.t m base w0 e w' := by
  refine callsIn_of_wp_marks Tryz.func33 rfl trivial ?_ rfl
  simp only [Tryz.ntmps33, List.size_toArray, List.length_cons, List.length_nil, Nat.reduceAdd, Nat.reduceSub, Array.replicate_succ, Array.replicate_zero, List.push_toArray, List.append_toArray, List.nil_append, List.cons_append]
  obtain ⟨N, hN⟩ : ∃ N, N = 2 * m := ⟨_, rfl⟩
  rw [← hN] at hol hcap ⊢
  have HTP := fun va vb a b W h1 h2 h3 h4 => Lib.hid (takenPair_any x vl va vb a b W h1 h2 h3 h4)
  have HTX := fun pre W => (TakI w0 w0.heap.size base g N m cap x vl L orig pre W)
  obtain ⟨xc, xr, xsl, xl, xt⟩ := x
  simp only [SetC.val] at *
  have hglt := ho.lt
  have HOL := Lib.hid hoL
  have hNL := Lib.hid hN
  clear hoL hN HTX
  gi_wp2_with fail
  refine ⟨trivial, callsIn_wide.2 ((chunkL_any (some ⟨g, 0, none⟩) N cap _).mono ?_)⟩
  rintro e wz ⟨rfl, hwz⟩
  have hs4 : ((((w0.alloc (.cells #[.int .i64 xc, .int .i64 xr, .float .f32 xsl, .float .f32 xl, .float .f32 xt, vl] 37)).alloc (.cells #[.slice none 0 0] 24)).alloc (.cells #[.bool false] 4)).alloc (.cells #[.slice none 0 0] 24)).heap.size = w0.heap.size + 4 := by simp
  rw [hs4]
  obtain ⟨s0, s1, s2, s3, s4, s5, s6, s7⟩ := six_blocks w0 (.cells #[.int .i64 xc, .int .i64 xr, .float .f32 xsl, .float .f32 xl, .float .f32 xt, vl] 37) (.cells #[.slice none 0 0] 24) (.cells #[.bool false] 4) (.cells #[.slice none 0 0] 24) (.cells #[.slice (some ⟨g, 0, none⟩) N cap] 65) (.cells #[.int .i64 2] 3)
  rw [← hwz] at s0 s1 s2 s3 s4 s5 s6 s7
  have b4 : Boxed wz (w0.heap.size + 4) 65 (.slice (some ⟨g, 0, none⟩) N cap) := s5
  have b5 : Boxed wz (w0.heap.size + 5) 3 (.int .i64 2) := s6
  have HSQ := Lib.hid (chunkL_hands 2 (by omega) wz (w0.heap.size + 4) (w0.heap.size + 5) g 0 cap N m (some ⟨g, 0, none⟩) (fun _ => ⟨rfl, hcap⟩) hNL.out (by have := hNL.out; omega) b4.cell b5.cell)
  have HI0 := Lib.hid (show TakI w0 w0.heap.size base g N m cap ⟨xc, xr, xsl, xl, xt⟩ vl L orig [] wz from
    ⟨s1, s2, s3, b4, b5, s7.mono hbase, by omega, orig, _, [], [], hol, ho.below s7, fun i hi k hk => ((ho.row i hi).1.lt k hk).2, fun _ i _ _ _ => rfl, s4, GridN.nil0 _ _, Nat.le_refl _, fun _ => TakenK.zero _ _ _⟩)
  have hszz : wz.heap.size = w0.heap.size + 6 := s0
  clear hwz hs4 s0 s1 s2 s3 s4 s5 s6 b4 b5
  gi_wp2
  refine wpIn_rangeFunc_ownG rfl (by omega) (gf := 96) (lb := #[.pointer (some ⟨w0.heap.size + 4, 0, none⟩), .pointer (some ⟨w0.heap.size + 5, 0, none⟩)]) rfl trivial (enters_of Tryz.func96 (by kernel_rfl) rfl) HSQ.out (fun h k => h.trans k) (KeepB.put (by omega) (by omega)) (Below.refl _ _) (fun _ => rfl)
    (TakI w0 w0.heap.size base g N m cap ⟨xc, xr, xsl, xl, xt⟩ vl L orig)
    (TakX w0 w0.heap.size base m ⟨xc, xr, xsl, xl, xt⟩ L)
    (takI_own (by omega) hbase)
    (fun c => takX_own (by omega) hbase)
    HI0.out
    (fun x => { tmps := #[.agg #[.int .i64 xc, .int .i64 xr, .float .f32 xsl, .float .f32 xl, .float .f32 xt, vl], .slice (some ⟨g, 0, none⟩) N cap, .pointer (some ⟨w0.heap.size, 0, none⟩), undef, .pointer (some ⟨w0.heap.size + 1, 0, none⟩), .pointer (some ⟨w0.heap.size + 1 + 1, 0, none⟩), .pointer (some ⟨w0.heap.size + 1 + 1 + 1, 0, none⟩), chL g 0 x.1, undef, undef, .slice (some ⟨g, 0, none⟩) N cap, .func (.func 96) #[] #[.pointer (some ⟨w0.heap.size + 4, 0, none⟩), .pointer (some ⟨w0.heap.size + 5, 0, none⟩)], chL g 0 x.1, undef, undef, undef, undef, undef, undef, undef, undef, undef, undef, undef, undef, undef, undef, undef, undef, undef, undef], defers := [] }) ?assign ?body ?done ?stop
  case assign =>
    intro l x W K hK
    gi_wp2
    exact hK
  case body =>
    rintro l pre ⟨q, hq⟩ W ⟨h1, h2, h3, h4, h5, h6, h7, cur, v, out, st, k1, k2, k0, k3, k4, k5, k6, k8⟩ hlt
    rw [idxF_len] at hlt
    obtain ⟨p, hp⟩ : ∃ p, p = 0 + 2 * q := ⟨_, rfl⟩
    have hpN : p + 2 ≤ N := by have := hNL.out; omega
    have hp1 : p < cur.length := by omega
    have hp2 : p + 1 < cur.length := by omega
    obtain ⟨r1, l1⟩ := k2.row p hp1
    obtain ⟨r2, l2⟩ := k2.row (p + 1) hp2
    have c0 := k2.cell hp1
    have c1 := k2.cell hp2
    have HK3 := Lib.hid (show Good (pre ++ [⟨q, hq⟩]) → L.getD (2 * pre.length) [] = cur[p].2 ∧ L.getD (2 * pre.length + 1) [] = cur[p + 1].2 ∧ pre.length < m from fun hgd => by
      obtain ⟨g1, g2⟩ := good_snoc hgd
      have e : p = 2 * pre.length := by have : q = pre.length := g2; omega
      have hn := hNL.out
      refine ⟨?_, ?_, hlt⟩
      · rw [← e, HOL.out p (by omega), k3 g1 p hp1 (by omega) (by omega)]
      · rw [← e, HOL.out (p + 1) (by omega), k3 g1 (p + 1) hp2 (by omega) (by omega)])
    have HK2 := Lib.hid (And.intro k1 (And.intro k2 (And.intro k0 (And.intro k3 (And.intro k6 k8)))))
    generalize cur[p].1 = va at *
    generalize cur[p].2 = la at *
    generalize cur[p + 1].1 = vb at *
    generalize cur[p + 1].2 = lb at *
    have e1 := r1.row.lenv
    have e2 := r2.row.lenv
    obtain ⟨aa, ca, e1⟩ := e1
    obtain ⟨ab, cb, e2⟩ := e2
    subst e1 e2
    have HCL := Lib.hid ((HTP _ _ la lb W.drew (r1.row.below (Below.refl _ _).drew) (r2.row.below (Below.refl _ _).drew) l1 l2).out)
    obtain ⟨p0, p1, p2', p3, p4, p5⟩ := SetAt.of (x := ⟨xc, xr, xsl, xl, xt⟩) (v := vl) h1
    have HG5 := Lib.hid k5
    generalize la.length = na at *
    generalize lb.length = nb at *
    clear k1 k2 k0 k3 k6 k8 k5 HTP r1 r2 l1 l2
    unfold chL
    simp only []
    rw [← hp]
    have HP := Lib.hid hp
    clear hp
    gi_wp2
    refine wpIn_region_held (S := fun V => (V.cell? ⟨w0.heap.size, 0, none⟩ = some (.int .i64 xc) ∧ V.cell? ⟨w0.heap.size, 1, none⟩ = some (.int .i64 xr) ∧ V.cell? ⟨w0.heap.size, 2, none⟩ = some (.float .f32 xsl) ∧ V.cell? ⟨w0.heap.size, 3, none⟩ = some (.float .f32 xl) ∧ V.cell? ⟨w0.heap.size, 4, none⟩ = some (.float .f32 xt) ∧ V.cell? ⟨w0.heap.size, 5, none⟩ = some vl) ∧ (V.cell? ⟨g, p, none⟩ = some (.slice aa na ca) ∧ V.cell? ⟨g, p + 1, none⟩ = some (.slice ab nb cb))) (by kernel_rfl) (by kernel_rfl) (fun ⟨_, _, h⟩ => h) ⟨⟨p0, p1, p2', p3, p4, p5⟩, c0, c1⟩ (fun hHeld => ?_)
    refine wpAnyH_take (i := 0) (oi := ⟨some 14, Op.load 37 (Operand.tmp 2), _, _, _, none⟩) (v := ?_) rfl (by kernel_rfl) (by kernel_rfl) (by kernel_rfl) (fun _ _ _ h => h) (Or.inl ⟨by rfl, ?_⟩) (by assumption) ?_
    rotate_left
    · intro w hSw; (try dsimp only at hSw); go_simp; (try with_reducible rfl)
    try simp only [Act.put, List.setIfInBounds_toArray, List.set_cons_zero, List.set_cons_succ]
    refine wpAnyH_take (i := 1) (oi := ⟨some 15, Op.move (Operand.tmp 7), _, _, _, none⟩) (v := ?_) rfl (by kernel_rfl) (by kernel_rfl) (by kernel_rfl) (fun _ _ _ h => h) (Or.inl ⟨by rfl, ?_⟩) (by assumption) ?_
    rotate_left
    · intro w hSw; (try dsimp only at hSw); go_simp; (try with_reducible rfl)
    try simp only [Act.put, List.setIfInBounds_toArray, List.set_cons_zero, List.set_cons_succ]
    refine wpAnyH_take (i := 2) (oi := ⟨some 16, Op.indexAddr 65 (Operand.tmp 15) (Operand.const (Value.int IntKind.i64 0)), _, _, _, none⟩) (v := ?_) rfl (by kernel_rfl) (by kernel_rfl) (by kernel_rfl) (fun _ _ _ h => h) (Or.inl ⟨by rfl, ?_⟩) (by assumption) ?_
    rotate_left
    · intro w hSw; (try dsimp only at hSw); go_simp; (try with_reducible rfl)
    try simp only [Act.put, List.setIfInBounds_toArray, List.set_cons_zero, List.set_cons_succ]
    refine wpAnyH_take (i := 3) (oi := ⟨some 17, Op.load 31 (Operand.tmp 16), _, _, _, none⟩) (v := ?_) rfl (by kernel_rfl) (by kernel_rfl) (by kernel_rfl) (fun _ _ _ h => h) (Or.inl ⟨by rfl, ?_⟩) (by assumption) ?_
    rotate_left
    · intro w hSw; (try dsimp only at hSw); go_simp; (try with_reducible rfl)
    try simp only [Act.put, List.setIfInBounds_toArray, List.set_cons_zero, List.set_cons_succ]
    refine wpAnyH_take (i := 4) (oi := ⟨some 18, Op.move (Operand.tmp 7), _, _, _, none⟩) (v := ?_) rfl (by kernel_rfl) (by kernel_rfl) (by kernel_rfl) (fun _ _ _ h => h) (Or.inl ⟨by rfl, ?_⟩) (by assumption) ?_
    rotate_left
    · intro w hSw; (try dsimp only at hSw); go_simp; (try with_reducible rfl)
    try simp only [Act.put, List.setIfInBounds_toArray, List.set_cons_zero, List.set_cons_succ]
    refine wpAnyH_take (i := 5) (oi := ⟨some 19, Op.indexAddr 65 (Operand.tmp 18) (Operand.const (Value.int IntKind.i64 1)), _, _, _, none⟩) (v := ?_) rfl (by kernel_rfl) (by kernel_rfl) (by kernel_rfl) (fun _ _ _ h => h) (Or.inl ⟨by rfl, ?_⟩) (by assumption) ?_
    rotate_left
    · intro w hSw; (try dsimp only at hSw); go_simp; (try with_reducible rfl)
    try simp only [Act.put, List.setIfInBounds_toArray, List.set_cons_zero, List.set_cons_succ]
    refine wpAnyH_take (i := 6) (oi := ⟨some 20, Op.load 31 (Operand.tmp 19), _, _, _, none⟩) (v := ?_) rfl (by kernel_rfl) (by kernel_rfl) (by kernel_rfl) (fun _ _ _ h => h) (Or.inl ⟨by rfl, ?_⟩) (by assumption) ?_
    rotate_left
    · intro w hSw; (try dsimp only at hSw); go_simp; (try with_reducible rfl)
    try simp only [Act.put, List.setIfInBounds_toArray, List.set_cons_zero, List.set_cons_succ]
    refine wpAnyH_ready (rs := [7]) (by kernel_rfl) (by simp) (AllReadyH.cons (o := ⟨some 21, Op.call ⟨Callee.value (Operand.func 66), #[Operand.tmp 14, Operand.tmp 17, Operand.tmp 20], #[37, 31, 31]⟩, _, _, _, none⟩) rfl (fun K hK => ?_) AllReadyH.nil)
    (try go_simp)
    go_at_call 66
    refine HCL.out.mono ?_
    rintro e W1 ⟨v2, two, s2, ok, rfl, hps, hg2, hb2⟩
    have hb01 : Below W.heap.size W W1 := ((Below.refl _ _).drew).trans hb2
    have KK := And.intro (show SetAt W1 w0.heap.size ⟨xc, xr, xsl, xl, xt⟩ vl from (show SetAt W w0.heap.size ⟨xc, xr, xsl, xl, xt⟩ vl from ⟨p0, p1, p2', p3, p4, p5⟩).keep hb01 (by omega)) (And.intro ((hb01.cell (p := ⟨g, p, none⟩) (show g < _ by omega)).trans c0) ((hb01.cell (p := ⟨g, p + 1, none⟩) (show g < _ by omega)).trans c1))
    simp only [SetAt] at KK
    refine hK.out _ _ ?_ (fun hHeld => ?_)
    · (try dsimp only); with_reducible exact KK
    clear hK K
    try simp only [Act.put, List.setIfInBounds_toArray, List.set_cons_zero, List.set_cons_succ]
    refine wpAnyH_take (i := 8) (oi := ⟨some 13, Op.move (Operand.tmp 21), _, _, _, none⟩) (v := ?_) rfl (by kernel_rfl) (by kernel_rfl) (by kernel_rfl) (fun _ _ _ h => h) (Or.inl ⟨by rfl, ?_⟩) (by assumption) ?_
    rotate_left
    · intro w hSw; (try dsimp only at hSw); go_simp; (try with_reducible rfl)
    try simp only [Act.put, List.setIfInBounds_toArray, List.set_cons_zero, List.set_cons_succ]
    refine wpAnyH_take (i := 9) (oi := ⟨some 22, Op.extract (Operand.tmp 13) 0, _, _, _, none⟩) (v := ?_) rfl (by kernel_rfl) (by kernel_rfl) (by kernel_rfl) (fun _ _ _ h => h) (Or.inl ⟨by rfl, ?_⟩) (by assumption) ?_
    rotate_left
    · intro w hSw; (try dsimp only at hSw); go_simp; (try with_reducible rfl)
    try simp only [Act.put, List.setIfInBounds_toArray, List.set_cons_zero, List.set_cons_succ]
    refine wpAnyH_take (i := 10) (oi := ⟨some 23, Op.extract (Operand.tmp 13) 1, _, _, _, none⟩) (v := ?_) rfl (by kernel_rfl) (by kernel_rfl) (by kernel_rfl) (fun _ _ _ h => h) (Or.inl ⟨by rfl, ?_⟩) (by assumption) ?_
    rotate_left
    · intro w hSw; (try dsimp only at hSw); go_simp; (try with_reducible rfl)
    try simp only [Act.put, List.setIfInBounds_toArray, List.set_cons_zero, List.set_cons_succ]
    refine wpAnyH_take (i := 11) (oi := ⟨some 8, Op.assign (Operand.tmp 22), _, _, _, none⟩) (v := ?_) rfl (by kernel_rfl) (by kernel_rfl) (by kernel_rfl) (fun _ _ _ h => h) (Or.inl ⟨by rfl, ?_⟩) (by assumption) ?_
    rotate_left
    · intro w hSw; (try dsimp only at hSw); go_simp; (try with_reducible rfl)
    try simp only [Act.put, List.setIfInBounds_toArray, List.set_cons_zero, List.set_cons_succ]
    refine wpAnyH_take (i := 12) (oi := ⟨some 9, Op.assign (Operand.tmp 23), _, _, _, none⟩) (v := ?_) rfl (by kernel_rfl) (by kernel_rfl) (by kernel_rfl) (fun _ _ _ h => h) (Or.inl ⟨by rfl, ?_⟩) (by assumption) ?_
    rotate_left
    · intro w hSw; (try dsimp only at hSw); go_simp; (try with_reducible rfl)
    try simp only [Act.put, List.setIfInBounds_toArray, List.set_cons_zero, List.set_cons_succ]
    refine wpAnyH_done (by kernel_rfl) ?_ _
    refine NoPanic.normal ?_
    have hsz := hb01.size
    have b2 := h2.kept (grown_of hb01) (by simp)
    have b3 := h3.kept (grown_of hb01) (by simp)
    have bv := k4.kept (grown_of hb01) (by simp)
    have b4 := h4.kept (grown_of hb01) (by simp)
    have b5 := h5.kept (grown_of hb01) (by simp)
    have b0 := ((grown_of hb01).block w0.heap.size (by omega) (by simp)).trans h1
    have HKF := Lib.hid (show KeepsFrom wz.heap.size W W1 from KeepsFrom.of_grownBy (grown_of hb01) (fun j e => by cases e))
    have HB1 := Lib.hid (show Below base w0 W1 from h6.trans (hb01.mono (by omega)))
    have HB01 := Lib.hid hb01
    have HPS := Lib.hid hps
    clear hHeld KK p0 p1 p2' p3 p4 p5 c0 c1 hb2 HCL h1 h2 h3 h6 k4 hb01 hps
    cases ok with
    | false =>
      clear hg2 HG5 bv b4 b5 b0
      have r2c := b2.cell
      have r2f := b2.frozen
      have r3c := b3.cell
      have r3f := b3.frozen
      gi_wp2
      exact ⟨HKF.out.trans (((KeepsOthers.setCell _ _ _).trans (KeepsOthers.setCell _ _ _)).from _), rfl, (b2.set _).other (by omega) _, (b3.other (by omega) _).set _,
        (HB1.out.setCell (p := ⟨w0.heap.size + 1, 0, none⟩) (show base ≤ w0.heap.size + 1 by omega) _).setCell (p := ⟨w0.heap.size + 1 + 1, 0, none⟩) (show base ≤ w0.heap.size + 1 + 1 by omega) _,
        fun hgd => ⟨pre.length, (HK3.out hgd).2.2, two, by rw [(HK3.out hgd).1, (HK3.out hgd).2.1]; exact HPS.out⟩⟩
    | true =>
      have hs2 : s2.length = 2 := hg2.len.trans HPS.out.len2
      rcases hg2.own.shape with ⟨_, e⟩ | ⟨g2, c2, rfl, _⟩
      · rw [e] at hs2; cases hs2
      rw [hs2] at hg2 ⊢
      obtain ⟨i0, z0, hi, hz0, hz1, hz2, hz3⟩ := LSc_ok.info
      obtain ⟨k1, k2, k0, k3, k6, k8⟩ := HK2.out
      have HG1 := Lib.hid (HG5.out.below HB01.out)
      have HG2 := Lib.hid (show GridN W1 W.heap.size (.slice (some ⟨g2, 0, none⟩) 2 c2) two s2 from hg2)
      have hstl : st.length ≤ 64 := by have := HG5.out.len; omega
      have HL2 := Lib.hid (show (LSc.cells s2).length = 2 * 1 by rw [LSc_ok.cells_len, hs2]; rfl)
      have HS2 := Lib.hid hs2
      have bvc := bv.cell
      have bvf := bv.frozen
      have HV := Lib.hid (show ∀ k, v.ownBlock = some k → w0.heap.size + 6 ≤ k from fun k e => (HG1.out.own.lt k e).1)
      have HKR := Lib.hid (And.intro k1 (And.intro k2 (And.intro k0 (And.intro k3 (And.intro k6 k8)))))
      clear hg2 hs2 k1 k2 k0 k3 k6 k8 HK2
      gi_wp2_with (gi_at_builtin; refine wpListIn_append_own_at _ rfl (.tmp 26) (.tmp 27) 24 rfl (w0.heap.size + 6) 40 i0 z0 1 24 LSc_ok.und hi hz0 hz1 hz2 hz3 (by decide) v st.length (LSc.cells st) rfl HG1.out.own ⟨g2, 0, none⟩ 2 c2 (LSc.cells s2) rfl HL2.out (World.ownsRow.cells HG2.out.own rfl) (LSc_ok.cells_1 s2) (by unfold maxLen; omega) (by omega) (by omega) ?_
                   intro v6 w6 hown6 hg6 hnil6 hat6
                   obtain ⟨g6, c6, rfl⟩ := ownsRow_succ hown6
                   have HG6 := Lib.hid hg6
                   have bv6 : Boxed w6 (w0.heap.size + 1 + 1 + 1) 24 v := bv.kept hg6 (fun e => by have := HV.out _ e.symm; omega)
                   have bvc6 := bv6.cell
                   have bvf6 := bv6.frozen
                   have HC7 := Lib.hid (((HKR.out.2.1.below HB01.out).turn (Turn.of hg6) (fun e => by have := HV.out _ e; omega) (fun i hi k hk e => by have := HKR.out.2.2.1 i hi k hk; have := HV.out k e; omega)).turn (Turn.grown (Lib.grownBy_setCell w6 (w0.heap.size + 1 + 1 + 1) 0 (.slice (some ⟨g6, 0, none⟩) (st.length + 2) c6))) (fun e => by have := Option.some.inj e; omega) (fun i hi k hk e => by have := HKR.out.2.2.1 i hi k hk; have := Option.some.inj e; omega))
                   obtain ⟨cells7, q1, q2, _⟩ := HC7.out.block
                   have hclr := fun ty => clear_pair (p := p) q1 (by have := HKR.out.1; omega) ty 2)
      have HT : Turn W1 (((w6.setCell ⟨w0.heap.size + 1 + 1 + 1, 0, none⟩ (.slice (some ⟨g6, 0, none⟩) (st.length + 2) c6)).setCell ⟨g, p, none⟩ (.slice none 0 0)).setCell ⟨g, p + 1, none⟩ (.slice none 0 0)) (fun k => v.ownBlock = some k ∨ k = w0.heap.size + 1 + 1 + 1 ∨ k = g) :=
        (((Turn.of HG6.out).mono (fun k _ e => .inl e)).trans ((Turn.grown (Lib.grownBy_setCell w6 (w0.heap.size + 1 + 1 + 1) 0 _)).mono (fun k _ e => .inr (.inl (Option.some.inj e).symm)))).trans
          (((Turn.grown (Lib.grownBy_setCell _ g p _)).mono (fun k _ e => .inr (.inr (Option.some.inj e).symm))).trans ((Turn.grown (Lib.grownBy_setCell _ g (p + 1) _)).mono (fun k _ e => .inr (.inr (Option.some.inj e).symm))))
      have hfar : ∀ B, g < B → B < w0.heap.size + 6 → B ≠ w0.heap.size + 1 + 1 + 1 → ¬ (v.ownBlock = some B ∨ B = w0.heap.size + 1 + 1 + 1 ∨ B = g) := fun B e1 e2 e3 e => by
        rcases e with e | e | e
        · have := HV.out B e; omega
        · exact e3 e
        · omega
      have n4 : Boxed (((w6.setCell ⟨w0.heap.size + 1 + 1 + 1, 0, none⟩ (.slice (some ⟨g6, 0, none⟩) (st.length + 2) c6)).setCell ⟨g, p, none⟩ (.slice none 0 0)).setCell ⟨g, p + 1, none⟩ (.slice none 0 0)) (w0.heap.size + 4) 65 (.slice (some ⟨g, 0, none⟩) N cap) := (HT.block _ b4.lt (hfar _ (by omega) (by omega) (by omega))).trans b4
      have n5 : Boxed (((w6.setCell ⟨w0.heap.size + 1 + 1 + 1, 0, none⟩ (.slice (some ⟨g6, 0, none⟩) (st.length + 2) c6)).setCell ⟨g, p, none⟩ (.slice none 0 0)).setCell ⟨g, p + 1, none⟩ (.slice none 0 0)) (w0.heap.size + 5) 3 (.int .i64 2) := (HT.block _ b5.lt (hfar _ (by omega) (by omega) (by omega))).trans b5
      have ho6 : LSc.Own w6 (w0.heap.size + 6) (.slice (some ⟨g6, 0, none⟩) (st.length + 2) c6) (st ++ s2) := by
        unfold Lay.Own
        rw [List.length_append, HS2.out, Lay.cells_append]
        exact hown6
      have hJ := gridN_join HG5.out (by omega) HB01.out HG2.out ho6 HG6.out (hat6.imp (fun e => e.symm) (fun e => Option.some.inj e))
      have hJ7 := hJ.turn (Turn.grown (Lib.grownBy_setCell w6 (w0.heap.size + 1 + 1 + 1) 0 (.slice (some ⟨g6, 0, none⟩) (st.length + 2) c6))) (fun k hk e => by have := (hJ.lt k hk).1; have := Option.some.inj e; omega)
      have hJ8 := hJ7.turn (Turn.grown (Lib.grownBy_setCell _ g p (.slice none 0 0))) (fun k hk e => by have := (hJ7.lt k hk).1; have := Option.some.inj e; omega)
      have hJ9 := hJ8.turn (Turn.grown (Lib.grownBy_setCell _ g (p + 1) (.slice none 0 0))) (fun k hk e => by have := (hJ8.lt k hk).1; have := Option.some.inj e; omega)
      have hrow7 := bv6.set (.slice (some ⟨g6, 0, none⟩) (st.length + 2) c6)
      have hrow8 := hrow7.kept (Lib.grownBy_setCell _ g p (.slice none 0 0)) (fun e => by have := Option.some.inj e; omega)
      have hrows := hrow8.kept (Lib.grownBy_setCell _ g (p + 1) (.slice none 0 0)) (fun e => by have := Option.some.inj e; omega)
      obtain ⟨k1, k2, k0, k3, k6, k8⟩ := HKR.out
      have hget : ∀ i (hi : i < ((cur.set p nilL).set (p + 1) nilL).length), ((cur.set p nilL).set (p + 1) nilL)[i] = nilL ∨ ∃ h' : i < cur.length, ((cur.set p nilL).set (p + 1) nilL)[i] = cur[i] := fun i hi => by
        by_cases e1 : i = p + 1
        · subst e1; exact .inl (by rw [List.getElem_set_self])
        · rw [List.getElem_set_ne (by omega)]
          by_cases e2 : i = p
          · subst e2; exact .inl (by rw [List.getElem_set_self])
          · rw [List.getElem_set_ne (by omega)]; exact .inr ⟨by simpa using hi, rfl⟩
      refine ⟨HKF.out.trans (((((KeepsOthers.of_grownBy HG6.out (fun j o e ho => by
          obtain ⟨o', e1, e2⟩ := HG1.out.isCells (.inl e)
          rw [ho] at e1; cases e1; exact e2)).trans (KeepsOthers.setCell _ _ _)).trans (KeepsOthers.setCell _ _ _)).trans (KeepsOthers.setCell _ _ _)).from _), ⟨n4.trans h4.symm, n5.trans h5.symm⟩,
        (HT.block _ (Array.getElem?_eq_some_iff.1 b0).1 (hfar _ hglt (by omega) (by omega))).trans b0, (HT.block _ b2.lt (hfar _ (by omega) (by omega) (by omega))).trans b2, (HT.block _ b3.lt (hfar _ (by omega) (by omega) (by omega))).trans b3, n4, n5,
        Turn.below HB1.out (by omega) HT (fun k e => by
          rcases e with e | e | e
          · have := HV.out k e; omega
          · omega
          · omega), Nat.le_trans (by omega) HT.size, (cur.set p nilL).set (p + 1) nilL, _, _, _, by rw [List.length_set, List.length_set]; exact k1, HC7.out.wipe p, fun i hi k hk => ?_, fun hgd i hi hi' hle => ?_, hrows, hJ9, ?_, fun hgd => ?_⟩
      · rcases hget i hi with e | ⟨h', e⟩
        · rw [e] at hk; cases hk
        · rw [e] at hk; exact k0 i h' k hk
      · obtain ⟨g1, g2⟩ := good_snoc hgd
        have hpp : p = 2 * pre.length := by have : q = pre.length := g2; have := HP.out; omega
        rw [List.length_append, List.length_singleton] at hle
        rw [List.getElem_set_ne (by omega), List.getElem_set_ne (by omega)]
        exact k3 g1 i (by simpa using hi) hi' (by omega)
      · rw [List.length_append, List.length_append, List.length_singleton, HPS.out.len2]; omega
      · rw [List.length_append, List.length_singleton]
        exact (k8 (good_snoc hgd).1).next (by rw [(HK3.out hgd).1, (HK3.out hgd).2.1]; exact HPS.out)
  case done =>
    rintro D ys W hD rfl ⟨h1, h2, h3, h4, h5, h6, h7, cur, v, out, st, k1, k2, k0, k3, k4, k5, k6, k8⟩ hK
    have hgd : Good (idxF m m (Nat.le_refl m)) := good_pre (List.prefix_refl _)
    have HTK := Lib.hid (k8 hgd)
    obtain ⟨av, cv, rfl, _⟩ := k5.rows.any
    obtain ⟨nst, hnst⟩ : ∃ n, st.length = n := ⟨_, rfl⟩
    rw [hnst] at k4 k5
    clear hnst
    have HG := Lib.hid k5
    have c1 := h2.cell
    have f1 := h2.frozen
    have c2 := h3.cell
    have f2 := h3.frozen
    have c3 := k4.cell
    clear k1 k2 k0 k3 k5 k6 k8 h1 h4 h5
    gi_wp2
    have hK' := (((KeepsOthers.setCell W ⟨w0.heap.size + 1, 0, none⟩ (.slice av nst cv)).trans (KeepsOthers.setCell _ ⟨w0.heap.size + 1 + 1, 0, none⟩ (.bool true))).same D _ hK rfl)
    refine ⟨by simp, .inl ⟨_, _, rfl, run_takeDeferred hK', ?_⟩⟩
    have n1 : Boxed ((W.setCell ⟨w0.heap.size + 1, 0, none⟩ (.slice av nst cv)).setCell ⟨w0.heap.size + 1 + 1, 0, none⟩ (.bool true)) (w0.heap.size + 1) 24 (.slice av nst cv) := (h2.set _).other (by omega) _
    have n2 : Boxed ((W.setCell ⟨w0.heap.size + 1, 0, none⟩ (.slice av nst cv)).setCell ⟨w0.heap.size + 1 + 1, 0, none⟩ (.bool true)) (w0.heap.size + 1 + 1) 4 (.bool true) := (h3.other (by omega) _).set _
    have r1 := cell_kept n1.cell (grownBy_putObj' _ D (.deferred none)) (fun r e => by cases e; exact ⟨_, hK', rfl⟩)
    have r2 := cell_kept n2.cell (grownBy_putObj' _ D (.deferred none)) (fun r e => by cases e; exact ⟨_, hK', rfl⟩)
    have g1 := HG.out.turn (Turn.grown (Lib.grownBy_setCell W (w0.heap.size + 1) 0 (.slice av nst cv))) (fun k hk e => by have := (HG.out.lt k hk).1; have := Option.some.inj e; omega)
    have g2 := g1.turn (Turn.grown (Lib.grownBy_setCell _ (w0.heap.size + 1 + 1) 0 (.bool true))) (fun k hk e => by have := (g1.lt k hk).1; have := Option.some.inj e; omega)
    have g3 := g2.ownC (grownBy_putObj' _ D (.deferred none)) (fun r e => by cases e; exact ⟨_, hK', rfl⟩)
    refine ⟨.tuple #[.slice av nst cv, .bool true], ?_, .slice av nst cv, out, st, true, rfl, .inl ⟨rfl, ?_⟩, g3.mono (by omega), ((h6.setCell (p := ⟨w0.heap.size + 1, 0, none⟩) (show base ≤ w0.heap.size + 1 by omega) _).setCell (p := ⟨w0.heap.size + 1 + 1, 0, none⟩) (show base ≤ w0.heap.size + 1 + 1 by omega) _).trans ((belowK_b (w := w0) (Nat.le_refl _) _ D _ _ (by omega) hK' rfl rfl).mono hbase)⟩
    · simp [results, Tryz.f33, go_sem, r1, r2]
    · have := HTK.out
      rwa [idxF_len] at this
  case stop =>
    rintro D c pre W hD hpre ⟨rfl, h2, h3, h6, h7⟩ hK
    have HBAD := Lib.hid (h7 (good_pre hpre))
    clear h7
    gi_wp2
    refine ⟨by simp, .inl ⟨_, _, rfl, run_takeDeferred hK, ?_⟩⟩
    have r1 := cell_kept h2.cell (grownBy_putObj' _ D (.deferred none)) (fun r e => by cases e; exact ⟨_, hK, rfl⟩)
    have r2 := cell_kept h3.cell (grownBy_putObj' _ D (.deferred none)) (fun r e => by cases e; exact ⟨_, hK, rfl⟩)
    refine ⟨.tuple #[.slice none 0 0, .bool false], ?_, .slice none 0 0, [], [], false, rfl, .inr ⟨rfl, rfl, HBAD.out⟩, GridN.nil0 _ _, h6.trans ((belowK_b (w := w0) (Nat.le_refl _) _ D _ _ (by omega) hK rfl rfl).mono hbase)⟩
    simp [results, Tryz.f33, go_sem, r1, r2]
end Go.Proofs.YtobpnoiienpipaaGreat
