/-
  What is proved: the model's copy of a set.
  Conditions: the log can be read.
-/
import Derived.Test.YtobpnoiienpipaaDoorTuneV
namespace Go.Proofs.YtobpnoiienpipaaDoor
set_option linter.unusedVariables false
open Go.RowKit
attribute [local go_sem] run_store_float run_store_complex unary_negf neg256

theorem run_app_none {P : Program} {w : World} {t ty e : TypeId} {i : TypeInfo} (hu : P.underlying t = some (.slice e)) (hi : P.info? e = some i) (a0 x : Option Addr) (l c cx : Nat) (hlc : l ≤ c) :
    (Builtin.append_ #[t, t] ty #[.slice a0 l c, .slice x 0 cx]).run P w = .ok (.slice a0 l c) w := by
  cases a0 <;> cases x <;> simp [Builtin.append_, run_underlying hu, sizeOf, typeInfo, hi, Builtin.lenOf, Builtin.firstCells, loadCells, loadCellsFrom, storeCells, hlc]
/-- Any list of texts is appended. -/
theorem ownS_row {ops : Array Oper} {rest : List Oper} {o : Oper} {a : Act} {w : World} {Q : Exit → Act → World → Prop} (hgd : o.guard = none) (s x : Operand)
    (ho : o.op = .call { callee := .builtin .append, args := #[s, x], argTypes := #[25, 25] })
    (base g0 n cap0 : Nat) (xs ys : List (List UInt8)) (hs : a.eval s = .slice (some ⟨g0, 0, none⟩) n cap0) (hn : xs.length = n) (hown : OwnS w base (.slice (some ⟨g0, 0, none⟩) n cap0) xs)
    (vx : Value) (hx : a.eval x = vx) (hrow : TRow w vx ys) (m : Nat) (hm : ys.length = m) (hlen : n + m ≤ 100000000) (hbase : base ≤ w.heap.size)
    (h : ∀ g cap w', OwnS w' base (.slice (some ⟨g, 0, none⟩) (n + m) cap) (xs ++ ys) → w.grownBy w' (some g0) → g < w'.heap.size → wpList Tryd.prog ops Q rest (a.put o.dst (.slice (some ⟨g, 0, none⟩) (n + m) cap)) w') :
    wpList Tryd.prog ops Q (o :: rest) a w := by
  subst hn hm
  obtain ⟨i0, hi, hz0, hz1, hz2⟩ := info_parts info_str
  by_cases h0 : ys.length = 0
  · obtain rfl : ys = [] := List.length_eq_zero_iff.1 h0
    obtain ⟨ax, cx, rfl⟩ := hrow.lenv
    rcases hown.shape with ⟨hk, _⟩ | ⟨g, cap, hk, hb, hg, hc, _⟩
    · cases hk
    · cases hk
      refine wpList_plain hgd fun K hK' => ?_
      have hrun := run_app_none (P := Tryd.prog) (w := w) (ty := o.type) Tryd.underlying25 hi (some ⟨g0, 0, none⟩) ax xs.length cap0 cx hc
      unfold Oper.wp
      simp [execOp, ho, resolve, invoke, builtin, hs, hx, hrun, Result.andThen]
      exact hK' _ _ (by simpa using h g0 cap0 w (by simpa using hown) (World.grownBy.refl _ _) hg)
  · rcases hrow with ⟨_, rfl⟩ | ⟨g', o', c', rfl, hc', hcell⟩
    · exact absurd rfl h0
    · refine wpList_append_lies w hgd s x 25 ho base 9 i0 _ 1 16 Tryd.underlying25 hi hz0 hz1 hz2 rfl (by decide) _ xs.length _ hs hown ⟨g', o', none⟩ ys.length c' (ys.map strV) hx (by simp) ?_ ?_ (by omega) (by unfold maxLen; omega) (by omega) hbase w.heap.size rfl ?_
      · intro j u hu
        have hadd : (⟨g', o', none⟩ : Addr).add j = ⟨g', o' + j, none⟩ := by unfold Addr.add; split <;> simp_all
        rw [hadd]
        obtain ⟨hlt, rfl⟩ := List.getElem?_eq_some_iff.1 hu
        have hlt' : j < ys.length := by simpa using hlt
        rw [hcell j hlt']
        simp
      · intro u hu
        obtain ⟨y, _, rfl⟩ := List.mem_map.1 hu
        rfl
      · intro g cap w' h2 h3 h4 h5
        refine h g cap w' ?_ h3 h5
        unfold OwnS
        rw [List.length_append, List.map_append]
        exact h2
set_option maxRecDepth 100000 in
set_option maxHeartbeats 2000000 in
theorem l08Copy_any (x : SetC) (v : Value) (ls : List (List UInt8)) (w : World) (h : TRow w v ls) (hl : ls.length ≤ 3000000) :
    Calls Tryd.prog 63 #[x.val v] w fun e w' => ∃ v', e = .returned (x.val v') ∧ OwnS w' w.heap.size v' ls ∧ Below w.heap.size w w' := by
  have HR := Lib.hid h
  obtain ⟨a, c, rfl⟩ := h.lenv
  obtain ⟨xc, xr, xs, xl, xt⟩ := x
  obtain ⟨k1, k2, hsz, hbl⟩ := alloc2 w (.cells #[.int .i64 xc, .int .i64 xr, .float .f32 xs, .float .f32 xl, .float .f32 xt, .slice a ls.length c] 27) (.cells #[.int .i64 0, .int .i64 0, .float .f32 0, .float .f32 0, .float .f32 0, .slice none 0 0] 27)
  simp only [SetC.val, SetC.cells] at *
  clear h
  obtain ⟨o0, o1, o2, o3, o4, o5⟩ : SetAt (((w.alloc (.cells #[.int .i64 xc, .int .i64 xr, .float .f32 xs, .float .f32 xl, .float .f32 xt, .slice a ls.length c] 27)).alloc (.cells #[.int .i64 0, .int .i64 0, .float .f32 0, .float .f32 0, .float .f32 0, .slice none 0 0] 27)).alloc (.cells #[] 9)) w.heap.size ⟨xc, xr, xs, xl, xt⟩ (.slice a ls.length c) := SetAt.of ((alloc_keeps _ _ (by omega)).trans k1)
  have hbl3 := hbl.alloc hbl.size (.cells #[] 9)
  have hsz3 : (((w.alloc (.cells #[.int .i64 xc, .int .i64 xr, .float .f32 xs, .float .f32 xl, .float .f32 xt, .slice a ls.length c] 27)).alloc (.cells #[.int .i64 0, .int .i64 0, .float .f32 0, .float .f32 0, .float .f32 0, .slice none 0 0] 27)).alloc (.cells #[] 9)).heap.size = w.heap.size + 3 := by simp
  replace k1 := (alloc_keeps _ (.cells #[] 9) (by omega)).trans k1
  replace k2 := (alloc_keeps _ (.cells #[] 9) (by omega)).trans k2
  have hO0 := OwnS.made0 ((w.alloc (.cells #[.int .i64 xc, .int .i64 xr, .float .f32 xs, .float .f32 xl, .float .f32 xt, .slice a ls.length c] 27)).alloc (.cells #[.int .i64 0, .int .i64 0, .float .f32 0, .float .f32 0, .float .f32 0, .slice none 0 0] 27))
  rw [hsz] at hO0
  have HO0 := Lib.hid hO0
  clear hO0
  go_enter Tryd.func63, Tryd.ntmps63
  go_wp2_with (
    at_builtin
    refine ownS_row rfl (.tmp 3) (.tmp 5) rfl (w.heap.size + 2) (w.heap.size + 2) 0 0 [] ls rfl rfl HO0.out _ rfl (HR.out.below hbl3) ls.length rfl (by omega) (by omega) ?_
    intro g' c' w1 ho hg1 hgl
    have hb1 : Below (w.heap.size + 2) (((w.alloc (.cells #[.int .i64 xc, .int .i64 xr, .float .f32 xs, .float .f32 xl, .float .f32 xt, .slice a ls.length c] 27)).alloc (.cells #[.int .i64 0, .int .i64 0, .float .f32 0, .float .f32 0, .float .f32 0, .slice none 0 0] 27)).alloc (.cells #[] 9)) w1 := (Below.refl _ _).grown hg1 (by omega) (fun r hr => by cases hr; exact Nat.le_refl _)
    replace k1 := (hb1.block _ (by omega)).trans k1
    replace k2 := (hb1.block _ (by omega)).trans k2
    have HO := Lib.hid (show OwnS w1 (w.heap.size + 2) (.slice (some ⟨g', 0, none⟩) ls.length c') ls by simpa using ho)
    obtain ⟨p0, p1, p2, p3, p4, p5⟩ : (w1.cell? ⟨w.heap.size, 0, none⟩ = some (.int .i64 xc)) ∧ (w1.cell? ⟨w.heap.size, 1, none⟩ = some (.int .i64 xr)) ∧ (w1.cell? ⟨w.heap.size, 2, none⟩ = some (.float .f32 xs)) ∧ (w1.cell? ⟨w.heap.size, 3, none⟩ = some (.float .f32 xl)) ∧ (w1.cell? ⟨w.heap.size, 4, none⟩ = some (.float .f32 xt)) ∧ (w1.cell? ⟨w.heap.size, 5, none⟩ = some (.slice a ls.length c)) := by
      refine ⟨?_, ?_, ?_, ?_, ?_, ?_⟩ <;> simp [World.cell?, k1, Nat.add_assoc]
    obtain ⟨t0, t1, t2, t3, t4, t5⟩ : w1.frozen? ⟨w.heap.size, 0, none⟩ = false ∧ w1.frozen? ⟨w.heap.size, 1, none⟩ = false ∧ w1.frozen? ⟨w.heap.size, 2, none⟩ = false ∧ w1.frozen? ⟨w.heap.size, 3, none⟩ = false ∧ w1.frozen? ⟨w.heap.size, 4, none⟩ = false ∧ w1.frozen? ⟨w.heap.size, 5, none⟩ = false := by
      refine ⟨?_, ?_, ?_, ?_, ?_, ?_⟩ <;> simp [World.frozen?, k1, Nat.add_assoc]
    obtain ⟨r0, r1, r2, r3, r4, r5⟩ : (w1.cell? ⟨w.heap.size + 1, 0, none⟩ = some (.int .i64 0)) ∧ (w1.cell? ⟨w.heap.size + 1, 1, none⟩ = some (.int .i64 0)) ∧ (w1.cell? ⟨w.heap.size + 1, 2, none⟩ = some (.float .f32 0)) ∧ (w1.cell? ⟨w.heap.size + 1, 3, none⟩ = some (.float .f32 0)) ∧ (w1.cell? ⟨w.heap.size + 1, 4, none⟩ = some (.float .f32 0)) ∧ (w1.cell? ⟨w.heap.size + 1, 5, none⟩ = some (.slice none 0 0)) := by
      refine ⟨?_, ?_, ?_, ?_, ?_, ?_⟩ <;> simp [World.cell?, k2, Nat.add_assoc]
    obtain ⟨s0, s1, s2, s3, s4, s5⟩ : w1.frozen? ⟨w.heap.size + 1, 0, none⟩ = false ∧ w1.frozen? ⟨w.heap.size + 1, 1, none⟩ = false ∧ w1.frozen? ⟨w.heap.size + 1, 2, none⟩ = false ∧ w1.frozen? ⟨w.heap.size + 1, 3, none⟩ = false ∧ w1.frozen? ⟨w.heap.size + 1, 4, none⟩ = false ∧ w1.frozen? ⟨w.heap.size + 1, 5, none⟩ = false := by
      refine ⟨?_, ?_, ?_, ?_, ?_, ?_⟩ <;> simp [World.frozen?, k2, Nat.add_assoc]
    have hbw : Below w.heap.size w w1 := hbl3.trans (hb1.mono (by omega))
    clear ho k1 k2 o0 o1 o2 o3 o4 o5 hg1 hb1)
  refine bodyPost_ret (v := .agg #[.int .i64 xc, .int .i64 xr, .float .f32 xs, .float .f32 xl, .float .f32 xt, .slice (some ⟨g', 0, none⟩) ls.length c']) ?_ rfl ⟨_, rfl, ?_, ?_⟩
  · simp [results, Tryd.results63, go_sem, r0, r1, r2, r3, r4, r5]
  · refine (HO.out.same (fun k hk _ => ?_)).low (by omega)
    have e1 : ¬ w.heap.size + 1 = k := by omega
    have e2 : ¬ w.heap.size = k := by omega
    simp [World.setCell, Array.getElem?_modify, e1, e2]
  · exact (((((((hbw.setCell (p := ⟨_, _, none⟩) (by simp) _).setCell (p := ⟨_, _, none⟩) (by simp) _).setCell (p := ⟨_, _, none⟩) (by simp) _).setCell (p := ⟨_, _, none⟩) (by simp) _).setCell (p := ⟨_, _, none⟩) (by simp) _).setCell (p := ⟨_, _, none⟩) (by simp) _).setCell (p := ⟨_, _, none⟩) (by simp) _)
end Go.Proofs.YtobpnoiienpipaaDoor
