/-
  What is proved: the walk of the program's Lows.
  Conditions: the stream can be read.
-/
import Derived.Maps.OwnIn
import Derived.RangeFuncNested
import Derived.RangeFuncBox
import Derived.Test.YtobpnoiienpipaaGreatPz14
import Derived.Test.YtobpnoiienpipaaGreatDecode
import Derived.Test.YtobpnoiienpipaaGreatPz04
import Derived.Test.YtobpnoiienpipaaGreatPz05
namespace Go.Proofs.YtobpnoiienpipaaGreat
set_option linter.unusedVariables false
open Go.RowKit Go.Shelf
attribute [local go_sem] run_store_float run_store_complex unary_negf neg256 Oper.semAt_some

/-- Between two rounds of the loop that collects: the box holds a slice that owns what has come. -/
def ApI (wA : World) (pre : List R2) (W : World) : Prop := ∃ v, Boxed W wA.heap.size 103 v ∧ LR.Own W wA.heap.size v pre ∧ Below wA.heap.size wA W
theorem apI_own (wA : World) (B : Nat) (hB : wA.heap.size ≤ B) : OwnFrom B (ApI wA) := by
  rintro pre X Y row ⟨v, hb, ho, h3⟩ hg hr
  obtain ⟨v', k1, k2, _⟩ := holdsRow_own wA.heap.size wA.heap.size 103 106 2 (fun s : List R2 => s.length) LR.cells (fun _ _ => True) pre X Y row ⟨v, hb, ho, trivial⟩ hg (fun r e => (hr r e).2)
  exact ⟨v', k1, k2, h3.grown hg h3.size (fun r e => Nat.le_trans hB (hr r e).1)⟩
theorem KeepR.appended {lo Bb : Nat} {W w3 : World} {v v' : Value} {pre post : List R2} {tmp : Obj} (hv : Boxed W Bb 103 v) (hown : LR.Own W lo v pre) (hlo : lo ≤ W.heap.size) (hB : lo ≤ Bb)
    (hown' : LR.Own w3 lo v' post) (hg3 : (W.alloc tmp).grownBy w3 v.ownBlock) (hat : v'.ownBlock = v.ownBlock ∨ v'.ownBlock = some (W.alloc tmp).heap.size) :
    KeepR lo Bb W (w3.setCell ⟨Bb, 0, none⟩ v') ∧ KeepsOthers W (w3.setCell ⟨Bb, 0, none⟩ v') ∧ Boxed (w3.setCell ⟨Bb, 0, none⟩ v') Bb 103 v' ∧ LR.Own (w3.setCell ⟨Bb, 0, none⟩ v') lo v' post ∧ Below lo W (w3.setCell ⟨Bb, 0, none⟩ v') := by
  obtain ⟨q1, q2, q3, q4, q5⟩ := hv.appended (by decide) hown hlo hB hown' hg3
  refine ⟨⟨q5, fun u hu => ?_⟩, q4, q2, q3, q5⟩
  obtain rfl : u = v := by
    have h1 := hu.box
    unfold Boxed at h1 hv
    rw [h1] at hv
    simpa using hv
  refine ⟨⟨v', ⟨q2, by have := q5.size; omega, fun k e => World.ownsRow.lt q3 k e⟩, ?_⟩, fun b o hb hc hne hno => ?_⟩
  · rcases hat with e | e
    · exact .inl e
    · refine .inr (fun k hk => ?_)
      rw [e] at hk
      have : (W.alloc tmp).heap.size = k := Option.some.inj hk
      rw [← this]
      simp
  · have hlt := (Array.getElem?_eq_some_iff.1 hb).1
    have h1 : (W.alloc tmp).heap[b]? = some o := (Below.heap_alloc _ _ b hlt).trans hb
    have h2 := (hg3.block b (Array.getElem?_eq_some_iff.1 h1).1 (fun e => hno e.symm)).trans h1
    exact ((grownBy_setCell' w3 Bb v').block b (Array.getElem?_eq_some_iff.1 h2).1 (fun e => hne (Option.some.inj e))).trans h2
theorem lowRuns_hands (n : Nat) (hn : 1 ≤ n) (w0 w1 : World) (Bs Bn Bb : Nat) (ad : Option Addr) (cap L : Nat) (xs : List Nat) (s : Nat) (hx : FRow w0 (.slice ad L cap) xs) (hL : xs.length = L) (hl : L ≤ 20000)
    (hw : Below w0.heap.size w0 w1) (hr : BoxIn w0.heap.size w1 Bb (.slice none 0 0)) (hBs : w0.cell? ⟨Bs, 0, none⟩ = some (.slice ad L cap)) (hBn : w0.cell? ⟨Bn, 0, none⟩ = some (.float .f32 s)) :
    SeqStopsK Fence.wide n Tryz.prog 144 #[.pointer (some ⟨Bs, 0, none⟩), .pointer (some ⟨Bn, 0, none⟩)] (fun x : R2 => #[runV x]) (KeepR w0.heap.size Bb) (fun ys => ys = (lowsK xs s (L + 1)).1) (fun _ => True) (L + 1) w1 :=
  fun l J Jx W hW hJ hJx hY h0 => lowRuns1_in n hn w0 l Bs Bn Bb ad cap L xs s hx hL hl J Jx _ hJ hY W (hw.trans (hW.mono hw.size)) (.slice none 0 0) (hr.grown (grown_of hW)) hBs hBn h0
/-- The loop's temporaries: the box is block lo, the run at hand lies in block p. -/
def asTmps (lo p : Nat) (sv : Value) (x : R2) : Array Value := #[.slice none 0 0, sv, .pointer (some ⟨lo, 0, none⟩), undef, .slice none 0 0, .pointer (some ⟨p, 0, none⟩), sv, .agg #[.int .i64 (x.1 : Int), .int .i64 (x.2 : Int)], undef, undef, undef, undef, undef]
set_option maxRecDepth 100000 in
set_option maxHeartbeats 8000000 in
theorem appendSeq_in (wA : World) (Bs Bn : Nat) (ad : Option Addr) (cap L : Nat) (xs : List Nat) (s : Nat) (hx : FRow wA (.slice ad L cap) xs) (hL : xs.length = L) (hl : L ≤ 20000) (hBs : wA.cell? ⟨Bs, 0, none⟩ = some (.slice ad L cap)) (hBn : wA.cell? ⟨Bn, 0, none⟩ = some (.float .f32 s)) :
    CallsIn Fence.wide 3 Tryz.prog 143 #[.slice none 0 0, .func (.func 144) #[] #[.pointer (some ⟨Bs, 0, none⟩), .pointer (some ⟨Bn, 0, none⟩)]] wA fun e w' => LR.Got (lowsK xs s (L + 1)).1 wA e w' := by
  refine callsIn_of_wp_marks Tryz.func143 rfl trivial ?_ rfl
  simp only [Tryz.ntmps143, List.size_toArray, List.length_cons, List.length_nil, Nat.reduceAdd, Nat.reduceSub, Array.replicate_succ, Array.replicate_zero, List.push_toArray, List.append_toArray, List.nil_append, List.cons_append]
  have hb1 : Below wA.heap.size wA (wA.alloc (.cells #[.slice none 0 0] 103)) := (Below.refl _ wA).alloc (Nat.le_refl _) _
  have hbox := Boxed.new wA 103 (.slice none 0 0)
  have hs1 : (wA.alloc (.cells #[.slice none 0 0] 103)).heap.size = wA.heap.size + 1 := by simp
  gi_wp2
  generalize wA.alloc (.cells #[.slice none 0 0] 103) = w1 at *
  have HSQ := Lib.hid (lowRuns_hands 2 (by omega) wA w1 Bs Bn wA.heap.size ad cap L xs s hx hL hl hb1 ⟨hbox, hb1.size, fun k e => by cases e⟩ hBs hBn)
  obtain ⟨i0, z0, hi, hz0, hz1, hz2, hz3⟩ := LR_ok.info
  have HI0 := Lib.hid (show ApI wA [] w1 from ⟨_, hbox, LR.ownNil _ _, hb1⟩)
  refine wpIn_rangeFunc_ownH rfl (by omega) (gf := 144) (lb := #[.pointer (some ⟨Bs, 0, none⟩), .pointer (some ⟨Bn, 0, none⟩)]) rfl trivial (enters_of Tryz.func144 (by kernel_rfl) rfl) HSQ.out (fun h k => h.trans k) (KeepR.put (by omega)) (Below.refl _ _) (fun _ => rfl)
    (ApI wA)
    (fun _ _ _ => False)
    (apI_own wA _ (by omega))
    (fun _ _ _ _ _ hs _ _ => hs)
    HI0.out
    (fun x a' W => ∃ p, a' = { tmps := asTmps wA.heap.size p (.func (.func 144) #[] #[.pointer (some ⟨Bs, 0, none⟩), .pointer (some ⟨Bn, 0, none⟩)]) x, defers := [] } ∧ W.heap[p]? = some (.cells #[.int .i64 (x.1 : Int), .int .i64 (x.2 : Int)] 106 (0, 0)))
    ?hAx ?assign ?body ?done ?stop
  case hAx =>
    rintro x a' _ X Y row ⟨p, h1, h2⟩ hg hr
    refine ⟨p, h1, (hg.block p (Array.getElem?_eq_some_iff.1 h2).1 (fun e => ?_)).trans h2⟩
    obtain ⟨_, o, ho, hc⟩ := hr p e.symm
    rw [h2] at ho
    cases ho
    cases hc
  case assign =>
    intro l pre x W K hi hK
    have hg := World.grownBy_alloc W (.cells #[.int .i64 (x.1 : Int), .int .i64 (x.2 : Int)] 106) none
    have HKK := Lib.hid (hK { tmps := asTmps wA.heap.size W.heap.size (.func (.func 144) #[] #[.pointer (some ⟨Bs, 0, none⟩), .pointer (some ⟨Bn, 0, none⟩)]) x, defers := [] } _ ((KeepsOthers.alloc _ _).from _) (KeepR.grown (by obtain ⟨_, _, _, h⟩ := hi; exact h.size) hg) (by obtain ⟨v, h1, h2, h3⟩ := hi; exact ⟨v, h1.alloc _, h2.alloc _, h3.alloc h3.size _⟩) ⟨_, rfl, heap_alloc_new W _⟩)
    clear hK hg
    unfold runV
    gi_wp2
    exact HKK.out
  case body =>
    rintro l pre x a' W hlw hrec ⟨v, hv, hown, hbel⟩ ⟨p, rfl, hp⟩ hlen
    have hc := hv.cell
    have hp0 := cell_of_row _ _ 0 _ _ _ hp
    have hp1 := cell_of_row _ _ 1 _ _ _ hp
    have hlo : wA.heap.size ≤ W.heap.size := hbel.size
    have HV := Lib.hid (And.intro hv (And.intro hown hbel))
    have HNW := Lib.hid (World.news_of_block (heap_alloc_new W (.cells #[.int .i64 (x.1 : Int), .int .i64 (x.2 : Int)] 106)))
    unfold asTmps
    clear hv hown hbel hp hrec
    gi_wp2_with (first
      | (gi_at_builtin; refine wpListIn_append_own_at _ rfl (.tmp 8) (.tmp 10) 103 rfl wA.heap.size 106 i0 z0 2 16 LR_ok.und hi hz0 hz1 hz2 hz3 (by decide) _ pre.length (LR.cells pre) rfl (HV.out.2.1.alloc _) ⟨W.heap.size, 0, none⟩ 1 1 [.int .i64 (x.1 : Int), .int .i64 (x.2 : Int)] rfl rfl HNW.out (by simp [Value.oneCell']) (by unfold maxLen; omega) (by omega) (by simp; omega) ?_; intro v' w3 hown' hg3 hnil3 hat3
         obtain ⟨g', cap', rfl⟩ := ownsRow_succ hown'
         have hown2 : LR.Own w3 wA.heap.size (.slice (some ⟨g', 0, none⟩) (pre.length + 1) cap') (pre ++ [x]) := by unfold Lay.Own; rw [List.length_append, Lay.cells_append, Lay.cells_one]; exact hown'
         have hq1 := (HV.out.1.appended (by decide) HV.out.2.1 hlo (Nat.le_refl _) hown' hg3).1
         have HF := Lib.hid (KeepR.appended HV.out.1 HV.out.2.1 hlo (Nat.le_refl _) hown2 hg3 hat3)
         have hc3 := hq1.cell
         have hf3 := hq1.frozen
         clear hown' hown2 hg3 hnil3 hat3 hq1
         go_frame))
    exact ⟨HF.out.2.1.from _, HF.out.1, _, HF.out.2.2.1, HF.out.2.2.2.1, HV.out.2.2.trans HF.out.2.2.2.2⟩
  case done =>
    rintro D ys W hD rfl ⟨v, hv, hown, hbel⟩ hK
    have hc := hv.cell
    gi_wp2
    refine ⟨by simp, .inl ⟨_, _, rfl, run_takeDeferred hK, ?_⟩⟩
    refine ⟨_, results_tmp rfl _ _ _, v, rfl, ?_, ?_⟩
    · exact ownsRow_putObj hown _ hK rfl
    · exact hbel.trans (belowK_b (w := wA) (Nat.le_refl _) W D _ _ (by omega) hK rfl rfl)
  case stop =>
    rintro D c pre W _ _ h _
    exact h.elim
theorem collect_any (wA : World) (Bs Bn : Nat) (ad : Option Addr) (cap L : Nat) (xs : List Nat) (s : Nat) (hx : FRow wA (.slice ad L cap) xs) (hL : xs.length = L) (hl : L ≤ 20000) (hBs : wA.cell? ⟨Bs, 0, none⟩ = some (.slice ad L cap)) (hBn : wA.cell? ⟨Bn, 0, none⟩ = some (.float .f32 s)) :
    Calls Tryz.prog 119 #[.func (.func 144) #[] #[.pointer (some ⟨Bs, 0, none⟩), .pointer (some ⟨Bn, 0, none⟩)]] wA fun e w' => LR.Got (lowsK xs s (L + 1)).1 wA e w' := by
  have HA := Lib.hid (callsIn_wide.1 (appendSeq_in wA Bs Bn ad cap L xs s hx hL hl hBs hBn))
  clear hx hL hBs hBn
  generalize (lowsK xs s (L + 1)).1 = rs at *
  go_enter Tryz.func119, Tryz.ntmps119
  go_wp2_with fail
  refine HA.out.mono ?_
  rintro e w2 ⟨v, rfl, ho, hb⟩
  have HO := Lib.hid ho
  clear ho
  go_wp2
  go_ret
  exact Lay.Got.mk HO.out hb
theorem lowRuns_any (a : Option Addr) (m c s : Nat) (w : World) :
    Calls Tryz.prog 120 #[.slice a m c, .float .f32 s] w fun e w' => e = .returned (.func (.func 144) #[] #[.pointer (some ⟨w.heap.size, 0, none⟩), .pointer (some ⟨w.heap.size + 1, 0, none⟩)]) ∧ w' = (w.alloc (.cells #[.slice a m c] 31)).alloc (.cells #[.float .f32 s] 25) := by
  go_enter Tryz.func120, Tryz.ntmps120
  go_wp2
  go_ret
  exact ⟨rfl, rfl⟩
set_option maxHeartbeats 1000000 in
theorem lows_any (v : Value) (xs : List Nat) (s : Nat) (w : World) (h : FRow w v xs) (hl : xs.length ≤ 4000000) :
    Calls Tryz.prog 94 #[v, .float .f32 s] w fun e w' => LR.Got (lows xs s) w e w' := by
  have hrow := h
  obtain ⟨av, cv, rfl⟩ := h.lenv
  clear h
  by_cases hbig : 20000 < xs.length
  · have HN := Lib.hid (show lows xs s = [] by unfold lows; rw [if_neg (by omega)])
    have hbi : (20000 : Int) < (xs.length : Int) := by omega
    clear hrow
    go_enter Tryz.func94, Tryz.ntmps94
    go_wp2
    go_ret
    rw [HN.out]
    exact Lay.Got.mk (LR.ownNil _ _) (Below.refl _ _)
  · have HN := Lib.hid (show lows xs s = (lowsK xs s (xs.length + 1)).1 by unfold lows; rw [if_pos (by omega)])
    have HLR := Lib.hid (lowRuns_any av xs.length cv s w)
    have hbi : ¬ (20000 : Int) < (xs.length : Int) := by omega
    have hb1 : Below w.heap.size w ((w.alloc (.cells #[.slice av xs.length cv] 31)).alloc (.cells #[.float .f32 s] 25)) := ((Below.refl _ w).alloc (Nat.le_refl _) _).alloc (by simp) _
    have hc1 : ((w.alloc (.cells #[.slice av xs.length cv] 31)).alloc (.cells #[.float .f32 s] 25)).cell? ⟨w.heap.size, 0, none⟩ = some (.slice av xs.length cv) := (cell_of_row _ _ 0 _ _ _ ((Below.heap_alloc _ _ _ (by simp)).trans (heap_alloc_new w _))).trans rfl
    have hc2 : ((w.alloc (.cells #[.slice av xs.length cv] 31)).alloc (.cells #[.float .f32 s] 25)).cell? ⟨w.heap.size + 1, 0, none⟩ = some (.float .f32 s) := by
      have h2 := cell_of_row _ _ 0 _ _ _ (heap_alloc_new (w.alloc (.cells #[.slice av xs.length cv] 31)) (.cells #[.float .f32 s] 25))
      rw [World.size_alloc] at h2
      exact h2.trans rfl
    have HCO := Lib.hid (collect_any _ w.heap.size (w.heap.size + 1) av cv xs.length xs s (hrow.below hb1) rfl (by omega) hc1 hc2)
    clear hrow hc1 hc2
    generalize hwA : (w.alloc (.cells #[.slice av xs.length cv] 31)).alloc (.cells #[.float .f32 s] 25) = wA at *
    go_enter Tryz.func94, Tryz.ntmps94
    go_wp2_with fail
    refine HLR.out.mono ?_
    rintro e w1 ⟨rfl, rfl⟩
    clear hwA
    go_wp2_with fail
    refine HCO.out.mono ?_
    rintro e w2 ⟨v2, rfl, ho, hb⟩
    have HO := Lib.hid (ho.mono hb1.size)
    have HB := Lib.hid (below_trans hb1 hb hb1.size)
    clear ho hb
    go_wp2
    go_ret
    rw [HN.out]
    exact Lay.Got.mk HO.out HB.out
end Go.Proofs.YtobpnoiienpipaaGreat

/-
  What is proved: lists of lists of single floats that a call makes, no two of which share memory.
  Conditions: those that each fact names.
-/
namespace Go.Proofs.YtobpnoiienpipaaGreat
set_option linter.unusedVariables false
open Go.RowKit

/-- A list that can be read is appended, at a step of a region that draws its order. -/
theorem stepF_append {ops : Array Oper} {o : Oper} {a : Act} {w : World} {K : Act → World → Prop} {Q : Exit → Act → World → Prop} {E : Prop} (hgd : o.guard = none) (s x : Operand)
    (ho : o.op = .call { callee := .builtin .append, args := #[s, x], argTypes := #[31, 31] })
    (base : Nat) (v : Value) (xs ys : List Nat) (hs : a.eval s = v) (hown : OwnF w base v xs) (g o' m c : Nat) (hx : a.eval x = .slice (some ⟨g, o', none⟩) m c) (hm : ys.length = m)
    (hrow : ∀ i (h : i < ys.length), w.cell? ⟨g, o' + i, none⟩ = some (.float .f32 ys[i]))
    (h0 : 0 < m) (hlen : xs.length + m ≤ 1000000000) (hbase : base ≤ w.heap.size)
    (h : ∀ g cap w', OwnF w' base (.slice (some ⟨g, 0, none⟩) (xs.length + m) cap) (xs ++ ys) → w.grownBy w' v.ownBlock → (v.ownBlock = some g ∨ g = w.heap.size) → g < w'.heap.size → K (a.put o.dst (.slice (some ⟨g, 0, none⟩) (xs.length + m) cap)) w') :
    if Region.wanted o (yielded ops a.tmps) = true then Oper.wp Tryz.prog o a w K Q else E := by
  subst hm
  obtain ⟨i0, hi, hz0, hz1, hz2⟩ := info_parts info_f32
  refine step_append_lies w hgd s x 31 ho base 25 i0 _ 1 4 Tryz.underlying31 hi hz0 hz1 hz2 rfl (by decide) v xs.length _ hs hown ⟨g, o', none⟩ ys.length c (ys.map (.float .f32)) hx (by simp) ?_ ?_ h0 (by unfold maxLen; omega) (by omega) hbase w.heap.size rfl ?_
  · intro j u hu
    have hadd : (⟨g, o', none⟩ : Addr).add j = ⟨g, o' + j, none⟩ := by unfold Addr.add; split <;> simp_all
    rw [hadd]
    rw [List.getElem?_map] at hu
    by_cases hj : j < ys.length
    · rw [List.getElem?_eq_getElem hj] at hu
      cases hu
      exact hrow j hj
    · rw [List.getElem?_eq_none (by omega)] at hu; cases hu
  · intro u hu
    obtain ⟨x, _, rfl⟩ := List.mem_map.1 hu
    rfl
  intro g' cap w' h2 h3 h4 h5
  refine h g' cap w' ?_ h3 h4 h5
  unfold OwnF
  rw [List.length_append, List.map_append]
  exact h2
/-- One element of a new block is appended, at such a step. -/
theorem Lay.Ok.step {α : Type} {L : Lay α} (hL : L.Ok) {ops : Array Oper} {o : Oper} {a : Act} {w : World} {K : Act → World → Prop} {Q : Exit → Act → World → Prop} {E : Prop} (hgd : o.guard = none) (s x : Operand)
    (ho : o.op = .call { callee := .builtin .append, args := #[s, x], argTypes := #[L.t, L.t] })
    (base : Nat) (v : Value) (xs : List α) (n : Nat) (hs : a.eval s = v) (hown : L.Own w base v xs) (hn : xs.length = n) (g : Nat) (hx : a.eval x = .slice (some ⟨g, 0, none⟩) 1 1) (z : α)
    (hrow : ∀ j u, (L.enc z)[j]? = some u → w.cell? ⟨g, 0 + j, none⟩ = some u) (hlen : n + 1 ≤ 1000000000) (hbase : base ≤ w.heap.size)
    (h : ∀ g cap w', L.Own w' base (.slice (some ⟨g, 0, none⟩) (n + 1) cap) (xs ++ [z]) → w.grownBy w' v.ownBlock → (v.ownBlock = some g ∨ g = w.heap.size) → g < w'.heap.size → K (a.put o.dst (.slice (some ⟨g, 0, none⟩) (n + 1) cap)) w') :
    if Region.wanted o (yielded ops a.tmps) = true then Oper.wp Tryz.prog o a w K Q else E := by
  subst hn
  obtain ⟨i, zz, hi, hz, hz1, hz2, hz3⟩ := hL.info
  have hsm := hL.small
  refine step_append_lies w hgd s x L.t ho base L.e i zz L.size L.bytes hL.und hi hz hz1 hz2 hz3 hL.pos v xs.length _ hs hown ⟨g, 0, none⟩ 1 1 (L.enc z) hx (by rw [hL.len]; omega) ?_ (hL.one z) (by decide) (by unfold maxLen; omega) ?_ hbase w.heap.size rfl ?_
  · intro j u hu
    have hadd : (⟨g, 0, none⟩ : Addr).add j = ⟨g, 0 + j, none⟩ := by unfold Addr.add; split <;> simp_all
    rw [hadd]
    exact hrow j u hu
  · exact Nat.le_trans (Nat.mul_le_mul hlen hsm) (by decide)
  intro g' cap w' h2 h3 h4 h5
  refine h g' cap w' ?_ h3 h4 h5
  unfold Lay.Own
  rw [List.length_append, Lay.cells_append, Lay.cells_one]
  exact h2
/-- Slices: where one lies, its length, its room. -/
abbrev SV := Option Addr × Nat × Nat
def SV.v (s : SV) : Value := .slice s.1 s.2.1 s.2.2
def LSf : Lay SV := ⟨65, 31, 1, 24, fun s => [s.v]⟩
theorem LSf_ok : LSf.Ok := by
  refine ⟨fun _ => rfl, fun x u hu => ?_, by decide, Tryz.underlying65, ?_, by decide⟩
  · obtain rfl := List.mem_singleton.1 hu; rfl
  · obtain ⟨i, h1, h2, h3, h4⟩ := info_parts (show (Tryz.prog.info? 31).map (fun i => (i.zero, i.size, i.bytes)) = some (some (.slice none 0 0), 1, 24) by kernel_rfl)
    exact ⟨i, _, h1, h2, h3, h4, rfl⟩
/-- The lists of a list of lists: each is new, no two share memory, none the list's own. -/
structure Lines (w : World) (base : Nat) (v : Value) (ss : List SV) (rows : List (List Nat)) : Prop where
  len : ss.length = rows.length
  row : ∀ i (h : i < ss.length) (h' : i < rows.length), FNew w base ss[i].v rows[i]
  apart : ∀ i j (h : i < ss.length) (h' : j < ss.length), i ≠ j → ∀ k, ss[i].v.ownBlock = some k → ss[j].v.ownBlock ≠ some k
  out : ∀ i (h : i < ss.length) k, ss[i].v.ownBlock = some k → v.ownBlock ≠ some k
structure Grid (w : World) (base : Nat) (v : Value) (rows : List (List Nat)) (ss : List SV) : Prop where
  own : LSf.Own w base v ss
  lines : Lines w base v ss rows
theorem Lines.nil (w : World) (base : Nat) (v : Value) : Lines w base v [] [] := ⟨rfl, fun i h => absurd h (by simp), fun i j h => absurd h (by simp), fun i h => absurd h (by simp)⟩
theorem Lines.kept {w w' : World} {base : Nat} {v : Value} {ss : List SV} {rows : List (List Nat)} {row : Option Nat} (h : Lines w base v ss rows) (hg : w.grownBy w' row) (hne : ∀ i (h : i < ss.length) k, ss[i].v.ownBlock = some k → row ≠ some k) : Lines w' base v ss rows :=
  ⟨h.len, fun i h1 h2 => (h.row i h1 h2).far hg (fun k hk => hne i h1 k hk), h.apart, h.out⟩
/-- One more line, in a block of its own; the list itself is perhaps laid anew. -/
theorem Lines.snoc {w w' : World} {base : Nat} {v v' : Value} {ss : List SV} {rows : List (List Nat)} {s : SV} {ys : List Nat} (h : Lines w base v ss rows) (hg : w.grownBy w' v.ownBlock) (hs : FNew w' base s.v ys)
    (hnew : ∀ k, s.v.ownBlock = some k → (∀ i (h : i < ss.length), ss[i].v.ownBlock ≠ some k) ∧ v'.ownBlock ≠ some k) (hv : v'.ownBlock = v.ownBlock ∨ ∃ g, v'.ownBlock = some g ∧ ∀ i (h : i < ss.length), ss[i].v.ownBlock ≠ some g) : Lines w' base v' (ss ++ [s]) (rows ++ [ys]) := by
  have hl := h.len
  refine ⟨by simp [hl], fun i h1 h2 => ?_, fun i j h1 h2 hij k hk => ?_, fun i h1 k hk => ?_⟩
  · by_cases hi : i < ss.length
    · rw [List.getElem_append_left hi, List.getElem_append_left (by omega)]
      exact (h.row i hi (by omega)).far hg (fun k hk => h.out i hi k hk)
    · have e : i = ss.length := by simp at h1; omega
      subst e
      rw [List.getElem_append_right (by omega), List.getElem_append_right (by omega)]
      simpa [hl] using hs
  · by_cases hi : i < ss.length
    · rw [List.getElem_append_left hi] at hk
      by_cases hj : j < ss.length
      · rw [List.getElem_append_left hj]; exact h.apart i j hi hj hij k hk
      · rw [List.getElem_append_right (by omega)]
        intro e
        have e0 : j - ss.length = 0 := by simp at h2; omega
        simp only [e0, List.getElem_cons_zero] at e
        exact (hnew k e).1 i hi hk
    · rw [List.getElem_append_right (by omega)] at hk
      have e0 : i - ss.length = 0 := by simp at h1; omega
      simp only [e0, List.getElem_cons_zero] at hk
      by_cases hj : j < ss.length
      · rw [List.getElem_append_left hj]; exact (hnew k hk).1 j hj
      · simp at h1 h2; omega
  · by_cases hi : i < ss.length
    · rw [List.getElem_append_left hi] at hk
      rcases hv with hv | ⟨g, hv, hne⟩
      · rw [hv]; exact h.out i hi k hk
      · intro e; rw [hv] at e; cases e; exact hne i hi hk
    · rw [List.getElem_append_right (by omega)] at hk
      have e0 : i - ss.length = 0 := by simp at h1; omega
      simp only [e0, List.getElem_cons_zero] at hk
      exact (hnew k hk).2
theorem FNew.blk {w : World} {base : Nat} {v : Value} {xs : List Nat} (h : FNew w base v xs) {k : Nat} (hk : v.ownBlock = some k) : k < w.heap.size := (h.lt k hk).2
/-- One more line, in a block that is new. -/
theorem Grid.snoc {wr w6 : World} {base g n cap g6 n6 cap6 : Nat} {rows : List (List Nat)} {ss : List SV} {s : SV} {ys : List Nat} (h : Grid wr base (.slice (some ⟨g, 0, none⟩) n cap) rows ss) (hg : wr.grownBy w6 (some g)) (hs : FNew w6 base s.v ys)
    (hk : ∀ k, s.v.ownBlock = some k → wr.heap.size ≤ k ∧ k ≠ g6) (hg6 : g6 = g ∨ wr.heap.size ≤ g6) (ho : LSf.Own w6 base (.slice (some ⟨g6, 0, none⟩) n6 cap6) (ss ++ [s])) : Grid w6 base (.slice (some ⟨g6, 0, none⟩) n6 cap6) (rows ++ [ys]) (ss ++ [s]) := by
  have hlt : ∀ i (hi : i < ss.length) k, ss[i].v.ownBlock = some k → k < wr.heap.size := fun i hi k e => (h.lines.row i hi (by rw [← h.lines.len]; exact hi)).blk e
  refine ⟨ho, h.lines.snoc (show wr.grownBy w6 (some g) from hg) hs (fun k e => ⟨fun i hi e' => ?_, fun e' => ?_⟩) ?_⟩
  · have := hlt i hi k e'
    have := (hk k e).1
    omega
  · have e2 : g6 = k := Option.some.inj e'
    exact (hk k e).2 e2.symm
  · rcases hg6 with rfl | h6
    · exact .inl rfl
    · exact .inr ⟨g6, rfl, fun i hi e' => by have := hlt i hi g6 e'; omega⟩
/-- What answers a new list of new lists. -/
def GotG (rows : List (List Nat)) (w : World) (e : Ending) (w' : World) : Prop := ∃ v ss, e = .returned v ∧ Grid w' w.heap.size v rows ss ∧ Below w.heap.size w w'
theorem GotG.mk {rows : List (List Nat)} {w w' : World} {v : Value} {ss : List SV} (h : Grid w' w.heap.size v rows ss) (hb : Below w.heap.size w w') : GotG rows w (.returned v) w' := ⟨v, ss, rfl, h, hb⟩
/-- Where a line may be cut. -/
def cutAt (xs : List Nat) (n : Nat) (p : Int) : Bool := decide (0 ≤ p) && decide (p ≤ (xs.length : Int) - (n : Int))
def cutsK (xs : List Nat) (n : Nat) (ps : List Int) : List (List Nat) := (ps.filter (cutAt xs n)).map fun p => part xs p.toNat n
def lineN (n : Int) : Bool := decide (28 ≤ n) && decide (n ≤ 280)
/-- What CutLines answers. -/
def cuts (xs : List Nat) (ps : List Int) (n : Int) : List (List Nat) := if lineN n = true ∧ xs.length ≤ 20000 then cutsK xs n.toNat ps else []
theorem cutsK_yes {xs : List Nat} {n k : Nat} {ps : List Int} (h : k < ps.length) (hc : cutAt xs n ps[k] = true) : cutsK xs n (ps.take (k + 1)) = cutsK xs n (ps.take k) ++ [part xs ps[k].toNat n] := by
  unfold cutsK
  rw [List.take_succ_eq_append_getElem h, List.filter_append, List.map_append]
  simp [hc]
theorem cutsK_no {xs : List Nat} {n k : Nat} {ps : List Int} (h : k < ps.length) (hc : cutAt xs n ps[k] = false) : cutsK xs n (ps.take (k + 1)) = cutsK xs n (ps.take k) := by
  unfold cutsK
  rw [List.take_succ_eq_append_getElem h, List.filter_append, List.map_append]
  simp [hc]
theorem cutsK_len (xs : List Nat) (n k : Nat) (ps : List Int) : (cutsK xs n (ps.take k)).length ≤ k := by
  unfold cutsK
  rw [List.length_map]
  exact Nat.le_trans (List.length_filter_le _ _) (by rw [List.length_take]; omega)
theorem ints_any {w : World} {v : Value} {ps : List Int} (h : LI.Row w v ps) : ∃ a c, v = .slice a ps.length c ∧ ∀ k (hk : k < ps.length), ∃ g o, a = some ⟨g, o, none⟩ ∧ ps.length ≤ c ∧ w.cell? ⟨g, o + k, none⟩ = some (.int .i64 ps[k]) := by
  obtain ⟨a, c, h1, h2⟩ := h.any LI_ok
  refine ⟨a, c, h1, fun k hk => ?_⟩
  obtain ⟨g, o, e, hc, hcell⟩ := h2 k hk
  refine ⟨g, o, e, hc, ?_⟩
  have := hcell 0 _ rfl
  rwa [show k * LI.size + 0 = k from Nat.mul_one k] at this
end Go.Proofs.YtobpnoiienpipaaGreat
