/-
  What is proved: the walk of the program's Lows.
  Conditions: the stream can be read.
-/
import Derived.Maps.OwnIn
import Derived.RangeFuncNested
import Derived.RangeFuncBox
import Derived.Test.YtmelnpimoiipgaaLowIter
import Derived.Test.YtmelnpimoiipgaaDecode
namespace Go.Proofs.Ytmelnpimoiipgaa
set_option linter.unusedVariables false
open Go.RowKit Go.Shelf
attribute [local go_sem] run_store_float run_store_complex unary_negf neg256 Oper.semAt_some

/-- Between two rounds of the loop that collects: the box holds a slice that owns what has come. -/
def ApI (wA : World) (pre : List R2) (W : World) : Prop := ∃ v, Boxed W wA.heap.size 28 v ∧ LR.Own W wA.heap.size v pre ∧ Below wA.heap.size wA W
theorem apI_own (wA : World) (B : Nat) (hB : wA.heap.size ≤ B) : OwnFrom B (ApI wA) := by
  rintro pre X Y row ⟨v, hb, ho, h3⟩ hg hr
  obtain ⟨v', k1, k2, _⟩ := holdsRow_own wA.heap.size wA.heap.size 28 31 2 (fun s : List R2 => s.length) LR.cells (fun _ _ => True) pre X Y row ⟨v, hb, ho, trivial⟩ hg (fun r e => (hr r e).2)
  exact ⟨v', k1, k2, h3.grown hg h3.size (fun r e => Nat.le_trans hB (hr r e).1)⟩
theorem KeepR.appended {lo Bb : Nat} {W w3 : World} {v v' : Value} {pre post : List R2} {tmp : Obj} (hv : Boxed W Bb 28 v) (hown : LR.Own W lo v pre) (hlo : lo ≤ W.heap.size) (hB : lo ≤ Bb)
    (hown' : LR.Own w3 lo v' post) (hg3 : (W.alloc tmp).grownBy w3 v.ownBlock) (hat : v'.ownBlock = v.ownBlock ∨ v'.ownBlock = some (W.alloc tmp).heap.size) :
    KeepR lo Bb W (w3.setCell ⟨Bb, 0, none⟩ v') ∧ KeepsOthers W (w3.setCell ⟨Bb, 0, none⟩ v') ∧ Boxed (w3.setCell ⟨Bb, 0, none⟩ v') Bb 28 v' ∧ LR.Own (w3.setCell ⟨Bb, 0, none⟩ v') lo v' post ∧ Below lo W (w3.setCell ⟨Bb, 0, none⟩ v') := by
  obtain ⟨q1, q2, q3, q4, q5⟩ := hv.appended (by decide) hown hlo hB hown' hg3
  refine ⟨⟨q5, fun u hu => ?_⟩, q4, q2, q3, q5⟩
  obtain rfl : u = v := by
    have h1 := hu.box
    unfold Boxed at h1 hv
    rw [h1] at hv
    simpa using hv
  refine ⟨⟨v', ⟨q2, by have := q5.size; omega, fun k e => World.ownsRow.lt q3 k e⟩, ?_⟩, fun b o hb hc hne hno => ?_⟩
  · rcases hat with e | e
    · exact .inl e
    · refine .inr (fun k hk => ?_)
      rw [e] at hk
      have : (W.alloc tmp).heap.size = k := Option.some.inj hk
      rw [← this]
      simp
  · have hlt := (Array.getElem?_eq_some_iff.1 hb).1
    have h1 : (W.alloc tmp).heap[b]? = some o := (Below.heap_alloc _ _ b hlt).trans hb
    have h2 := (hg3.block b (Array.getElem?_eq_some_iff.1 h1).1 (fun e => hno e.symm)).trans h1
    exact ((grownBy_setCell' w3 Bb v').block b (Array.getElem?_eq_some_iff.1 h2).1 (fun e => hne (Option.some.inj e))).trans h2
theorem lowRuns_hands (n : Nat) (hn : 1 ≤ n) (w0 w1 : World) (Bs Bn Bb : Nat) (ad : Option Addr) (cap L : Nat) (xs : List Nat) (s : Nat) (hx : FRow w0 (.slice ad L cap) xs) (hL : xs.length = L) (hl : L ≤ 20000)
    (hw : Below w0.heap.size w0 w1) (hr : RowIn w0.heap.size w1 Bb (.slice none 0 0)) (hBs : w0.cell? ⟨Bs, 0, none⟩ = some (.slice ad L cap)) (hBn : w0.cell? ⟨Bn, 0, none⟩ = some (.float .f32 s)) :
    SeqStopsK Fence.wide n Try.prog 88 #[.pointer (some ⟨Bs, 0, none⟩), .pointer (some ⟨Bn, 0, none⟩)] (fun x : R2 => #[runV x]) (KeepR w0.heap.size Bb) (fun ys => ys = (lowsK xs s (L + 1)).1) (fun _ => True) (L + 1) w1 :=
  fun l J Jx W hW hJ hJx hY h0 => lowRuns1_in n hn w0 l Bs Bn Bb ad cap L xs s hx hL hl J Jx _ hJ hY W (hw.trans (hW.mono hw.size)) (.slice none 0 0) (hr.grown (grown_of hW)) hBs hBn h0
/-- The loop's temporaries: the box is block lo, the run at hand lies in block p. -/
def asTmps (lo p : Nat) (sv : Value) (x : R2) : Array Value := #[.slice none 0 0, sv, .pointer (some ⟨lo, 0, none⟩), undef, .slice none 0 0, .pointer (some ⟨p, 0, none⟩), sv, .agg #[.int .i64 (x.1 : Int), .int .i64 (x.2 : Int)], undef, undef, undef, undef, undef]
set_option maxRecDepth 100000 in
set_option maxHeartbeats 8000000 in
theorem appendSeq_in (wA : World) (Bs Bn : Nat) (ad : Option Addr) (cap L : Nat) (xs : List Nat) (s : Nat) (hx : FRow wA (.slice ad L cap) xs) (hL : xs.length = L) (hl : L ≤ 20000) (hBs : wA.cell? ⟨Bs, 0, none⟩ = some (.slice ad L cap)) (hBn : wA.cell? ⟨Bn, 0, none⟩ = some (.float .f32 s)) :
    CallsIn Fence.wide 3 Try.prog 87 #[.slice none 0 0, .func (.func 88) #[] #[.pointer (some ⟨Bs, 0, none⟩), .pointer (some ⟨Bn, 0, none⟩)]] wA fun e w' => LR.Got (lowsK xs s (L + 1)).1 wA e w' := by
  refine callsIn_of_wp_marks Try.func87 rfl trivial ?_ rfl
  simp only [Try.ntmps87, List.size_toArray, List.length_cons, List.length_nil, Nat.reduceAdd, Nat.reduceSub, Array.replicate_succ, Array.replicate_zero, List.push_toArray, List.append_toArray, List.nil_append, List.cons_append]
  have hb1 : Below wA.heap.size wA (wA.alloc (.cells #[.slice none 0 0] 28)) := (Below.refl _ wA).alloc (Nat.le_refl _) _
  have hbox := Boxed.new wA 28 (.slice none 0 0)
  have hs1 : (wA.alloc (.cells #[.slice none 0 0] 28)).heap.size = wA.heap.size + 1 := by simp
  gi_wp2
  generalize wA.alloc (.cells #[.slice none 0 0] 28) = w1 at *
  have HSQ := Lib.hid (lowRuns_hands 2 (by omega) wA w1 Bs Bn wA.heap.size ad cap L xs s hx hL hl hb1 ⟨hbox, hb1.size, fun k e => by cases e⟩ hBs hBn)
  obtain ⟨i0, z0, hi, hz0, hz1, hz2, hz3⟩ := LR_ok.info
  have HI0 := Lib.hid (show ApI wA [] w1 from ⟨_, hbox, LR.ownNil _ _, hb1⟩)
  refine wpIn_rangeFunc_ownH rfl (by omega) (gf := 88) (lb := #[.pointer (some ⟨Bs, 0, none⟩), .pointer (some ⟨Bn, 0, none⟩)]) rfl trivial (enters_of Try.func88 (by kernel_rfl) rfl) HSQ.out (fun h k => h.trans k) (KeepR.put (by omega)) (Below.refl _ _) (fun _ => rfl)
    (ApI wA)
    (fun _ _ _ => False)
    (apI_own wA _ (by omega))
    (fun _ _ _ _ _ hs _ _ => hs)
    HI0.out
    (fun x a' W => ∃ p, a' = { tmps := asTmps wA.heap.size p (.func (.func 88) #[] #[.pointer (some ⟨Bs, 0, none⟩), .pointer (some ⟨Bn, 0, none⟩)]) x, defers := [] } ∧ W.heap[p]? = some (.cells #[.int .i64 (x.1 : Int), .int .i64 (x.2 : Int)] 31 (0, 0)))
    ?hAx ?assign ?body ?done ?stop
  case hAx =>
    rintro x a' _ X Y row ⟨p, h1, h2⟩ hg hr
    refine ⟨p, h1, (hg.block p (Array.getElem?_eq_some_iff.1 h2).1 (fun e => ?_)).trans h2⟩
    obtain ⟨_, o, ho, hc⟩ := hr p e.symm
    rw [h2] at ho
    cases ho
    cases hc
  case assign =>
    intro l pre x W K hi hK
    have hg := World.grownBy_alloc W (.cells #[.int .i64 (x.1 : Int), .int .i64 (x.2 : Int)] 31) none
    have HKK := Lib.hid (hK { tmps := asTmps wA.heap.size W.heap.size (.func (.func 88) #[] #[.pointer (some ⟨Bs, 0, none⟩), .pointer (some ⟨Bn, 0, none⟩)]) x, defers := [] } _ ((KeepsOthers.alloc _ _).from _) (KeepR.grown (by obtain ⟨_, _, _, h⟩ := hi; exact h.size) hg) (by obtain ⟨v, h1, h2, h3⟩ := hi; exact ⟨v, h1.alloc _, h2.alloc _, h3.alloc h3.size _⟩) ⟨_, rfl, heap_alloc_new W _⟩)
    clear hK hg
    unfold runV
    gi_wp2
    exact HKK.out
  case body =>
    rintro l pre x a' W hlw hrec ⟨v, hv, hown, hbel⟩ ⟨p, rfl, hp⟩ hlen
    have hc := hv.cell
    have hp0 := cell_of_row _ _ 0 _ _ _ hp
    have hp1 := cell_of_row _ _ 1 _ _ _ hp
    have hlo : wA.heap.size ≤ W.heap.size := hbel.size
    have HV := Lib.hid (And.intro hv (And.intro hown hbel))
    have HNW := Lib.hid (World.news_of_block (heap_alloc_new W (.cells #[.int .i64 (x.1 : Int), .int .i64 (x.2 : Int)] 31)))
    unfold asTmps
    clear hv hown hbel hp hrec
    gi_wp2_with (first
      | (gi_at_builtin; refine wpListIn_append_own_at _ rfl (.tmp 8) (.tmp 10) 28 rfl wA.heap.size 31 i0 z0 2 16 LR_ok.und hi hz0 hz1 hz2 hz3 (by decide) _ pre.length (LR.cells pre) rfl (HV.out.2.1.alloc _) ⟨W.heap.size, 0, none⟩ 1 1 [.int .i64 (x.1 : Int), .int .i64 (x.2 : Int)] rfl rfl HNW.out (by simp [Value.oneCell']) (by unfold maxLen; omega) (by omega) (by simp; omega) ?_; intro v' w3 hown' hg3 hnil3 hat3
         obtain ⟨g', cap', rfl⟩ := ownsRow_succ hown'
         have hown2 : LR.Own w3 wA.heap.size (.slice (some ⟨g', 0, none⟩) (pre.length + 1) cap') (pre ++ [x]) := by unfold Lay.Own; rw [List.length_append, Lay.cells_append, Lay.cells_one]; exact hown'
         have hq1 := (HV.out.1.appended (by decide) HV.out.2.1 hlo (Nat.le_refl _) hown' hg3).1
         have HF := Lib.hid (KeepR.appended HV.out.1 HV.out.2.1 hlo (Nat.le_refl _) hown2 hg3 hat3)
         have hc3 := hq1.cell
         have hf3 := hq1.frozen
         clear hown' hown2 hg3 hnil3 hat3 hq1
         go_frame))
    exact ⟨HF.out.2.1.from _, HF.out.1, _, HF.out.2.2.1, HF.out.2.2.2.1, HV.out.2.2.trans HF.out.2.2.2.2⟩
  case done =>
    rintro D ys W hD rfl ⟨v, hv, hown, hbel⟩ hK
    have hc := hv.cell
    gi_wp2
    refine ⟨by simp, .inl ⟨_, _, rfl, run_takeDeferred hK, ?_⟩⟩
    refine ⟨_, results_tmp rfl _ _ _, v, rfl, ?_, ?_⟩
    · exact ownsRow_putObj hown _ hK rfl
    · exact hbel.trans (belowK_b (w := wA) (Nat.le_refl _) W D _ _ (by omega) hK rfl rfl)
  case stop =>
    rintro D c pre W _ _ h _
    exact h.elim
theorem collect_any (wA : World) (Bs Bn : Nat) (ad : Option Addr) (cap L : Nat) (xs : List Nat) (s : Nat) (hx : FRow wA (.slice ad L cap) xs) (hL : xs.length = L) (hl : L ≤ 20000) (hBs : wA.cell? ⟨Bs, 0, none⟩ = some (.slice ad L cap)) (hBn : wA.cell? ⟨Bn, 0, none⟩ = some (.float .f32 s)) :
    Calls Try.prog 57 #[.func (.func 88) #[] #[.pointer (some ⟨Bs, 0, none⟩), .pointer (some ⟨Bn, 0, none⟩)]] wA fun e w' => LR.Got (lowsK xs s (L + 1)).1 wA e w' := by
  have HA := Lib.hid (callsIn_wide.1 (appendSeq_in wA Bs Bn ad cap L xs s hx hL hl hBs hBn))
  clear hx hL hBs hBn
  generalize (lowsK xs s (L + 1)).1 = rs at *
  go_enter Try.func57, Try.ntmps57
  go_wp2_with fail
  refine HA.out.mono ?_
  rintro e w2 ⟨v, rfl, ho, hb⟩
  have HO := Lib.hid ho
  clear ho
  go_wp2
  go_ret
  exact Lay.Got.mk HO.out hb
theorem lowRuns_any (a : Option Addr) (m c s : Nat) (w : World) :
    Calls Try.prog 58 #[.slice a m c, .float .f32 s] w fun e w' => e = .returned (.func (.func 88) #[] #[.pointer (some ⟨w.heap.size, 0, none⟩), .pointer (some ⟨w.heap.size + 1, 0, none⟩)]) ∧ w' = (w.alloc (.cells #[.slice a m c] 24)).alloc (.cells #[.float .f32 s] 25) := by
  go_enter Try.func58, Try.ntmps58
  go_wp2
  go_ret
  exact ⟨rfl, rfl⟩
set_option maxHeartbeats 1000000 in
theorem lows_any (v : Value) (xs : List Nat) (s : Nat) (w : World) (h : FRow w v xs) (hl : xs.length ≤ 4000000) :
    Calls Try.prog 15 #[v, .float .f32 s] w fun e w' => LR.Got (lows xs s) w e w' := by
  have hrow := h
  obtain ⟨av, cv, rfl⟩ := h.lenv
  clear h
  by_cases hbig : 20000 < xs.length
  · have HN := Lib.hid (show lows xs s = [] by unfold lows; rw [if_neg (by omega)])
    have hbi : (20000 : Int) < (xs.length : Int) := by omega
    clear hrow
    go_enter Try.func15, Try.ntmps15
    go_wp2
    go_ret
    rw [HN.out]
    exact Lay.Got.mk (LR.ownNil _ _) (Below.refl _ _)
  · have HN := Lib.hid (show lows xs s = (lowsK xs s (xs.length + 1)).1 by unfold lows; rw [if_pos (by omega)])
    have HLR := Lib.hid (lowRuns_any av xs.length cv s w)
    have hbi : ¬ (20000 : Int) < (xs.length : Int) := by omega
    have hb1 : Below w.heap.size w ((w.alloc (.cells #[.slice av xs.length cv] 24)).alloc (.cells #[.float .f32 s] 25)) := ((Below.refl _ w).alloc (Nat.le_refl _) _).alloc (by simp) _
    have hc1 : ((w.alloc (.cells #[.slice av xs.length cv] 24)).alloc (.cells #[.float .f32 s] 25)).cell? ⟨w.heap.size, 0, none⟩ = some (.slice av xs.length cv) := (cell_of_row _ _ 0 _ _ _ ((Below.heap_alloc _ _ _ (by simp)).trans (heap_alloc_new w _))).trans rfl
    have hc2 : ((w.alloc (.cells #[.slice av xs.length cv] 24)).alloc (.cells #[.float .f32 s] 25)).cell? ⟨w.heap.size + 1, 0, none⟩ = some (.float .f32 s) := by
      have h2 := cell_of_row _ _ 0 _ _ _ (heap_alloc_new (w.alloc (.cells #[.slice av xs.length cv] 24)) (.cells #[.float .f32 s] 25))
      rw [World.size_alloc] at h2
      exact h2.trans rfl
    have HCO := Lib.hid (collect_any _ w.heap.size (w.heap.size + 1) av cv xs.length xs s (hrow.below hb1) rfl (by omega) hc1 hc2)
    clear hrow hc1 hc2
    generalize hwA : (w.alloc (.cells #[.slice av xs.length cv] 24)).alloc (.cells #[.float .f32 s] 25) = wA at *
    go_enter Try.func15, Try.ntmps15
    go_wp2_with fail
    refine HLR.out.mono ?_
    rintro e w1 ⟨rfl, rfl⟩
    clear hwA
    go_wp2_with fail
    refine HCO.out.mono ?_
    rintro e w2 ⟨v2, rfl, ho, hb⟩
    have HO := Lib.hid (ho.mono hb1.size)
    have HB := Lib.hid (below_trans hb1 hb hb1.size)
    clear ho hb
    go_wp2
    go_ret
    rw [HN.out]
    exact Lay.Got.mk HO.out HB.out
end Go.Proofs.Ytmelnpimoiipgaa
