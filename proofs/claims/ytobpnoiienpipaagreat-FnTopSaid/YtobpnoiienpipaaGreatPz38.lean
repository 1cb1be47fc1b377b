/-
  What is proved: the walk of the program's Lows.
  Conditions: the stream can be read.
-/
import Derived.Maps.OwnIn
import Derived.RangeFuncNested
import Derived.RangeFuncBox
import Derived.Test.YtobpnoiienpipaaGreatPz37
import Derived.Test.YtobpnoiienpipaaGreatDecode
import Derived.Lib.SliceRun
import Derived.Lib.MinMax
import Derived.Test.YtobpnoiienpipaaGreatPz20
import Derived.Test.YtobpnoiienpipaaGreatPz19
import Derived.Test.YtobpnoiienpipaaGreatPz33
import Derived.Test.YtobpnoiienpipaaGreatPz09
import Derived.IntWalk
namespace Go.Proofs.YtobpnoiienpipaaGreat
set_option linter.unusedVariables false
open Go.RowKit Go.Shelf
attribute [local go_sem] run_store_float run_store_complex unary_negf neg256 Oper.semAt_some

/-- Between two rounds of the loop that collects: the box holds a slice that owns what has come. -/
def ApI (wA : World) (pre : List R2) (W : World) : Prop := ∃ v, Boxed W wA.heap.size 103 v ∧ LR.Own W wA.heap.size v pre ∧ Below wA.heap.size wA W
theorem apI_own (wA : World) (B : Nat) (hB : wA.heap.size ≤ B) : OwnFrom B (ApI wA) := by
  rintro pre X Y row ⟨v, hb, ho, h3⟩ hg hr
  obtain ⟨v', k1, k2, _⟩ := holdsRow_own wA.heap.size wA.heap.size 103 106 2 (fun s : List R2 => s.length) LR.cells (fun _ _ => True) pre X Y row ⟨v, hb, ho, trivial⟩ hg (fun r e => (hr r e).2)
  exact ⟨v', k1, k2, h3.grown hg h3.size (fun r e => Nat.le_trans hB (hr r e).1)⟩
theorem KeepR.appended {lo Bb : Nat} {W w3 : World} {v v' : Value} {pre post : List R2} {tmp : Obj} (hv : Boxed W Bb 103 v) (hown : LR.Own W lo v pre) (hlo : lo ≤ W.heap.size) (hB : lo ≤ Bb)
    (hown' : LR.Own w3 lo v' post) (hg3 : (W.alloc tmp).grownBy w3 v.ownBlock) (hat : v'.ownBlock = v.ownBlock ∨ v'.ownBlock = some (W.alloc tmp).heap.size) :
    KeepR lo Bb W (w3.setCell ⟨Bb, 0, none⟩ v') ∧ KeepsOthers W (w3.setCell ⟨Bb, 0, none⟩ v') ∧ Boxed (w3.setCell ⟨Bb, 0, none⟩ v') Bb 103 v' ∧ LR.Own (w3.setCell ⟨Bb, 0, none⟩ v') lo v' post ∧ Below lo W (w3.setCell ⟨Bb, 0, none⟩ v') := by
  obtain ⟨q1, q2, q3, q4, q5⟩ := hv.appended (by decide) hown hlo hB hown' hg3
  refine ⟨⟨q5, fun u hu => ?_⟩, q4, q2, q3, q5⟩
  obtain rfl : u = v := by
    have h1 := hu.box
    unfold Boxed at h1 hv
    rw [h1] at hv
    simpa using hv
  refine ⟨⟨v', ⟨q2, by have := q5.size; omega, fun k e => World.ownsRow.lt q3 k e⟩, ?_⟩, fun b o hb hc hne hno => ?_⟩
  · rcases hat with e | e
    · exact .inl e
    · refine .inr (fun k hk => ?_)
      rw [e] at hk
      have : (W.alloc tmp).heap.size = k := Option.some.inj hk
      rw [← this]
      simp
  · have hlt := (Array.getElem?_eq_some_iff.1 hb).1
    have h1 : (W.alloc tmp).heap[b]? = some o := (Below.heap_alloc _ _ b hlt).trans hb
    have h2 := (hg3.block b (Array.getElem?_eq_some_iff.1 h1).1 (fun e => hno e.symm)).trans h1
    exact ((grownBy_setCell' w3 Bb v').block b (Array.getElem?_eq_some_iff.1 h2).1 (fun e => hne (Option.some.inj e))).trans h2
theorem lowRuns_hands (n : Nat) (hn : 1 ≤ n) (w0 w1 : World) (Bs Bn Bb : Nat) (ad : Option Addr) (cap L : Nat) (xs : List Nat) (s : Nat) (hx : FRow w0 (.slice ad L cap) xs) (hL : xs.length = L) (hl : L ≤ 20000)
    (hw : Below w0.heap.size w0 w1) (hr : BoxIn w0.heap.size w1 Bb (.slice none 0 0)) (hBs : w0.cell? ⟨Bs, 0, none⟩ = some (.slice ad L cap)) (hBn : w0.cell? ⟨Bn, 0, none⟩ = some (.float .f32 s)) :
    SeqStopsK Fence.wide n Tryz.prog 144 #[.pointer (some ⟨Bs, 0, none⟩), .pointer (some ⟨Bn, 0, none⟩)] (fun x : R2 => #[runV x]) (KeepR w0.heap.size Bb) (fun ys => ys = (lowsK xs s (L + 1)).1) (fun _ => True) (L + 1) w1 :=
  fun l J Jx W hW hJ hJx hY h0 => lowRuns1_in n hn w0 l Bs Bn Bb ad cap L xs s hx hL hl J Jx _ hJ hY W (hw.trans (hW.mono hw.size)) (.slice none 0 0) (hr.grown (grown_of hW)) hBs hBn h0
/-- The loop's temporaries: the box is block lo, the run at hand lies in block p. -/
def asTmps (lo p : Nat) (sv : Value) (x : R2) : Array Value := #[.slice none 0 0, sv, .pointer (some ⟨lo, 0, none⟩), undef, .slice none 0 0, .pointer (some ⟨p, 0, none⟩), sv, .agg #[.int .i64 (x.1 : Int), .int .i64 (x.2 : Int)], undef, undef, undef, undef, undef]
set_option maxRecDepth 100000 in
set_option maxHeartbeats 8000000 in
theorem appendSeq_in (wA : World) (Bs Bn : Nat) (ad : Option Addr) (cap L : Nat) (xs : List Nat) (s : Nat) (hx : FRow wA (.slice ad L cap) xs) (hL : xs.length = L) (hl : L ≤ 20000) (hBs : wA.cell? ⟨Bs, 0, none⟩ = some (.slice ad L cap)) (hBn : wA.cell? ⟨Bn, 0, none⟩ = some (.float .f32 s)) :
    CallsIn Fence.wide 3 Tryz.prog 143 #[.slice none 0 0, .func (.func 144) #[] #[.pointer (some ⟨Bs, 0, none⟩), .pointer (some ⟨Bn, 0, none⟩)]] wA fun e w' => LR.Got (lowsK xs s (L + 1)).1 wA e w' := by
  refine callsIn_of_wp_marks Tryz.func143 rfl trivial ?_ rfl
  simp only [Tryz.ntmps143, List.size_toArray, List.length_cons, List.length_nil, Nat.reduceAdd, Nat.reduceSub, Array.replicate_succ, Array.replicate_zero, List.push_toArray, List.append_toArray, List.nil_append, List.cons_append]
  have hb1 : Below wA.heap.size wA (wA.alloc (.cells #[.slice none 0 0] 103)) := (Below.refl _ wA).alloc (Nat.le_refl _) _
  have hbox := Boxed.new wA 103 (.slice none 0 0)
  have hs1 : (wA.alloc (.cells #[.slice none 0 0] 103)).heap.size = wA.heap.size + 1 := by simp
  gi_wp2
  generalize wA.alloc (.cells #[.slice none 0 0] 103) = w1 at *
  have HSQ := Lib.hid (lowRuns_hands 2 (by omega) wA w1 Bs Bn wA.heap.size ad cap L xs s hx hL hl hb1 ⟨hbox, hb1.size, fun k e => by cases e⟩ hBs hBn)
  obtain ⟨i0, z0, hi, hz0, hz1, hz2, hz3⟩ := LR_ok.info
  have HI0 := Lib.hid (show ApI wA [] w1 from ⟨_, hbox, LR.ownNil _ _, hb1⟩)
  refine wpIn_rangeFunc_ownH rfl (by omega) (gf := 144) (lb := #[.pointer (some ⟨Bs, 0, none⟩), .pointer (some ⟨Bn, 0, none⟩)]) rfl trivial (enters_of Tryz.func144 (by kernel_rfl) rfl) HSQ.out (fun h k => h.trans k) (KeepR.put (by omega)) (Below.refl _ _) (fun _ => rfl)
    (ApI wA)
    (fun _ _ _ => False)
    (apI_own wA _ (by omega))
    (fun _ _ _ _ _ hs _ _ => hs)
    HI0.out
    (fun x a' W => ∃ p, a' = { tmps := asTmps wA.heap.size p (.func (.func 144) #[] #[.pointer (some ⟨Bs, 0, none⟩), .pointer (some ⟨Bn, 0, none⟩)]) x, defers := [] } ∧ W.heap[p]? = some (.cells #[.int .i64 (x.1 : Int), .int .i64 (x.2 : Int)] 106 (0, 0)))
    ?hAx ?assign ?body ?done ?stop
  case hAx =>
    rintro x a' _ X Y row ⟨p, h1, h2⟩ hg hr
    refine ⟨p, h1, (hg.block p (Array.getElem?_eq_some_iff.1 h2).1 (fun e => ?_)).trans h2⟩
    obtain ⟨_, o, ho, hc⟩ := hr p e.symm
    rw [h2] at ho
    cases ho
    cases hc
  case assign =>
    intro l pre x W K hi hK
    have hg := World.grownBy_alloc W (.cells #[.int .i64 (x.1 : Int), .int .i64 (x.2 : Int)] 106) none
    have HKK := Lib.hid (hK { tmps := asTmps wA.heap.size W.heap.size (.func (.func 144) #[] #[.pointer (some ⟨Bs, 0, none⟩), .pointer (some ⟨Bn, 0, none⟩)]) x, defers := [] } _ ((KeepsOthers.alloc _ _).from _) (KeepR.grown (by obtain ⟨_, _, _, h⟩ := hi; exact h.size) hg) (by obtain ⟨v, h1, h2, h3⟩ := hi; exact ⟨v, h1.alloc _, h2.alloc _, h3.alloc h3.size _⟩) ⟨_, rfl, heap_alloc_new W _⟩)
    clear hK hg
    unfold runV
    gi_wp2
    exact HKK.out
  case body =>
    rintro l pre x a' W hlw hrec ⟨v, hv, hown, hbel⟩ ⟨p, rfl, hp⟩ hlen
    have hc := hv.cell
    have hp0 := cell_of_row _ _ 0 _ _ _ hp
    have hp1 := cell_of_row _ _ 1 _ _ _ hp
    have hlo : wA.heap.size ≤ W.heap.size := hbel.size
    have HV := Lib.hid (And.intro hv (And.intro hown hbel))
    have HNW := Lib.hid (World.news_of_block (heap_alloc_new W (.cells #[.int .i64 (x.1 : Int), .int .i64 (x.2 : Int)] 106)))
    unfold asTmps
    clear hv hown hbel hp hrec
    gi_wp2_with (first
      | (gi_at_builtin; refine wpListIn_append_own_at _ rfl (.tmp 8) (.tmp 10) 103 rfl wA.heap.size 106 i0 z0 2 16 LR_ok.und hi hz0 hz1 hz2 hz3 (by decide) _ pre.length (LR.cells pre) rfl (HV.out.2.1.alloc _) ⟨W.heap.size, 0, none⟩ 1 1 [.int .i64 (x.1 : Int), .int .i64 (x.2 : Int)] rfl rfl HNW.out (by simp [Value.oneCell']) (by unfold maxLen; omega) (by omega) (by simp; omega) ?_; intro v' w3 hown' hg3 hnil3 hat3
         obtain ⟨g', cap', rfl⟩ := ownsRow_succ hown'
         have hown2 : LR.Own w3 wA.heap.size (.slice (some ⟨g', 0, none⟩) (pre.length + 1) cap') (pre ++ [x]) := by unfold Lay.Own; rw [List.length_append, Lay.cells_append, Lay.cells_one]; exact hown'
         have hq1 := (HV.out.1.appended (by decide) HV.out.2.1 hlo (Nat.le_refl _) hown' hg3).1
         have HF := Lib.hid (KeepR.appended HV.out.1 HV.out.2.1 hlo (Nat.le_refl _) hown2 hg3 hat3)
         have hc3 := hq1.cell
         have hf3 := hq1.frozen
         clear hown' hown2 hg3 hnil3 hat3 hq1
         go_frame))
    exact ⟨HF.out.2.1.from _, HF.out.1, _, HF.out.2.2.1, HF.out.2.2.2.1, HV.out.2.2.trans HF.out.2.2.2.2⟩
  case done =>
    rintro D ys W hD rfl ⟨v, hv, hown, hbel⟩ hK
    have hc := hv.cell
    gi_wp2
    refine ⟨by simp, .inl ⟨_, _, rfl, run_takeDeferred hK, ?_⟩⟩
    refine ⟨_, results_tmp rfl _ _ _, v, rfl, ?_, ?_⟩
    · exact ownsRow_putObj hown _ hK rfl
    · exact hbel.trans (belowK_b (w := wA) (Nat.le_refl _) W D _ _ (by omega) hK rfl rfl)
  case stop =>
    rintro D c pre W _ _ h _
    exact h.elim
theorem collect_any (wA : World) (Bs Bn : Nat) (ad : Option Addr) (cap L : Nat) (xs : List Nat) (s : Nat) (hx : FRow wA (.slice ad L cap) xs) (hL : xs.length = L) (hl : L ≤ 20000) (hBs : wA.cell? ⟨Bs, 0, none⟩ = some (.slice ad L cap)) (hBn : wA.cell? ⟨Bn, 0, none⟩ = some (.float .f32 s)) :
    Calls Tryz.prog 119 #[.func (.func 144) #[] #[.pointer (some ⟨Bs, 0, none⟩), .pointer (some ⟨Bn, 0, none⟩)]] wA fun e w' => LR.Got (lowsK xs s (L + 1)).1 wA e w' := by
  have HA := Lib.hid (callsIn_wide.1 (appendSeq_in wA Bs Bn ad cap L xs s hx hL hl hBs hBn))
  clear hx hL hBs hBn
  generalize (lowsK xs s (L + 1)).1 = rs at *
  go_enter Tryz.func119, Tryz.ntmps119
  go_wp2_with fail
  refine HA.out.mono ?_
  rintro e w2 ⟨v, rfl, ho, hb⟩
  have HO := Lib.hid ho
  clear ho
  go_wp2
  go_ret
  exact Lay.Got.mk HO.out hb
theorem lowRuns_any (a : Option Addr) (m c s : Nat) (w : World) :
    Calls Tryz.prog 120 #[.slice a m c, .float .f32 s] w fun e w' => e = .returned (.func (.func 144) #[] #[.pointer (some ⟨w.heap.size, 0, none⟩), .pointer (some ⟨w.heap.size + 1, 0, none⟩)]) ∧ w' = (w.alloc (.cells #[.slice a m c] 31)).alloc (.cells #[.float .f32 s] 25) := by
  go_enter Tryz.func120, Tryz.ntmps120
  go_wp2
  go_ret
  exact ⟨rfl, rfl⟩
set_option maxHeartbeats 1000000 in
theorem lows_any (v : Value) (xs : List Nat) (s : Nat) (w : World) (h : FRow w v xs) (hl : xs.length ≤ 4000000) :
    Calls Tryz.prog 94 #[v, .float .f32 s] w fun e w' => LR.Got (lows xs s) w e w' := by
  have hrow := h
  obtain ⟨av, cv, rfl⟩ := h.lenv
  clear h
  by_cases hbig : 20000 < xs.length
  · have HN := Lib.hid (show lows xs s = [] by unfold lows; rw [if_neg (by omega)])
    have hbi : (20000 : Int) < (xs.length : Int) := by omega
    clear hrow
    go_enter Tryz.func94, Tryz.ntmps94
    go_wp2
    go_ret
    rw [HN.out]
    exact Lay.Got.mk (LR.ownNil _ _) (Below.refl _ _)
  · have HN := Lib.hid (show lows xs s = (lowsK xs s (xs.length + 1)).1 by unfold lows; rw [if_pos (by omega)])
    have HLR := Lib.hid (lowRuns_any av xs.length cv s w)
    have hbi : ¬ (20000 : Int) < (xs.length : Int) := by omega
    have hb1 : Below w.heap.size w ((w.alloc (.cells #[.slice av xs.length cv] 31)).alloc (.cells #[.float .f32 s] 25)) := ((Below.refl _ w).alloc (Nat.le_refl _) _).alloc (by simp) _
    have hc1 : ((w.alloc (.cells #[.slice av xs.length cv] 31)).alloc (.cells #[.float .f32 s] 25)).cell? ⟨w.heap.size, 0, none⟩ = some (.slice av xs.length cv) := (cell_of_row _ _ 0 _ _ _ ((Below.heap_alloc _ _ _ (by simp)).trans (heap_alloc_new w _))).trans rfl
    have hc2 : ((w.alloc (.cells #[.slice av xs.length cv] 31)).alloc (.cells #[.float .f32 s] 25)).cell? ⟨w.heap.size + 1, 0, none⟩ = some (.float .f32 s) := by
      have h2 := cell_of_row _ _ 0 _ _ _ (heap_alloc_new (w.alloc (.cells #[.slice av xs.length cv] 31)) (.cells #[.float .f32 s] 25))
      rw [World.size_alloc] at h2
      exact h2.trans rfl
    have HCO := Lib.hid (collect_any _ w.heap.size (w.heap.size + 1) av cv xs.length xs s (hrow.below hb1) rfl (by omega) hc1 hc2)
    clear hrow hc1 hc2
    generalize hwA : (w.alloc (.cells #[.slice av xs.length cv] 31)).alloc (.cells #[.float .f32 s] 25) = wA at *
    go_enter Tryz.func94, Tryz.ntmps94
    go_wp2_with fail
    refine HLR.out.mono ?_
    rintro e w1 ⟨rfl, rfl⟩
    clear hwA
    go_wp2_with fail
    refine HCO.out.mono ?_
    rintro e w2 ⟨v2, rfl, ho, hb⟩
    have HO := Lib.hid (ho.mono hb1.size)
    have HB := Lib.hid (below_trans hb1 hb hb1.size)
    clear ho hb
    go_wp2
    go_ret
    rw [HN.out]
    exact Lay.Got.mk HO.out HB.out
end Go.Proofs.YtobpnoiienpipaaGreat

/-
  What is proved: the walk of the program's Erase.
  Conditions: the stream can be read.
-/
namespace Go.Proofs.YtobpnoiienpipaaGreat
set_option linter.unusedVariables false
open Go.RowKit
attribute [local go_sem] run_store_float run_store_complex unary_negf neg256

set_option maxHeartbeats 1000000 in
theorem cloneE_any (v : Value) (xs : List Nat) (w : World) (h : FRow w v xs) (hl : xs.length ≤ 4000000) :
    Calls Tryz.prog 93 #[v] w fun e w' => GotF xs w e w' := by
  by_cases h0 : 0 < xs.length
  · exact cloneF_any v xs w h h0 hl
  · obtain ⟨a, c, rfl⟩ := h.lenv
    obtain rfl : xs = [] := List.length_eq_zero_iff.1 (by omega)
    clear h h0 hl
    cases a with
    | none =>
      have hnil : ∀ W, (binOp .eql 31 (.slice none 0 c) (.slice none 0 0)).run Tryz.prog W = .ok (.bool true) W := fun W => eql_nil W none 0 c
      go_enter Tryz.func93, Tryz.ntmps93
      go_wp2
      go_ret
      exact GotF.mk (FNew.nil _ _) (Below.refl _ _)
    | some ad =>
      have hnil : ∀ W, (binOp .eql 31 (.slice (some ad) 0 c) (.slice none 0 0)).run Tryz.prog W = .ok (.bool false) W := fun W => eql_nil W (some ad) 0 c
      have HO := Lib.hid (OwnF.made0 w)
      have HB := Lib.hid ((Below.refl w.heap.size w).alloc (Nat.le_refl _) (.cells #[] 25))
      go_enter Tryz.func93, Tryz.ntmps93
      go_wp2_with (at_builtin; refine ownF_row rfl (.tmp 5) (.tmp 6) rfl w.heap.size _ _ _ [] [] rfl rfl HO.out _ rfl (.inl ⟨⟨_, _, rfl⟩, rfl⟩) 0 rfl (by omega) (by simp) ?_; intro g6 cap6 w6 ho6 hg6 hor6 hlt6)
      have HO6 := Lib.hid (show OwnF w6 w.heap.size (.slice (some ⟨g6, 0, none⟩) 0 cap6) [] by simpa using ho6)
      have HB6 := Lib.hid (HB.out.grown hg6 HB.out.size (fun k hk => (HO.out.lt k hk).1))
      clear ho6 hg6 hor6
      go_wp2
      go_ret
      exact GotF.own rfl HO6.out HB6.out
end Go.Proofs.YtobpnoiienpipaaGreat

/-
  What is proved: the walk of the program's CutLines.
  Conditions: the stream and the places can be read.
-/
namespace Go.Proofs.YtobpnoiienpipaaGreat
set_option linter.unusedVariables false
open Go.RowKit
attribute [local go_sem] run_store_float run_store_complex unary_negf neg256

/-- A list of lines with one line more, whatever block it lies in. -/
theorem Grid.snocV {wr w6 : World} {base g6 n6 cap6 : Nat} {v : Value} {rows : List (List Nat)} {ss : List SV} {s : SV} {ys : List Nat} (h : Grid wr base v rows ss) (hg : wr.grownBy w6 v.ownBlock) (hs : FNew w6 base s.v ys)
    (hk : ∀ k, s.v.ownBlock = some k → wr.heap.size ≤ k ∧ k ≠ g6) (hg6 : v.ownBlock = some g6 ∨ wr.heap.size ≤ g6) (ho : LSf.Own w6 base (.slice (some ⟨g6, 0, none⟩) n6 cap6) (ss ++ [s])) : Grid w6 base (.slice (some ⟨g6, 0, none⟩) n6 cap6) (rows ++ [ys]) (ss ++ [s]) := by
  have hlt : ∀ i (hi : i < ss.length) k, ss[i].v.ownBlock = some k → k < wr.heap.size := fun i hi k e => (h.lines.row i hi (by rw [← h.lines.len]; exact hi)).blk e
  refine ⟨ho, h.lines.snoc hg hs (fun k e => ⟨fun i hi e' => ?_, fun e' => ?_⟩) ?_⟩
  · have := hlt i hi k e'
    have := (hk k e).1
    omega
  · have e2 : g6 = k := Option.some.inj e'
    exact (hk k e).2 e2.symm
  · rcases hg6 with e | h6
    · exact .inl e.symm
    · exact .inr ⟨g6, rfl, fun i hi e' => by have := hlt i hi g6 e'; omega⟩
theorem isLine_any (n : Int) (w : World) : Calls Tryz.prog 92 #[.int .i64 n] w fun e w' => e = .returned (.bool (lineN n)) ∧ w = w' := by
  by_cases h1 : 28 ≤ n
  · by_cases h2 : n ≤ 280
    · have HL := Lib.hid (show lineN n = true by unfold lineN; simp [h1, h2])
      go_enter Tryz.func92, Tryz.ntmps92
      go_wp2
      go_ret
      exact ⟨by rw [HL.out]; rfl, rfl⟩
    · have HL := Lib.hid (show lineN n = false by unfold lineN; simp [h2])
      go_enter Tryz.func92, Tryz.ntmps92
      go_wp2
      go_ret
      exact ⟨by rw [HL.out]; rfl, rfl⟩
  · have HL := Lib.hid (show lineN n = false by unfold lineN; simp [h1])
    go_enter Tryz.func92, Tryz.ntmps92
    go_wp2
    go_ret
    exact ⟨by rw [HL.out]; rfl, rfl⟩
set_option maxRecDepth 100000 in
set_option maxHeartbeats 4000000 in
theorem cut_any (v vp : Value) (xs : List Nat) (ps : List Int) (n : Int) (w : World) (h : FRow w v xs) (hps : LI.Row w vp ps) (hi : ∀ p ∈ ps, I64 p) (hn : I64 n) (hl : xs.length ≤ 4000000) (hl2 : ps.length ≤ 4000000) :
    Calls Tryz.prog 63 #[v, vp, .int .i64 n] w fun e w' => GotG (cuts xs ps n) w e w' := by
  have HIN := fun W => Lib.hid (isLine_any n W)
  have HG0 := Lib.hid (show Grid w w.heap.size (.slice none 0 0) [] [] from ⟨LSf.ownNil _ _, Lines.nil _ _ _⟩)
  have hrow := h
  obtain ⟨av, cv, rfl⟩ := h.lenv
  obtain ⟨ap, cp, rfl, hcell⟩ := ints_any hps
  have HROW := Lib.hid hrow
  have HC := Lib.hid hcell
  have HI := Lib.hid hi
  clear h hrow hcell hps hi
  cases hin : lineN n with
  | false =>
    rw [hin] at HIN
    have HE := Lib.hid (show cuts xs ps n = [] by unfold cuts; rw [if_neg]; rw [hin]; intro hh; cases hh.1)
    clear hin hn
    go_enter Tryz.func63, Tryz.ntmps63
    go_wp2_with fail
    refine (HIN _).out.mono ?_
    rintro e w1 ⟨rfl, rfl⟩
    go_wp2
    go_ret
    rw [HE.out]
    exact GotG.mk HG0.out (Below.refl _ _)
  | true =>
    rw [hin] at HIN
    have hn2 : 28 ≤ n ∧ n ≤ 280 := by unfold lineN at hin; simpa using hin
    by_cases hbig : 20000 < xs.length
    · have HE := Lib.hid (show cuts xs ps n = [] by unfold cuts; rw [if_neg]; intro hh; omega)
      clear hin hn
      go_enter Tryz.func63, Tryz.ntmps63
      go_wp2_with fail
      refine (HIN _).out.mono ?_
      rintro e w1 ⟨rfl, rfl⟩
      go_wp2
      go_ret
      rw [HE.out]
      exact GotG.mk HG0.out (Below.refl _ _)
    · obtain ⟨len, rfl⟩ : ∃ m : Nat, n = m := Int.eq_ofNat_of_zero_le (by omega)
      have HE := Lib.hid (show cuts xs ps (len : Int) = cutsK xs len ps by unfold cuts; rw [if_pos ⟨hin, by omega⟩]; rfl)
      have hwl : IntKind.i64.wrap ((xs.length : Int) - (len : Int)) = (xs.length : Int) - (len : Int) := IntWalk.i64_in _ (by omega)
      clear hin hn
      go_enter Tryz.func63, Tryz.ntmps63
      go_wp2_with fail
      refine (HIN _).out.mono ?_
      rintro e w1 ⟨rfl, rfl⟩
      go_wp2
      go_loopw [7, 20] (fun out i wr => ∃ (k : Nat) (ss : List SV), k ≤ ps.length ∧ i = .int .i64 (k : Int) ∧ Below w.heap.size w wr ∧ Grid wr w.heap.size out (cutsK xs len (ps.take k)) ss) (fun _ i _ => ps.length - (intOf i).toNat)
      case atStart => exact ⟨0, [], Nat.zero_le _, rfl, Below.refl _ _, HG0.out⟩
      case round =>
        obtain ⟨k, ss, hk, rfl, hb, hgr⟩ := hrel
        have HGR := Lib.hid hgr
        have hss : ss.length ≤ k := by have := cutsK_len xs len k ps; rw [← hgr.lines.len] at this; exact this
        clear hgr
        by_cases hlt : k < ps.length
        · obtain ⟨g1, o1, rfl, hcap1, hc1⟩ := HC.out k hlt
          have hc1' := (grown_of hb).cell hc1 (by simp)
          have hpi := HI.out ps[k] (List.getElem_mem hlt)
          have HYES := Lib.hid (cutsK_yes (xs := xs) (n := len) hlt)
          have HNO := Lib.hid (cutsK_no (xs := xs) (n := len) hlt)
          clear hc1
          obtain ⟨p, hp⟩ : ∃ p, ps[k] = p := ⟨_, rfl⟩
          rw [hp] at hc1' hpi HYES HNO
          clear hp
          by_cases h0 : 0 ≤ p
          · by_cases h1 : p ≤ (xs.length : Int) - (len : Int)
            · have HS := Lib.hid (HYES.out (by unfold cutAt; simp [h0, h1]))
              obtain ⟨q, rfl⟩ : ∃ q : Nat, p = q := Int.eq_ofNat_of_zero_le h0
              have hql : q + len ≤ xs.length := by omega
              obtain ⟨g0, o0, rfl, hcap0⟩ : ∃ g o, av = some ⟨g, o, none⟩ ∧ xs.length ≤ cv := by
                rcases HROW.out with ⟨_, e1⟩ | ⟨g0, o0, cap0, he, hcap0, _⟩
                · rw [e1] at hql; simp at hql; omega
                · cases he; exact ⟨g0, o0, rfl, hcap0⟩
              have HPR := Lib.hid (FRow.part (HROW.out.below hb) rfl q len (cv - q) hql (by omega) (by omega))
              have HPL := Lib.hid (part_len xs q len hql)
              have HCLN := Lib.hid (cloneE_any (.slice (some ⟨g0, o0 + q, none⟩) len (cv - q)) (part xs q len) wr HPR.out (by have := HPL.out; omega))
              have hwrap : IntKind.i64.wrap ((q : Int) + (len : Int)) = (q : Int) + (len : Int) := IntWalk.i64_in _ (by omega)
              have hi1 : (0 : Int) ≤ (q : Int) := by omega
              have hi2 : (q : Int) ≤ (q : Int) + (len : Int) := by omega
              have hi3 : (q : Int) + (len : Int) ≤ (cv : Int) := by omega
              have hi4 : ¬ cv = q := by omega
              have hi5 : ¬ q = cv := by omega
              have hi6 : ((q : Int) + (len : Int)).toNat = q + len := by omega
              clear hpi
              go_wp2_with fail
              refine HCLN.out.mono ?_
              rintro e w5 ⟨v5, rfl, hn5, hb5⟩
              obtain ⟨g5, cap5, rfl⟩ := hn5.row4 (by have := HPL.out; omega)
              rw [HPL.out] at hn5 ⊢
              have hsz : w.heap.size ≤ wr.heap.size := hb.size
              have hlt5 := hn5.lt g5 rfl
              have HN5 := Lib.hid hn5
              have HB5 := Lib.hid hb5
              have HOW5 := Lib.hid ((HGR.out.own.kept (grown_of hb5) (by cases u7.ownBlock <;> simp)).alloc (.cells #[.slice (some ⟨g5, 0, none⟩) len cap5] 31))
              have h5s := hb5.size
              clear hn5 hb5 hc1' hi1 hi2 hi3 hi4 hi5 hi6 hwrap
              go_wp2_with (at_builtin; refine LSf_ok.snoc rfl (.tmp 34) (.tmp 42) rfl w.heap.size _ ss _ rfl HOW5.out rfl _ rfl (some ⟨g5, 0, none⟩, len, cap5) (lit_cells w5 _ _) (by omega) (by simp; omega) ?_; intro g6 cap6 w6 ho6 hg6 hor6 hlt6)
              have hA : Below wr.heap.size wr (w5.alloc (.cells #[.slice (some ⟨g5, 0, none⟩) len cap5] 31)) := HB5.out.alloc h5s _
              have hgr6 : wr.grownBy w6 u7.ownBlock := (grown_any u7.ownBlock hA).trans hg6
              have hown := fun k e => (HGR.out.own.lt k e)
              have hs5 : FNew w6 w.heap.size (.slice (some ⟨g5, 0, none⟩) len cap5) (part xs q len) := ((HN5.out.far (World.grownBy_alloc w5 _ none) (by simp)).far hg6 (fun k e e' => by
                have h1 := (hown k e').2
                have h2 : g5 = k := Option.some.inj e
                omega)).mono hsz
              have hne : g5 ≠ g6 := by
                rcases hor6 with h | h
                · have := (hown g6 h).2; omega
                · simp at h; omega
              have hor' : u7.ownBlock = some g6 ∨ wr.heap.size ≤ g6 := by
                rcases hor6 with h | h
                · exact .inl h
                · simp at h; exact .inr (by omega)
              have HGG := Lib.hid (HGR.out.snocV (s := (some ⟨g5, 0, none⟩, len, cap5)) hgr6 hs5 (fun k e => by cases e; exact ⟨hlt5.1, hne⟩) hor' ho6)
              have hb6 := hb.grown hgr6 hsz (fun k e => (hown k e).1)
              clear ho6 hg6 hor6 hs5 hown hgr6 hA
              go_wp2
              go_roundw
              case rel => exact ⟨k + 1, ss ++ [(some ⟨g5, 0, none⟩, len, cap5)], by omega, by go_num, hb6, by rw [HS.out]; exact HGG.out⟩
              case measure => simp [intOf]; omega
            · have HS := Lib.hid (HNO.out (by unfold cutAt; simp [h1]))
              go_wp2
              go_roundw
              case rel => exact ⟨k + 1, ss, by omega, by go_num, hb, by rw [HS.out]; exact HGR.out⟩
              case measure => simp [intOf]; omega
          · have HS := Lib.hid (HNO.out (by unfold cutAt; simp [h0]))
            go_wp2
            go_roundw
            case rel => exact ⟨k + 1, ss, by omega, by go_num, hb, by rw [HS.out]; exact HGR.out⟩
            case measure => simp [intOf]; omega
        · have hkk : k = ps.length := by omega
          have HT := Lib.hid (show ps.take k = ps from List.take_of_length_le (by omega))
          subst hkk
          go_wp2
          go_ret
          rw [HE.out]
          have hfin := HGR.out
          rw [HT.out] at hfin
          exact GotG.mk hfin hb
end Go.Proofs.YtobpnoiienpipaaGreat
