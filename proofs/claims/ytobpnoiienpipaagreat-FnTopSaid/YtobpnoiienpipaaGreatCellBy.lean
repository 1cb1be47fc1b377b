/-
  What is proved: the walk of the program's cellByCell, at what a channel makes of each cell.
  Conditions: the samples can be read, their amounts are bounded, and their number is a multiple of 4.
-/
import Derived.Test.YtobpnoiienpipaaGreatPz16
import Derived.Test.YtobpnoiienpipaaGreatPz06
import Derived.Test.YtobpnoiienpipaaGreatPz09
namespace Go.Proofs.YtobpnoiienpipaaGreat
set_option linter.unusedVariables false
open Go.RowKit Go.Shelf
open Flt (Mag sumv subv mulv quov Q)
attribute [local go_sem] run_store_float run_store_complex unary_negf neg256 Oper.semAt_some

/-- The cell that four of the samples tell. -/
def cellAt (xs : List Nat) (i : Nat) : C3 := decOf (xs.getD (4 * i) 0) (xs.getD (4 * i + 1) 0) (xs.getD (4 * i + 2) 0) (xs.getD (4 * i + 3) 0)
theorem arrayAt4 (g n : Nat) (W : World) : (Instr.arrayAt 162 (.slice (some ⟨g, n, none⟩) 4 4)).run Tryz.prog W = .ok (.pointer (some ⟨g, n, none⟩)) W := by kernel_rfl
/-- What a channel is, as a function of four samples. -/
def chgV (A O X Y : Nat) : Value := .func (.func 198) #[.agg #[.float .f32 A, .float .f32 O, .complex .f32 X Y]] #[]
theorem boxed_ownF {B : Nat} {t : TypeId} {v : Value} {X Y : World} {row : Option Nat} (h : Boxed X B t v) (hg : X.grownBy Y row) (hr : ∀ r, row = some r → ∃ o : Obj, X.heap[r]? = some o ∧ o.isCells = false) : Boxed Y B t v := by
  refine h.kept hg (fun e => ?_)
  obtain ⟨o, h1, h2⟩ := hr B e.symm
  rw [show X.heap[B]? = _ from h] at h1
  cases h1
  cases h2
theorem ownF_own {base : Nat} {v : Value} {xs : List Nat} {X Y : World} {row : Option Nat} (h : OwnF X base v xs) (hg : X.grownBy Y row) (hr : ∀ r, row = some r → ∃ o : Obj, X.heap[r]? = some o ∧ o.isCells = false) : OwnF Y base v xs := by
  refine h.kept hg ?_
  rcases h.2 with ⟨rfl, _⟩ | ⟨g, cap, cur, rfl, _, hgb, _⟩
  · exact .inl rfl
  · refine .inr (fun e => ?_)
    obtain ⟨o, h1, h2⟩ := hr g e.symm
    rw [hgb] at h1
    cases h1
    cases h2
/-- What stands at the head of a round. -/
structure CelI (w0 : World) (b A O X Y : Nat) (a : Option Addr) (L cap : Nat) (xs : List Nat) (m : Nat) (pre : List (Ch m)) (W : World) : Prop where
  made : ∃ v ys, Boxed W (b + 1 + 1) 31 v ∧ OwnF W b v ys ∧ ys = enc (pre.map fun x => txC ⟨A, O, X, Y⟩ (cellAt xs x.1))
  chg : Boxed W b 211 (chgV A O X Y)
  src : Boxed W (b + 3) 31 (.slice a L cap)
  num : Boxed W (b + 3 + 1) 3 (.int .i64 4)
  bel : Below b w0 W
  size : b + 5 ≤ W.heap.size
theorem celI_own (w0 : World) (b A O X Y : Nat) (a : Option Addr) (L cap : Nat) (xs : List Nat) (m B : Nat) (hB : b ≤ B) : OwnFrom B (CelI w0 b A O X Y a L cap xs m) := by
  rintro pre X Y row ⟨⟨v, ys, hb, ho, h3⟩, h1, h4, h5, h6, h7⟩ hg hr
  have hr' : ∀ r, row = some r → ∃ o : Obj, X.heap[r]? = some o ∧ o.isCells = false := fun r e => (hr r e).2
  exact ⟨⟨v, ys, boxed_ownF hb hg hr', ownF_own ho hg hr', h3⟩, boxed_ownF h1 hg hr', boxed_ownF h4 hg hr', boxed_ownF h5 hg hr', h6.grown hg (by omega) (fun r e => Nat.le_trans hB (hr r e).1), Nat.le_trans h7 hg.size⟩
theorem txs_cells (h : Chn) : ∀ (m : Nat) (xs : List Nat), xs.length = 4 * m → txs h xs = enc ((List.range m).map fun i => txC h (cellAt xs i))
  | 0, xs, hx => by
    obtain rfl : xs = [] := List.eq_nil_of_length_eq_zero (by omega)
    rfl
  | m + 1, xs, hx => by
    match xs, hx with
    | s :: t :: u :: v :: rest, hx =>
      have ih := txs_cells h m rest (by simp at hx; omega)
      show tx4 h s t u v ++ txs h rest = _
      rw [ih, List.range_succ_eq_map, List.map_cons, List.map_map]
      show tx4 h s t u v ++ _ = enc ([txC h (cellAt (s :: t :: u :: v :: rest) 0)] ++ _)
      rw [enc_append, enc_one]
      congr 1
theorem idxF_map (m : Nat) : ∀ k h, (idxF m k h).map (fun x => x.1) = List.range k
  | 0, _ => rfl
  | k + 1, h => by rw [List.range_succ, ← idxF_map m k (by omega)]; simp [idxF]
theorem FNew.putD {w : World} {base D : Nat} {v : Value} {xs : List Nat} {o o' : Obj} (h : FNew w base v xs) (hK : w.heap[D]? = some o) (ho : o.isCells = false) : FNew (w.putObj D o') base v xs := by
  refine h.far (grownBy_putObj' w D o') (fun k hk e => ?_)
  have e2 : D = k := Option.some.inj e
  subst e2
  rcases h with ⟨rfl, _⟩ | ⟨g, cap, rfl, _, _, cur, h3, _⟩
  · cases hk
  · have e3 : g = D := Option.some.inj hk
    subst e3
    rw [h3] at hK
    cases hK
    cases ho
theorem stepIn_appendC {F : Fence} {n : Nat} {P : Program} {ops : Array Oper} {o : Oper} {a : Act} {w w' : World} {v y v' : Value} {K : Act → World → Prop} {Q : Exit → Act → World → Prop} {E : Prop}
    (hgd : o.guard = none) (s x : Operand) (t : TypeId) (hop : o.op = Op.call { callee := Callee.builtin Builtin.append, args := #[s, x], argTypes := #[t, t] }) (hs : a.eval s = v) (hx : a.eval x = y)
    (hrun : (Builtin.append_ #[t, t] o.type #[v, y]).run P w = .ok v' w') (hK : K (a.put o.dst v') w') :
    if Region.wanted o (yielded ops a.tmps) = true then Oper.wpIn F n P o a w K Q else E := by
  have hw : Region.wanted o (yielded ops a.tmps) = true := by simp [Region.wanted, hgd]
  rw [if_pos hw]
  unfold Oper.wpIn
  refine ⟨?_, ?_⟩
  · simp [Oper.about, hop, resolve, Target.leads, Sem.run_pure]
  · rw [Oper.semAt_plain F _ _ (by rw [hop]; intro c hc'; cases hc')]
    simp [execOp, hop, resolve, invoke, builtin, hs, hx, hrun, Result.andThen]
    exact hK
/-- The block of a list that a call owns. -/
theorem OwnF.block {w : World} {base j : Nat} {v : Value} {xs : List Nat} (h : OwnF w base v xs) (hj : v.ownBlock = some j) : base ≤ j ∧ ∃ o : Obj, w.heap[j]? = some o ∧ o.isCells = true := by
  refine ⟨(h.lt j hj).1, ?_⟩
  rcases h.2 with ⟨rfl, _⟩ | ⟨g, cap, cur, rfl, _, hgb, _⟩
  · cases hj
  · cases hj
    exact ⟨_, hgb, rfl⟩
/-- A box of another type than the list's numbers stays when the list grows. -/
theorem box_far {W w2 : World} {base B : Nat} {t : TypeId} {u v : Value} {xs : List Nat} (ht : t ≠ 25) (hb : Boxed W B t u) (h : OwnF W base v xs) (hg : W.grownBy w2 v.ownBlock) : Boxed w2 B t u :=
  hb.kept hg (hb.not_row ht h)
theorem cel_next {w0 W W3 w2 : World} {b A O X Y : Nat} {a : Option Addr} {L cap m B : Nat} {xs ys : List Nat} {pre : List (Ch m)} {x : Ch m} {v v2 : Value} {p0 p1 p2 p3 : Nat}
    (hB : B = b + 5) (hp : enc4 (txC ⟨A, O, X, Y⟩ (cellAt xs x.1)) = [p0, p1, p2, p3]) (hys : ys = enc (pre.map fun x => txC ⟨A, O, X, Y⟩ (cellAt xs x.1)))
    (hv : Boxed W (b + 1 + 1) 31 v) (hrow : OwnF W b v ys) (h1 : Boxed W b 211 (chgV A O X Y)) (h4 : Boxed W (b + 3) 31 (.slice a L cap)) (h5 : Boxed W (b + 3 + 1) 3 (.int .i64 4)) (hBs : Below b w0 W) (hsW : b + 5 ≤ W.heap.size)
    (hbw : Below W.heap.size W W3) (hgrow : W3.grownBy w2 v.ownBlock)
    (hown : w2.ownsRow b 25 1 v2 (ys.length + 4) (ys.map (.float .f32) ++ [.float .f32 p0, .float .f32 p1, .float .f32 p2, .float .f32 p3])) :
    KeepsFrom B W (w2.setCell ⟨b + 1 + 1, 0, none⟩ v2) ∧ KeepB (b + 3) (b + 3 + 1) W (w2.setCell ⟨b + 1 + 1, 0, none⟩ v2) ∧ CelI w0 b A O X Y a L cap xs m (pre ++ [x]) (w2.setCell ⟨b + 1 + 1, 0, none⟩ v2) := by
  have hrow1 : OwnF W3 b v ys := hrow.kept (grown_of hbw) (by cases v.ownBlock <;> simp)
  have hmk := box_far (by decide) (hv.kept (grown_of hbw) (by simp)) hrow1 hgrow
  have h1b := (box_far (by decide) (h1.kept (grown_of hbw) (by simp)) hrow1 hgrow).other (B' := b + 1 + 1) (by omega) v2
  have h4b := (box_far (by decide) (h4.kept (grown_of hbw) (by simp)) hrow1 hgrow).other (B' := b + 1 + 1) (by omega) v2
  have h5b := (box_far (by decide) (h5.kept (grown_of hbw) (by simp)) hrow1 hgrow).other (B' := b + 1 + 1) (by omega) v2
  have hsz : b ≤ W3.heap.size := by have := hbw.size; omega
  have hoth : KeepsOthers W3 w2 := KeepsOthers.of_grownBy hgrow (fun j o e ho => by
    obtain ⟨_, o', k1, k2⟩ := hrow1.block e
    rw [k1] at ho
    cases ho
    exact k2)
  have hbel : Below b W3 w2 := (Below.refl b W3).grown hgrow hsz (fun j e => (hrow1.block e).1)
  have q5 := hbel.setCell (p := ⟨b + 1 + 1, 0, none⟩) (show b ≤ b + 1 + 1 by omega) v2
  have hfirst : KeepsFrom B W W3 := KeepsFrom.of_grownBy (grown_of hbw) (fun j e => by cases e)
  refine ⟨hfirst.trans ((hoth.trans (KeepsOthers.setCell _ _ _)).from _), ⟨h4b.trans h4.symm, h5b.trans h5.symm⟩, ⟨⟨_, ys ++ [p0, p1, p2, p3], hmk.set v2, ?_, ?_⟩, h1b, h4b, h5b, (hBs.trans (hbw.mono (by omega))).trans q5, ?_⟩⟩
  · unfold OwnF
    rw [List.length_append, List.map_append]
    exact hown.kept (grownBy_setCell' w2 (b + 1 + 1) v2) (.inr (hmk.not_row (by decide) hown).symm)
  · rw [List.map_append, enc_append, ← hys]
    show _ = ys ++ enc [txC ⟨A, O, X, Y⟩ (cellAt xs x.1)]
    rw [enc_one, hp]
  · have h1 := hbw.size; have h2 := q5.size; omega
set_option maxRecDepth 100000 in
set_option maxHeartbeats 8000000 in
theorem cellBy_in (A O X Y : Nat) (a : Option Addr) (cap m : Nat) (xs : List Nat) (w0 : World) (hx : xs.length = 4 * m) (hl : xs.length ≤ 4000000)
    (hcell : ∀ k (hk : k < xs.length), ∃ g o, a = some ⟨g, o, none⟩ ∧ xs.length ≤ cap ∧ w0.cell? ⟨g, o + k, none⟩ = some (.float .f32 xs[k]))
    (hh : MagH ⟨A, O, X, Y⟩) (hm : ∀ x ∈ xs, Mag 160 x) :
    CallsIn Fence.wide 3 Tryz.prog 200 #[.slice a xs.length cap, .func (.func 198) #[.agg #[.float .f32 A, .float .f32 O, .complex .f32 X Y]] #[]] w0 fun e w' => EncPost (txs ⟨A, O, X, Y⟩ xs) w0 e w' := by
  refine callsIn_of_wp_marks Tryz.func200 rfl trivial ?_ rfl
  simp only [Tryz.ntmps200, List.size_toArray, List.length_cons, List.length_nil, Nat.reduceAdd, Nat.reduceSub, Array.replicate_succ, Array.replicate_zero, List.push_toArray, List.append_toArray, List.nil_append, List.cons_append]
  obtain ⟨L, hL⟩ : ∃ L, xs.length = L := ⟨_, rfl⟩
  rw [hL] at hx ⊢
  have HC := Lib.hid hcell
  have HX := Lib.hid hx
  obtain ⟨b, hb⟩ : ∃ b, w0.heap.size = b := ⟨_, rfl⟩
  have hmk := make_cap L (by omega) (w0.alloc (.cells #[.func (.func 198) #[.agg #[.float .f32 A, .float .f32 O, .complex .f32 X Y]] #[]] 211))
  have hO0 := own_cap (w0.alloc (.cells #[.func (.func 198) #[.agg #[.float .f32 A, .float .f32 O, .complex .f32 X Y]] #[]] 211)) L (by omega)
  have hB0 := Boxed.new w0 211 (.func (.func 198) #[.agg #[.float .f32 A, .float .f32 O, .complex .f32 X Y]] #[])
  rw [World.size_alloc, hb] at hO0
  rw [hb] at hB0
  have hb0 : Below w0.heap.size w0 (((w0.alloc (.cells #[.func (.func 198) #[.agg #[.float .f32 A, .float .f32 O, .complex .f32 X Y]] #[]] 211)).alloc (.cells (madeCells #[.float .f32 0] L) 25)).alloc (.cells #[.slice (some ⟨w0.heap.size + 1, 0, none⟩) 0 L] 31)) := (((Below.refl _ _).alloc (Nat.le_refl _) _).alloc (by simp) _).alloc (by simp; omega) _
  have hs2 : (((w0.alloc (.cells #[.func (.func 198) #[.agg #[.float .f32 A, .float .f32 O, .complex .f32 X Y]] #[]] 211)).alloc (.cells (madeCells #[.float .f32 0] L) 25)).alloc (.cells #[.slice (some ⟨w0.heap.size + 1, 0, none⟩) 0 L] 31)).heap.size = w0.heap.size + 3 := by simp
  have hbox := Boxed.new ((w0.alloc (.cells #[.func (.func 198) #[.agg #[.float .f32 A, .float .f32 O, .complex .f32 X Y]] #[]] 211)).alloc (.cells (madeCells #[.float .f32 0] L) 25)) 31 (.slice (some ⟨w0.heap.size + 1, 0, none⟩) 0 L)
  rw [World.size_alloc, World.size_alloc] at hbox
  have hown := (hO0.alloc (.cells #[.slice (some ⟨w0.heap.size + 1, 0, none⟩) 0 L] 31))
  have hch := (hB0.alloc (.cells (madeCells #[.float .f32 0] L) 25)).alloc (.cells #[.slice (some ⟨w0.heap.size + 1, 0, none⟩) 0 L] 31)
  rw [hb] at hb0 hs2 hbox hown hch
  clear hcell hx hO0 hB0
  gi_wp2_with fail
  try rw [hb]
  clear hmk
  generalize ((w0.alloc (.cells #[.func (.func 198) #[.agg #[.float .f32 A, .float .f32 O, .complex .f32 X Y]] #[]] 211)).alloc (.cells (madeCells #[.float .f32 0] L) 25)).alloc (.cells #[.slice (some ⟨b + 1, 0, none⟩) 0 L] 31) = wy at *
  refine ⟨trivial, callsIn_wide.2 ((chunk_any a L cap _).mono ?_)⟩
  rintro e wz ⟨rfl, hwz⟩
  rw [hs2]
  have hbz : Below b w0 wz := by
    rw [hwz]
    exact (hb0.alloc (by omega) _).alloc (by simp; omega) _
  have hsz : wz.heap.size = b + 5 := by rw [hwz]; simp [hs2]
  have hbox := ((hbox.alloc (.cells #[.slice a L cap] 31)).alloc (.cells #[.int .i64 4] 3))
  have hown := ((hown.alloc (.cells #[.slice a L cap] 31)).alloc (.cells #[.int .i64 4] 3))
  have hch := ((hch.alloc (.cells #[.slice a L cap] 31)).alloc (.cells #[.int .i64 4] 3))
  rw [← hwz] at hbox hown hch
  have h4 : Boxed wz (b + 3) 31 (.slice a L cap) := by
    have := Boxed.new wy 31 (.slice a L cap)
    rw [hs2] at this
    rw [hwz]
    exact this.alloc _
  have h5 : Boxed wz (b + 4) 3 (.int .i64 4) := by
    have := Boxed.new (wy.alloc (.cells #[.slice a L cap] 31)) 3 (.int .i64 4)
    rw [World.size_alloc, hs2] at this
    rw [hwz]
    exact this
  clear hwz hs2 hb0
  obtain ⟨g, o, had, hcl0⟩ : ∃ g o, (0 < L → a = some ⟨g, o, none⟩ ∧ L ≤ cap) ∧ ∀ k (hk : k < xs.length), w0.cell? ⟨g, o + k, none⟩ = some (.float .f32 xs[k]) := by
    by_cases h0 : 0 < L
    · obtain ⟨g, o, e1, e2, _⟩ := HC.out 0 (by omega)
      refine ⟨g, o, fun _ => ⟨e1, by omega⟩, fun k hk => ?_⟩
      obtain ⟨g', o', e1', _, e3⟩ := HC.out k hk
      rw [e1] at e1'
      cases e1'
      exact e3
    · exact ⟨0, 0, fun h => absurd h h0, fun k hk => absurd hk (by omega)⟩
  have HCL0 := Lib.hid hcl0
  have HMG := Lib.hid hm
  have hszz : wz.heap.size = b + 5 := hsz
  clear hcl0 HC hm
  obtain ⟨i0, hi, hz0, hz1, hz2⟩ := info_parts info_f32
  have HSQ := Lib.hid (chunk_hands 2 (by omega) wz (b + 3) (b + 3 + 1) g o cap L m a had HX.out (by omega) h4.cell h5.cell)
  have HI0 := Lib.hid (show CelI w0 b A O X Y a L cap xs m [] wz from ⟨⟨_, [], hbox, OwnF.mono hown (by omega), rfl⟩, hch, h4, h5, hbz, by omega⟩)
  clear hbox hown had hch
  gi_wp2
  refine wpIn_rangeFunc_ownG rfl (by omega) (gf := 180) (lb := #[.pointer (some ⟨b + 3, 0, none⟩), .pointer (some ⟨b + 3 + 1, 0, none⟩)]) rfl trivial (enters_of Tryz.func180 (by kernel_rfl) rfl) HSQ.out (fun h k => h.trans k) (KeepB.put (by omega) (by omega)) (Below.refl _ _) (fun _ => rfl)
    (CelI w0 b A O X Y a L cap xs m)
    (fun _ _ _ => False)
    (celI_own w0 b A O X Y a L cap xs m _ (by omega))
    (fun _ _ _ _ _ hs _ _ => hs)
    HI0.out
    (fun x => { tmps := #[.slice a L cap, .func (.func 198) #[.agg #[.float .f32 A, .float .f32 O, .complex .f32 X Y]] #[], undef, .pointer (some ⟨b, 0, none⟩), .slice none 0 0, .pointer (some ⟨b + 1 + 1, 0, none⟩), chv g o x.1, undef, .slice a L cap, .int .i64 (L : Int), .slice (some ⟨b + 1, 0, none⟩) 0 L, .slice a L cap, .func (.func 180) #[] #[.pointer (some ⟨b + 3, 0, none⟩), .pointer (some ⟨b + 3 + 1, 0, none⟩)], chv g o x.1, undef, undef, undef, undef, undef, undef, undef, undef, undef], defers := [] }) ?assign ?body ?done ?stop
  case assign =>
    intro l x W K hK
    gi_wp2
    exact hK
  case body =>
    rintro l pre x W ⟨⟨v, ys, hv, hrow, hys⟩, h1, h4, h5, hBB, hsW⟩ hlt
    obtain ⟨q, hq⟩ := x
    have hc := h1.cell
    have hmx : Tryz.prog.follows .mixedOrders = true := by kernel_rfl
    have hylen : ys.length ≤ 4000000 := by rw [hys, enc_len, List.length_map]; rw [idxF_len] at hlt; have := HX.out; omega
    have hk4 : 4 * q + 4 ≤ xs.length := by have := HX.out; omega
    have hBB' : Below w0.heap.size w0 W := by rw [hb]; exact hBB
    have m0 := (grown_of hBB').cell (HCL0.out (4 * q) (by omega)) (by simp)
    have m1 := (grown_of hBB').cell (HCL0.out (4 * q + 1) (by omega)) (by simp)
    have m2 := (grown_of hBB').cell (HCL0.out (4 * q + 2) (by omega)) (by simp)
    have m3 := (grown_of hBB').cell (HCL0.out (4 * q + 3) (by omega)) (by simp)
    rw [← Nat.add_assoc] at m1 m2 m3
    have e0 := HMG.out _ (List.getElem_mem (show 4 * q < xs.length by omega))
    have e1 := HMG.out _ (List.getElem_mem (show 4 * q + 1 < xs.length by omega))
    have e2 := HMG.out _ (List.getElem_mem (show 4 * q + 2 < xs.length by omega))
    have e3 := HMG.out _ (List.getElem_mem (show 4 * q + 3 < xs.length by omega))
    have g0 : xs.getD (4 * q) 0 = xs[4 * q]'(by omega) := by rw [List.getD_eq_getElem?_getD, List.getElem?_eq_getElem (by omega)]; rfl
    have g1 : xs.getD (4 * q + 1) 0 = xs[4 * q + 1]'(by omega) := by rw [List.getD_eq_getElem?_getD, List.getElem?_eq_getElem (by omega)]; rfl
    have g2 : xs.getD (4 * q + 2) 0 = xs[4 * q + 2]'(by omega) := by rw [List.getD_eq_getElem?_getD, List.getElem?_eq_getElem (by omega)]; rfl
    have g3 : xs.getD (4 * q + 3) 0 = xs[4 * q + 3]'(by omega) := by rw [List.getD_eq_getElem?_getD, List.getElem?_eq_getElem (by omega)]; rfl
    rw [← g0] at m0 e0
    rw [← g1] at m1 e1
    rw [← g2] at m2 e2
    rw [← g3] at m3 e3
    obtain ⟨cx, hcx⟩ : ∃ cx, txC ⟨A, O, X, Y⟩ (cellAt xs q) = cx := ⟨_, rfl⟩
    have hcx' : txC ⟨A, O, X, Y⟩ (decOf (xs.getD (4 * q) 0) (xs.getD (4 * q + 1) 0) (xs.getD (4 * q + 2) 0) (xs.getD (4 * q + 3) 0)) = cx := hcx
    have HCX := Lib.hid hcx
    generalize xs.getD (4 * q) 0 = s at *
    generalize xs.getD (4 * q + 1) 0 = t at *
    generalize xs.getD (4 * q + 2) 0 = u at *
    generalize xs.getD (4 * q + 3) 0 = z at *
    have hcl := fun W' => onCell_any A O X Y s t u z W' hh e0 e1 e2 e3
    rw [hcx'] at hcl
    obtain ⟨p0, hp0⟩ : ∃ p0, addv cx.1 cx.2.1 = p0 := ⟨_, rfl⟩
    obtain ⟨p1, hp1⟩ : ∃ p1, addv cx.1 (Op.negFloat .f32 cx.2.2) = p1 := ⟨_, rfl⟩
    obtain ⟨p2, hp2⟩ : ∃ p2, addv cx.1 (Op.negFloat .f32 cx.2.1) = p2 := ⟨_, rfl⟩
    obtain ⟨p3, hp3⟩ : ∃ p3, addv cx.1 cx.2.2 = p3 := ⟨_, rfl⟩
    unfold Arr4 at hcl
    simp only [hp0, hp1, hp2, hp3] at hcl
    have HP4 := Lib.hid (show enc4 (txC ⟨A, O, X, Y⟩ (cellAt xs q)) = [p0, p1, p2, p3] by rw [hcx, ← hp0, ← hp1, ← hp2, ← hp3]; rfl)
    have HCL := fun W' => Lib.hid ((callsIn_wide (n := 3 - 1 - 1 - 1)).2 (hcl W'))
    have HST := Lib.hid (And.intro hys (And.intro hv hrow))
    clear g0 g1 g2 g3 e0 e1 e2 e3 hcl hcx hcx' hp0 hp1 hp2 hp3 hys hv hrow
    have har := fun W' => arrayAt4 g (o + 4 * q) W'
    unfold chv
    unfold chgV at hc
    have hzg := grown_of ((Below.refl _ W).alloc (Nat.le_refl _) (.cells #[.float .f32 0, .float .f32 0, .float .f32 0, .float .f32 0] 162))
    have n0 := hzg.cell m0 (by simp)
    have n1 := hzg.cell m1 (by simp)
    have n2 := hzg.cell m2 (by simp)
    have n3 := hzg.cell m3 (by simp)
    have nc := hzg.cell hc (by simp)
    clear hzg
    gi_wp2
    gi_region_with (first | (refine ⟨trivial, ?_⟩; gi_at_call 198; refine (CallsIn.inRound l (HCL _).out).mono ?_; rintro e W1 ⟨rfl, hb1⟩; (first | (have hdr : W.heap.size < (W.drew.alloc (.cells #[.float .f32 0, .float .f32 0, .float .f32 0, .float .f32 0] 162)).heap.size := (show W.heap.size < (W.alloc (.cells #[.float .f32 0, .float .f32 0, .float .f32 0, .float .f32 0] 162)).heap.size by (rw [World.size_alloc]; exact Nat.lt_succ_self _)); have harr1 : ArrF W1 W.heap.size 0 [] := (show ArrF (W.drew.alloc (.cells #[.float .f32 0, .float .f32 0, .float .f32 0, .float .f32 0] 162)) W.heap.size 0 [] from ArrF.start W []).kept (hb1.block _ hdr); have hA1 : W1.heap[W.heap.size]? = some (.cells #[.float .f32 0, .float .f32 0, .float .f32 0, .float .f32 0] 162 (0, 0)) := (hb1.block _ hdr).trans (heap_alloc_new W (.cells #[.float .f32 0, .float .f32 0, .float .f32 0, .float .f32 0] 162)); have hbw : Below W.heap.size W W1 := below_trans (show Below W.heap.size W (W.drew.alloc (.cells #[.float .f32 0, .float .f32 0, .float .f32 0, .float .f32 0] 162)) from ((Below.refl _ W).drew).alloc (Nat.le_refl _) (.cells #[.float .f32 0, .float .f32 0, .float .f32 0, .float .f32 0] 162)) hb1 (Nat.le_of_lt hdr); obtain ⟨⟨x0, c0⟩, f0⟩ := harr1.at 0 (by decide); obtain ⟨⟨x1, c1⟩, f1⟩ := harr1.at 1 (by decide); obtain ⟨⟨x2, c2⟩, f2⟩ := harr1.at 2 (by decide); obtain ⟨⟨x3, c3⟩, f3⟩ := harr1.at 3 (by decide)) | (have hdr : W.heap.size < ((W.alloc (.cells #[.float .f32 0, .float .f32 0, .float .f32 0, .float .f32 0] 162)).drew).heap.size := (show W.heap.size < (W.alloc (.cells #[.float .f32 0, .float .f32 0, .float .f32 0, .float .f32 0] 162)).heap.size by (rw [World.size_alloc]; exact Nat.lt_succ_self _)); have harr1 : ArrF W1 W.heap.size 0 [] := (show ArrF ((W.alloc (.cells #[.float .f32 0, .float .f32 0, .float .f32 0, .float .f32 0] 162)).drew) W.heap.size 0 [] from ArrF.start W []).kept (hb1.block _ hdr); have hA1 : W1.heap[W.heap.size]? = some (.cells #[.float .f32 0, .float .f32 0, .float .f32 0, .float .f32 0] 162 (0, 0)) := (hb1.block _ hdr).trans (heap_alloc_new W (.cells #[.float .f32 0, .float .f32 0, .float .f32 0, .float .f32 0] 162)); have hbw : Below W.heap.size W W1 := below_trans (show Below W.heap.size W ((W.alloc (.cells #[.float .f32 0, .float .f32 0, .float .f32 0, .float .f32 0] 162)).drew) from ((Below.refl _ W).alloc (Nat.le_refl _) (.cells #[.float .f32 0, .float .f32 0, .float .f32 0, .float .f32 0] 162)).drew) hb1 (Nat.le_of_lt hdr); obtain ⟨⟨x0, c0⟩, f0⟩ := harr1.at 0 (by decide); obtain ⟨⟨x1, c1⟩, f1⟩ := harr1.at 1 (by decide); obtain ⟨⟨x2, c2⟩, f2⟩ := harr1.at 2 (by decide); obtain ⟨⟨x3, c3⟩, f3⟩ := harr1.at 3 (by decide)) | skip)))
    all_goals
      first
      | (have hb3 : Below W.heap.size W (W1.alloc (.cells #[.float .f32 p0, .float .f32 p1, .float .f32 p2, .float .f32 p3] 162)) := (below_trans (show Below W.heap.size W W.drew from (Below.refl _ W).drew) hb1 (Nat.le_refl _)).alloc (by have h8 : W.heap.size ≤ W1.heap.size := hb1.size; exact h8) _
         have hx3 := heap_alloc_new W1 (.cells #[.float .f32 p0, .float .f32 p1, .float .f32 p2, .float .f32 p3] 162)
         generalize W1.alloc (.cells #[.float .f32 p0, .float .f32 p1, .float .f32 p2, .float .f32 p3] 162) = W3 at *)
      | (have hb3 : Below W.heap.size W ((((W1.setCell ⟨W.heap.size, 0, none⟩ (.float .f32 p0)).setCell ⟨W.heap.size, 1, none⟩ (.float .f32 p1)).setCell ⟨W.heap.size, 2, none⟩ (.float .f32 p2)).setCell ⟨W.heap.size, 3, none⟩ (.float .f32 p3)) := (((hbw.setCell (p := ⟨W.heap.size, 0, none⟩) (Nat.le_refl _) _).setCell (p := ⟨W.heap.size, 1, none⟩) (Nat.le_refl _) _).setCell (p := ⟨W.heap.size, 2, none⟩) (Nat.le_refl _) _).setCell (p := ⟨W.heap.size, 3, none⟩) (Nat.le_refl _) _
         have hx3 : ((((W1.setCell ⟨W.heap.size, 0, none⟩ (.float .f32 p0)).setCell ⟨W.heap.size, 1, none⟩ (.float .f32 p1)).setCell ⟨W.heap.size, 2, none⟩ (.float .f32 p2)).setCell ⟨W.heap.size, 3, none⟩ (.float .f32 p3)).heap[W.heap.size]? = some (.cells #[.float .f32 p0, .float .f32 p1, .float .f32 p2, .float .f32 p3] 162 (0, 0)) := by
           have h9 := heap_put (i := 3) (v := .float .f32 p3) (heap_put (i := 2) (v := .float .f32 p2) (heap_put (i := 1) (v := .float .f32 p1) (heap_put (i := 0) (v := .float .f32 p0) hA1)))
           simpa using h9
         generalize ((((W1.setCell ⟨W.heap.size, 0, none⟩ (.float .f32 p0)).setCell ⟨W.heap.size, 1, none⟩ (.float .f32 p1)).setCell ⟨W.heap.size, 2, none⟩ (.float .f32 p2)).setCell ⟨W.heap.size, 3, none⟩ (.float .f32 p3)) = W3 at *)
      have hv3 : Boxed W3.drew (b + 1 + 1) 31 v := HST.out.2.1.kept (grown_of hb3.drew) (by simp)
      have hrow3 : OwnF W3.drew b v ys := HST.out.2.2.kept (grown_of hb3.drew) (by cases v.ownBlock <;> simp)
      have hs3 : b ≤ W3.drew.heap.size := by have h8 := hb3.size; have h9 : W3.drew.heap.size = W3.heap.size := rfl; omega
      obtain ⟨v2, w2, hrun, hown2, hgrow2, _⟩ := run_append_own (P := Tryz.prog) W3.drew b 31 31 25 i0 _ 1 4 Tryz.underlying31 hi hz0 hz1 hz2 rfl (by decide) v ys.length (ys.map (.float .f32)) hrow3 ⟨_, 0, none⟩ 4 4 [.float .f32 p0, .float .f32 p1, .float .f32 p2, .float .f32 p3] rfl (World.news_of_block (show W3.drew.heap[_]? = _ from hx3)) (by simp [Value.oneCell']) (by unfold maxLen; omega) (by omega) hs3
      obtain ⟨g2, cap2, rfl⟩ := ownsRow_succ hown2
      have q1 := box_far (by decide) hv3 hrow3 hgrow2
      have HOW := Lib.hid hown2
      have e0 := hv3.cell
      have hc1 := q1.cell
      have hf1 := q1.frozen
      clear hv3 hrow3 hown2 m0 m1 m2 m3 n0 n1 n2 n3 nc
      gi_wp2
      refine wpIn_region_any hmx ?_
      try (change wpAnyIn _ _ _ _ _ _ _ _ _ (World.drew _))
      refine wpAnyIn_ready (rs := [0, 1]) (by kernel_rfl) (by simp) (AllReadyIn.cons rfl (fun K hK => ?_) (AllReadyIn.cons rfl (fun K hK => ?_) AllReadyIn.nil))
      · (go_simp; refine hK _ _ ?_; clear hK K)
        refine wpAnyIn_ready (rs := [1]) (by kernel_rfl) (by simp) (AllReadyIn.cons rfl (fun K hK => ?_) AllReadyIn.nil)
        (go_simp; refine hK _ _ ?_; clear hK K)
        refine wpAnyIn_ready (rs := [2]) (by kernel_rfl) (by simp) (AllReadyIn.cons rfl (fun K hK => ?_) AllReadyIn.nil)
        (refine stepIn_appendC rfl (.tmp 19) (.tmp 20) 31 rfl rfl rfl hrun ?_; refine hK _ _ ?_; clear hK K)
        refine wpAnyIn_ready (rs := [3]) (by kernel_rfl) (by simp) (AllReadyIn.cons rfl (fun K hK => ?_) AllReadyIn.nil)
        (go_simp; refine hK _ _ ?_; clear hK K)
        refine wpAnyIn_done (by kernel_rfl) ?_ _
        exact cel_next (x := ⟨q, hq⟩) hszz HP4.out HST.out.1 HST.out.2.1 HST.out.2.2 h1 h4 h5 hBB hsW hb3.drew hgrow2 HOW.out
      · (go_simp; refine hK _ _ ?_; clear hK K)
        refine wpAnyIn_ready (rs := [0]) (by kernel_rfl) (by simp) (AllReadyIn.cons rfl (fun K hK => ?_) AllReadyIn.nil)
        (go_simp; refine hK _ _ ?_; clear hK K)
        refine wpAnyIn_ready (rs := [2]) (by kernel_rfl) (by simp) (AllReadyIn.cons rfl (fun K hK => ?_) AllReadyIn.nil)
        (refine stepIn_appendC rfl (.tmp 19) (.tmp 20) 31 rfl rfl rfl hrun ?_; refine hK _ _ ?_; clear hK K)
        refine wpAnyIn_ready (rs := [3]) (by kernel_rfl) (by simp) (AllReadyIn.cons rfl (fun K hK => ?_) AllReadyIn.nil)
        (go_simp; refine hK _ _ ?_; clear hK K)
        refine wpAnyIn_done (by kernel_rfl) ?_ _
        exact cel_next (x := ⟨q, hq⟩) hszz HP4.out HST.out.1 HST.out.2.1 HST.out.2.2 h1 h4 h5 hBB hsW hb3.drew hgrow2 HOW.out
  case done =>
    rintro D ys W hD rfl ⟨⟨v, ys, hv, hrow, hys⟩, h1, h4, h5, hBB, hsW⟩ hK
    have hyt : ys = txs ⟨A, O, X, Y⟩ xs := by
      rw [txs_cells _ m xs (by have := HX.out; omega), hys, ← idxF_map m m (Nat.le_refl m), List.map_map]
      rfl
    have HY := Lib.hid hyt
    have HN := Lib.hid hrow.new
    have hc := hv.cell
    have hBB' : Below w0.heap.size w0 W := by rw [hb]; exact hBB
    clear hys hyt
    gi_wp2
    refine ⟨by simp, .inl ⟨_, _, rfl, run_takeDeferred hK, ?_⟩⟩
    refine ⟨_, results_tmp rfl _ _ _, v, rfl, ?_, ?_⟩
    · rw [← HY.out, hb]; exact HN.out.putD hK rfl
    · exact hBB'.trans (belowK_b (w := w0) (Nat.le_refl _) W D _ _ (by omega) hK rfl rfl)
  case stop =>
    rintro D c pre W _ _ h _
    exact h.elim
theorem cellBy_any (A O X Y : Nat) (v : Value) (xs : List Nat) (w : World) (h : FRow w v xs) (hm4 : xs.length % 4 = 0) (hl : xs.length ≤ 4000000) (hh : MagH ⟨A, O, X, Y⟩) (hm : ∀ x ∈ xs, Mag 160 x) :
    Calls Tryz.prog 200 #[v, .func (.func 198) #[.agg #[.float .f32 A, .float .f32 O, .complex .f32 X Y]] #[]] w fun e w' => EncPost (txs ⟨A, O, X, Y⟩ xs) w e w' := by
  obtain ⟨a, c, rfl, hcell⟩ := h.any
  exact callsIn_wide.1 (cellBy_in A O X Y a c (xs.length / 4) xs w (by omega) hl hcell hh hm)
end Go.Proofs.YtobpnoiienpipaaGreat
