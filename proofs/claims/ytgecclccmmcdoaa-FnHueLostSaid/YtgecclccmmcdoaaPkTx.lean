/-
  What is proved: the walk of the program's cellByCell, at what a channel makes of each cell.
  Conditions: the samples can be read, their amounts are bounded, and their number is a multiple of 4.
-/
import Derived.Test.YtgecclccmmcdoaaOnCell
import Derived.Test.YtgecclccmmcdoaaChunk
import Derived.Test.YtgecclccmmcdoaaEncCells
import Derived.Test.YtgecclccmmcdoaaSampOk
import Derived.Test.YtgecclccmmcdoaaDelay
import Derived.Test.YtgecclccmmcdoaaChanOk
namespace Go.Proofs.Ytgecclccmmcdoaa
set_option linter.unusedVariables false
open Go.RowKit Go.Shelf
open Flt (Mag sumv subv mulv quov Q)
attribute [local go_sem] run_store_float run_store_complex unary_negf neg256 Oper.semAt_some

/-- The cell that four of the samples tell. -/
def cellAt (xs : List Nat) (i : Nat) : C3 := decOf (xs.getD (4 * i) 0) (xs.getD (4 * i + 1) 0) (xs.getD (4 * i + 2) 0) (xs.getD (4 * i + 3) 0)
theorem arrayAt4 (g n : Nat) (W : World) : (Instr.arrayAt 133 (.slice (some ⟨g, n, none⟩) 4 4)).run Try.prog W = .ok (.pointer (some ⟨g, n, none⟩)) W := by kernel_rfl
/-- What a channel is, as a function of four samples. -/
def chgV (A O X Y : Nat) : Value := .func (.func 176) #[.agg #[.float .f32 A, .float .f32 O, .complex .f32 X Y]] #[]
theorem boxed_ownF {B : Nat} {t : TypeId} {v : Value} {X Y : World} {row : Option Nat} (h : Boxed X B t v) (hg : X.grownBy Y row) (hr : ∀ r, row = some r → ∃ o : Obj, X.heap[r]? = some o ∧ o.isCells = false) : Boxed Y B t v := by
  refine h.kept hg (fun e => ?_)
  obtain ⟨o, h1, h2⟩ := hr B e.symm
  rw [show X.heap[B]? = _ from h] at h1
  cases h1
  cases h2
theorem ownF_own {base : Nat} {v : Value} {xs : List Nat} {X Y : World} {row : Option Nat} (h : OwnF X base v xs) (hg : X.grownBy Y row) (hr : ∀ r, row = some r → ∃ o : Obj, X.heap[r]? = some o ∧ o.isCells = false) : OwnF Y base v xs := by
  refine h.kept hg ?_
  rcases h.2 with ⟨rfl, _⟩ | ⟨g, cap, cur, rfl, _, hgb, _⟩
  · exact .inl rfl
  · refine .inr (fun e => ?_)
    obtain ⟨o, h1, h2⟩ := hr g e.symm
    rw [hgb] at h1
    cases h1
    cases h2
/-- What stands at the head of a round. -/
structure CelI (w0 : World) (b A O X Y : Nat) (a : Option Addr) (L cap : Nat) (xs : List Nat) (m : Nat) (pre : List (Ch m)) (W : World) : Prop where
  made : ∃ v ys, Boxed W (b + 1 + 1) 32 v ∧ OwnF W b v ys ∧ ys = enc (pre.map fun x => txC ⟨A, O, X, Y⟩ (cellAt xs x.1))
  chg : Boxed W b 181 (chgV A O X Y)
  src : Boxed W (b + 3) 32 (.slice a L cap)
  num : Boxed W (b + 3 + 1) 3 (.int .i64 4)
  bel : Below b w0 W
  size : b + 5 ≤ W.heap.size
theorem celI_own (w0 : World) (b A O X Y : Nat) (a : Option Addr) (L cap : Nat) (xs : List Nat) (m B : Nat) (hB : b ≤ B) : OwnFrom B (CelI w0 b A O X Y a L cap xs m) := by
  rintro pre X Y row ⟨⟨v, ys, hb, ho, h3⟩, h1, h4, h5, h6, h7⟩ hg hr
  have hr' : ∀ r, row = some r → ∃ o : Obj, X.heap[r]? = some o ∧ o.isCells = false := fun r e => (hr r e).2
  exact ⟨⟨v, ys, boxed_ownF hb hg hr', ownF_own ho hg hr', h3⟩, boxed_ownF h1 hg hr', boxed_ownF h4 hg hr', boxed_ownF h5 hg hr', h6.grown hg (by omega) (fun r e => Nat.le_trans hB (hr r e).1), Nat.le_trans h7 hg.size⟩
theorem txs_cells (h : Chn) : ∀ (m : Nat) (xs : List Nat), xs.length = 4 * m → txs h xs = enc ((List.range m).map fun i => txC h (cellAt xs i))
  | 0, xs, hx => by
    obtain rfl : xs = [] := List.eq_nil_of_length_eq_zero (by omega)
    rfl
  | m + 1, xs, hx => by
    match xs, hx with
    | s :: t :: u :: v :: rest, hx =>
      have ih := txs_cells h m rest (by simp at hx; omega)
      show tx4 h s t u v ++ txs h rest = _
      rw [ih, List.range_succ_eq_map, List.map_cons, List.map_map]
      show tx4 h s t u v ++ _ = enc ([txC h (cellAt (s :: t :: u :: v :: rest) 0)] ++ _)
      rw [enc_append, enc_one]
      congr 1
theorem idxF_map (m : Nat) : ∀ k h, (idxF m k h).map (fun x => x.1) = List.range k
  | 0, _ => rfl
  | k + 1, h => by rw [List.range_succ, ← idxF_map m k (by omega)]; simp [idxF]
theorem FNew.putD {w : World} {base D : Nat} {v : Value} {xs : List Nat} {o o' : Obj} (h : FNew w base v xs) (hK : w.heap[D]? = some o) (ho : o.isCells = false) : FNew (w.putObj D o') base v xs := by
  refine h.far (grownBy_putObj' w D o') (fun k hk e => ?_)
  have e2 : D = k := Option.some.inj e
  subst e2
  rcases h with ⟨rfl, _⟩ | ⟨g, cap, rfl, _, _, cur, h3, _⟩
  · cases hk
  · have e3 : g = D := Option.some.inj hk
    subst e3
    rw [h3] at hK
    cases hK
    cases ho
theorem stepIn_appendC {F : Fence} {n : Nat} {P : Program} {ops : Array Oper} {o : Oper} {a : Act} {w w' : World} {v y v' : Value} {K : Act → World → Prop} {Q : Exit → Act → World → Prop} {E : Prop}
    (hgd : o.guard = none) (s x : Operand) (t : TypeId) (hop : o.op = Op.call { callee := Callee.builtin Builtin.append, args := #[s, x], argTypes := #[t, t] }) (hs : a.eval s = v) (hx : a.eval x = y)
    (hrun : (Builtin.append_ #[t, t] o.type #[v, y]).run P w = .ok v' w') (hK : K (a.put o.dst v') w') :
    if Region.wanted o (yielded ops a.tmps) = true then Oper.wpIn F n P o a w K Q else E := by
  have hw : Region.wanted o (yielded ops a.tmps) = true := by simp [Region.wanted, hgd]
  rw [if_pos hw]
  unfold Oper.wpIn
  refine ⟨?_, ?_⟩
  · simp [Oper.about, hop, resolve, Target.leads, Sem.run_pure]
  · rw [Oper.semAt_plain F _ _ (by rw [hop]; intro c hc'; cases hc')]
    simp [execOp, hop, resolve, invoke, builtin, hs, hx, hrun, Result.andThen]
    exact hK
/-- The block of a list that a call owns. -/
theorem OwnF.block {w : World} {base j : Nat} {v : Value} {xs : List Nat} (h : OwnF w base v xs) (hj : v.ownBlock = some j) : base ≤ j ∧ ∃ o : Obj, w.heap[j]? = some o ∧ o.isCells = true := by
  refine ⟨(h.lt j hj).1, ?_⟩
  rcases h.2 with ⟨rfl, _⟩ | ⟨g, cap, cur, rfl, _, hgb, _⟩
  · cases hj
  · cases hj
    exact ⟨_, hgb, rfl⟩
/-- A box of another type than the list's numbers stays when the list grows. -/
theorem box_far {W w2 : World} {base B : Nat} {t : TypeId} {u v : Value} {xs : List Nat} (ht : t ≠ 26) (hb : Boxed W B t u) (h : OwnF W base v xs) (hg : W.grownBy w2 v.ownBlock) : Boxed w2 B t u :=
  hb.kept hg (hb.not_row ht h)
theorem cel_next {w0 W W3 w2 : World} {b A O X Y : Nat} {a : Option Addr} {L cap m B : Nat} {xs ys : List Nat} {pre : List (Ch m)} {x : Ch m} {v v2 : Value} {p0 p1 p2 p3 : Nat}
    (hB : B = b + 5) (hp : enc4 (txC ⟨A, O, X, Y⟩ (cellAt xs x.1)) = [p0, p1, p2, p3]) (hys : ys = enc (pre.map fun x => txC ⟨A, O, X, Y⟩ (cellAt xs x.1)))
    (hv : Boxed W (b + 1 + 1) 32 v) (hrow : OwnF W b v ys) (h1 : Boxed W b 181 (chgV A O X Y)) (h4 : Boxed W (b + 3) 32 (.slice a L cap)) (h5 : Boxed W (b + 3 + 1) 3 (.int .i64 4)) (hBs : Below b w0 W) (hsW : b + 5 ≤ W.heap.size)
    (hbw : Below W.heap.size W W3) (hgrow : W3.grownBy w2 v.ownBlock)
    (hown : w2.ownsRow b 26 1 v2 (ys.length + 4) (ys.map (.float .f32) ++ [.float .f32 p0, .float .f32 p1, .float .f32 p2, .float .f32 p3])) :
    KeepsFrom B W (w2.setCell ⟨b + 1 + 1, 0, none⟩ v2) ∧ KeepB (b + 3) (b + 3 + 1) W (w2.setCell ⟨b + 1 + 1, 0, none⟩ v2) ∧ CelI w0 b A O X Y a L cap xs m (pre ++ [x]) (w2.setCell ⟨b + 1 + 1, 0, none⟩ v2) := by
  have hrow1 : OwnF W3 b v ys := hrow.kept (grown_of hbw) (by cases v.ownBlock <;> simp)
  have hmk := box_far (by decide) (hv.kept (grown_of hbw) (by simp)) hrow1 hgrow
  have h1b := (box_far (by decide) (h1.kept (grown_of hbw) (by simp)) hrow1 hgrow).other (B' := b + 1 + 1) (by omega) v2
  have h4b := (box_far (by decide) (h4.kept (grown_of hbw) (by simp)) hrow1 hgrow).other (B' := b + 1 + 1) (by omega) v2
  have h5b := (box_far (by decide) (h5.kept (grown_of hbw) (by simp)) hrow1 hgrow).other (B' := b + 1 + 1) (by omega) v2
  have hsz : b ≤ W3.heap.size := by have := hbw.size; omega
  have hoth : KeepsOthers W3 w2 := KeepsOthers.of_grownBy hgrow (fun j o e ho => by
    obtain ⟨_, o', k1, k2⟩ := hrow1.block e
    rw [k1] at ho
    cases ho
    exact k2)
  have hbel : Below b W3 w2 := (Below.refl b W3).grown hgrow hsz (fun j e => (hrow1.block e).1)
  have q5 := hbel.setCell (p := ⟨b + 1 + 1, 0, none⟩) (show b ≤ b + 1 + 1 by omega) v2
  have hfirst : KeepsFrom B W W3 := KeepsFrom.of_grownBy (grown_of hbw) (fun j e => by cases e)
  refine ⟨hfirst.trans ((hoth.trans (KeepsOthers.setCell _ _ _)).from _), ⟨h4b.trans h4.symm, h5b.trans h5.symm⟩, ⟨⟨_, ys ++ [p0, p1, p2, p3], hmk.set v2, ?_, ?_⟩, h1b, h4b, h5b, (hBs.trans (hbw.mono (by omega))).trans q5, ?_⟩⟩
  · unfold OwnF
    rw [List.length_append, List.map_append]
    exact hown.kept (grownBy_setCell' w2 (b + 1 + 1) v2) (.inr (hmk.not_row (by decide) hown).symm)
  · rw [List.map_append, enc_append, ← hys]
    show _ = ys ++ enc [txC ⟨A, O, X, Y⟩ (cellAt xs x.1)]
    rw [enc_one, hp]
  · have h1 := hbw.size; have h2 := q5.size; omega
set_option maxRecDepth 100000 in
set_option maxHeartbeats 8000000 in
theorem cellBy_in (A O X Y : Nat) (a : Option Addr) (cap m : Nat) (xs : List Nat) (w0 : World) (hx : xs.length = 4 * m) (hl : xs.length ≤ 4000000)
    (hcell : ∀ k (hk : k < xs.length), ∃ g o, a = some ⟨g, o, none⟩ ∧ xs.length ≤ cap ∧ w0.cell? ⟨g, o + k, none⟩ = some (.float .f32 xs[k]))
    (hh : MagH ⟨A, O, X, Y⟩) (hm : ∀ x ∈ xs, Mag 160 x) :
    CallsIn Fence.wide 3 Try.prog 178 #[.slice a xs.length cap, .func (.func 176) #[.agg #[.float .f32 A, .float .f32 O, .complex .f32 X Y]] #[]] w0 fun e w' => EncPost (txs ⟨A, O, X, Y⟩ xs) w0 e w' := by
  refine callsIn_of_wp_marks Try.func178 rfl trivial ?_ rfl
  simp only [Try.ntmps178, List.size_toArray, List.length_cons, List.length_nil, Nat.reduceAdd, Nat.reduceSub, Array.replicate_succ, Array.replicate_zero, List.push_toArray, List.append_toArray, List.nil_append, List.cons_append]
  obtain ⟨L, hL⟩ : ∃ L, xs.length = L := ⟨_, rfl⟩
  rw [hL] at hx ⊢
  have HC := Lib.hid hcell
  have HX := Lib.hid hx
  obtain ⟨b, hb⟩ : ∃ b, w0.heap.size = b := ⟨_, rfl⟩
  have hmk := make_cap L (by omega) (w0.alloc (.cells #[.func (.func 176) #[.agg #[.float .f32 A, .float .f32 O, .complex .f32 X Y]] #[]] 181))
  have hO0 := own_cap (w0.alloc (.cells #[.func (.func 176) #[.agg #[.float .f32 A, .float .f32 O, .complex .f32 X Y]] #[]] 181)) L (by omega)
  have hB0 := Boxed.new w0 181 (.func (.func 176) #[.agg #[.float .f32 A, .float .f32 O, .complex .f32 X Y]] #[])
  rw [World.size_alloc, hb] at hO0
  rw [hb] at hB0
  have hb0 : Below w0.heap.size w0 (((w0.alloc (.cells #[.func (.func 176) #[.agg #[.float .f32 A, .float .f32 O, .complex .f32 X Y]] #[]] 181)).alloc (.cells (madeCells #[.float .f32 0] L) 26)).alloc (.cells #[.slice (some ⟨w0.heap.size + 1, 0, none⟩) 0 L] 32)) := (((Below.refl _ _).alloc (Nat.le_refl _) _).alloc (by simp) _).alloc (by simp; omega) _
  have hs2 : (((w0.alloc (.cells #[.func (.func 176) #[.agg #[.float .f32 A, .float .f32 O, .complex .f32 X Y]] #[]] 181)).alloc (.cells (madeCells #[.float .f32 0] L) 26)).alloc (.cells #[.slice (some ⟨w0.heap.size + 1, 0, none⟩) 0 L] 32)).heap.size = w0.heap.size + 3 := by simp
  have hbox := Boxed.new ((w0.alloc (.cells #[.func (.func 176) #[.agg #[.float .f32 A, .float .f32 O, .complex .f32 X Y]] #[]] 181)).alloc (.cells (madeCells #[.float .f32 0] L) 26)) 32 (.slice (some ⟨w0.heap.size + 1, 0, none⟩) 0 L)
  rw [World.size_alloc, World.size_alloc] at hbox
  have hown := (hO0.alloc (.cells #[.slice (some ⟨w0.heap.size + 1, 0, none⟩) 0 L] 32))
  have hch := (hB0.alloc (.cells (madeCells #[.float .f32 0] L) 26)).alloc (.cells #[.slice (some ⟨w0.heap.size + 1, 0, none⟩) 0 L] 32)
  rw [hb] at hb0 hs2 hbox hown hch
  clear hcell hx hO0 hB0
  gi_wp2_with fail
  try rw [hb]
  clear hmk
  generalize ((w0.alloc (.cells #[.func (.func 176) #[.agg #[.float .f32 A, .float .f32 O, .complex .f32 X Y]] #[]] 181)).alloc (.cells (madeCells #[.float .f32 0] L) 26)).alloc (.cells #[.slice (some ⟨b + 1, 0, none⟩) 0 L] 32) = wy at *
  refine ⟨trivial, callsIn_wide.2 ((chunk_any a L cap _).mono ?_)⟩
  rintro e wz ⟨rfl, hwz⟩
  rw [hs2]
  have hbz : Below b w0 wz := by
    rw [hwz]
    exact (hb0.alloc (by omega) _).alloc (by simp; omega) _
  have hsz : wz.heap.size = b + 5 := by rw [hwz]; simp [hs2]
  have hbox := ((hbox.alloc (.cells #[.slice a L cap] 32)).alloc (.cells #[.int .i64 4] 3))
  have hown := ((hown.alloc (.cells #[.slice a L cap] 32)).alloc (.cells #[.int .i64 4] 3))
  have hch := ((hch.alloc (.cells #[.slice a L cap] 32)).alloc (.cells #[.int .i64 4] 3))
  rw [← hwz] at hbox hown hch
  have h4 : Boxed wz (b + 3) 32 (.slice a L cap) := by
    have := Boxed.new wy 32 (.slice a L cap)
    rw [hs2] at this
    rw [hwz]
    exact this.alloc _
  have h5 : Boxed wz (b + 4) 3 (.int .i64 4) := by
    have := Boxed.new (wy.alloc (.cells #[.slice a L cap] 32)) 3 (.int .i64 4)
    rw [World.size_alloc, hs2] at this
    rw [hwz]
    exact this
  clear hwz hs2 hb0
  obtain ⟨g, o, had, hcl0⟩ : ∃ g o, (0 < L → a = some ⟨g, o, none⟩ ∧ L ≤ cap) ∧ ∀ k (hk : k < xs.length), w0.cell? ⟨g, o + k, none⟩ = some (.float .f32 xs[k]) := by
    by_cases h0 : 0 < L
    · obtain ⟨g, o, e1, e2, _⟩ := HC.out 0 (by omega)
      refine ⟨g, o, fun _ => ⟨e1, by omega⟩, fun k hk => ?_⟩
      obtain ⟨g', o', e1', _, e3⟩ := HC.out k hk
      rw [e1] at e1'
      cases e1'
      exact e3
    · exact ⟨0, 0, fun h => absurd h h0, fun k hk => absurd hk (by omega)⟩
  have HCL0 := Lib.hid hcl0
  have HMG := Lib.hid hm
  have hszz : wz.heap.size = b + 5 := hsz
  clear hcl0 HC hm
  obtain ⟨i0, hi, hz0, hz1, hz2⟩ := info_parts info_f32
  have HSQ := Lib.hid (chunk_hands 2 (by omega) wz (b + 3) (b + 3 + 1) g o cap L m a had HX.out (by omega) h4.cell h5.cell)
  have HI0 := Lib.hid (show CelI w0 b A O X Y a L cap xs m [] wz from ⟨⟨_, [], hbox, OwnF.mono hown (by omega), rfl⟩, hch, h4, h5, hbz, by omega⟩)
  clear hbox hown had hch
  gi_wp2
  refine wpIn_rangeFunc_ownG rfl (by omega) (gf := 134) (lb := #[.pointer (some ⟨b + 3, 0, none⟩), .pointer (some ⟨b + 3 + 1, 0, none⟩)]) rfl trivial (enters_of Try.func134 (by kernel_rfl) rfl) HSQ.out (fun h k => h.trans k) (KeepB.put (by omega) (by omega)) (Below.refl _ _) (fun _ => rfl)
    (CelI w0 b A O X Y a L cap xs m)
    (fun _ _ _ => False)
    (celI_own w0 b A O X Y a L cap xs m _ (by omega))
    (fun _ _ _ _ _ hs _ _ => hs)
    HI0.out
    (fun x => { tmps := #[.slice a L cap, .func (.func 176) #[.agg #[.float .f32 A, .float .f32 O, .complex .f32 X Y]] #[], undef, .pointer (some ⟨b, 0, none⟩), .slice none 0 0, .pointer (some ⟨b + 1 + 1, 0, none⟩), chv g o x.1, undef, .slice a L cap, .int .i64 (L : Int), .slice (some ⟨b + 1, 0, none⟩) 0 L, .slice a L cap, .func (.func 134) #[] #[.pointer (some ⟨b + 3, 0, none⟩), .pointer (some ⟨b + 3 + 1, 0, none⟩)], chv g o x.1, undef, undef, undef, undef, undef, undef, undef, undef, undef], defers := [] }) ?assign ?body ?done ?stop
  case assign =>
    intro l x W K hK
    gi_wp2
    exact hK
  case body =>
    rintro l pre x W ⟨⟨v, ys, hv, hrow, hys⟩, h1, h4, h5, hBB, hsW⟩ hlt
    obtain ⟨q, hq⟩ := x
    have hc := h1.cell
    have hmx : Try.prog.follows .mixedOrders = true := by kernel_rfl
    have hylen : ys.length ≤ 4000000 := by rw [hys, enc_len, List.length_map]; rw [idxF_len] at hlt; have := HX.out; omega
    have hk4 : 4 * q + 4 ≤ xs.length := by have := HX.out; omega
    have hBB' : Below w0.heap.size w0 W := by rw [hb]; exact hBB
    have m0 := (grown_of hBB').cell (HCL0.out (4 * q) (by omega)) (by simp)
    have m1 := (grown_of hBB').cell (HCL0.out (4 * q + 1) (by omega)) (by simp)
    have m2 := (grown_of hBB').cell (HCL0.out (4 * q + 2) (by omega)) (by simp)
    have m3 := (grown_of hBB').cell (HCL0.out (4 * q + 3) (by omega)) (by simp)
    rw [← Nat.add_assoc] at m1 m2 m3
    have e0 := HMG.out _ (List.getElem_mem (show 4 * q < xs.length by omega))
    have e1 := HMG.out _ (List.getElem_mem (show 4 * q + 1 < xs.length by omega))
    have e2 := HMG.out _ (List.getElem_mem (show 4 * q + 2 < xs.length by omega))
    have e3 := HMG.out _ (List.getElem_mem (show 4 * q + 3 < xs.length by omega))
    have g0 : xs.getD (4 * q) 0 = xs[4 * q]'(by omega) := by rw [List.getD_eq_getElem?_getD, List.getElem?_eq_getElem (by omega)]; rfl
    have g1 : xs.getD (4 * q + 1) 0 = xs[4 * q + 1]'(by omega) := by rw [List.getD_eq_getElem?_getD, List.getElem?_eq_getElem (by omega)]; rfl
    have g2 : xs.getD (4 * q + 2) 0 = xs[4 * q + 2]'(by omega) := by rw [List.getD_eq_getElem?_getD, List.getElem?_eq_getElem (by omega)]; rfl
    have g3 : xs.getD (4 * q + 3) 0 = xs[4 * q + 3]'(by omega) := by rw [List.getD_eq_getElem?_getD, List.getElem?_eq_getElem (by omega)]; rfl
    rw [← g0] at m0 e0
    rw [← g1] at m1 e1
    rw [← g2] at m2 e2
    rw [← g3] at m3 e3
    obtain ⟨cx, hcx⟩ : ∃ cx, txC ⟨A, O, X, Y⟩ (cellAt xs q) = cx := ⟨_, rfl⟩
    have hcx' : txC ⟨A, O, X, Y⟩ (decOf (xs.getD (4 * q) 0) (xs.getD (4 * q + 1) 0) (xs.getD (4 * q + 2) 0) (xs.getD (4 * q + 3) 0)) = cx := hcx
    have HCX := Lib.hid hcx
    generalize xs.getD (4 * q) 0 = s at *
    generalize xs.getD (4 * q + 1) 0 = t at *
    generalize xs.getD (4 * q + 2) 0 = u at *
    generalize xs.getD (4 * q + 3) 0 = z at *
    have hcl := fun W' => onCell_any A O X Y s t u z W' hh e0 e1 e2 e3
    rw [hcx'] at hcl
    obtain ⟨p0, hp0⟩ : ∃ p0, addv cx.1 cx.2.1 = p0 := ⟨_, rfl⟩
    obtain ⟨p1, hp1⟩ : ∃ p1, addv cx.1 (Op.negFloat .f32 cx.2.2) = p1 := ⟨_, rfl⟩
    obtain ⟨p2, hp2⟩ : ∃ p2, addv cx.1 (Op.negFloat .f32 cx.2.1) = p2 := ⟨_, rfl⟩
    obtain ⟨p3, hp3⟩ : ∃ p3, addv cx.1 cx.2.2 = p3 := ⟨_, rfl⟩
    unfold Arr4 at hcl
    simp only [hp0, hp1, hp2, hp3] at hcl
    have HP4 := Lib.hid (show enc4 (txC ⟨A, O, X, Y⟩ (cellAt xs q)) = [p0, p1, p2, p3] by rw [hcx, ← hp0, ← hp1, ← hp2, ← hp3]; rfl)
    have HCL := fun W' => Lib.hid ((callsIn_wide (n := 3 - 1 - 1 - 1)).2 (hcl W'))
    have HST := Lib.hid (And.intro hys (And.intro hv hrow))
    clear g0 g1 g2 g3 e0 e1 e2 e3 hcl hcx hcx' hp0 hp1 hp2 hp3 hys hv hrow
    have har := fun W' => arrayAt4 g (o + 4 * q) W'
    unfold chv
    unfold chgV at hc
    have hzg := grown_of ((Below.refl _ W).alloc (Nat.le_refl _) (.cells #[.float .f32 0, .float .f32 0, .float .f32 0, .float .f32 0] 133))
    have n0 := hzg.cell m0 (by simp)
    have n1 := hzg.cell m1 (by simp)
    have n2 := hzg.cell m2 (by simp)
    have n3 := hzg.cell m3 (by simp)
    have nc := hzg.cell hc (by simp)
    clear hzg
    gi_wp2
    gi_region_with (first | (refine ⟨trivial, ?_⟩; gi_at_call 176; refine (CallsIn.inRound l (HCL _).out).mono ?_; rintro e W1 ⟨rfl, hb1⟩; (first | (have hdr : W.heap.size < (W.drew.alloc (.cells #[.float .f32 0, .float .f32 0, .float .f32 0, .float .f32 0] 133)).heap.size := (show W.heap.size < (W.alloc (.cells #[.float .f32 0, .float .f32 0, .float .f32 0, .float .f32 0] 133)).heap.size by (rw [World.size_alloc]; exact Nat.lt_succ_self _)); have harr1 : ArrF W1 W.heap.size 0 [] := (show ArrF (W.drew.alloc (.cells #[.float .f32 0, .float .f32 0, .float .f32 0, .float .f32 0] 133)) W.heap.size 0 [] from ArrF.start W []).kept (hb1.block _ hdr); have hA1 : W1.heap[W.heap.size]? = some (.cells #[.float .f32 0, .float .f32 0, .float .f32 0, .float .f32 0] 133 (0, 0)) := (hb1.block _ hdr).trans (heap_alloc_new W (.cells #[.float .f32 0, .float .f32 0, .float .f32 0, .float .f32 0] 133)); have hbw : Below W.heap.size W W1 := below_trans (show Below W.heap.size W (W.drew.alloc (.cells #[.float .f32 0, .float .f32 0, .float .f32 0, .float .f32 0] 133)) from ((Below.refl _ W).drew).alloc (Nat.le_refl _) (.cells #[.float .f32 0, .float .f32 0, .float .f32 0, .float .f32 0] 133)) hb1 (Nat.le_of_lt hdr); obtain ⟨⟨x0, c0⟩, f0⟩ := harr1.at 0 (by decide); obtain ⟨⟨x1, c1⟩, f1⟩ := harr1.at 1 (by decide); obtain ⟨⟨x2, c2⟩, f2⟩ := harr1.at 2 (by decide); obtain ⟨⟨x3, c3⟩, f3⟩ := harr1.at 3 (by decide)) | (have hdr : W.heap.size < ((W.alloc (.cells #[.float .f32 0, .float .f32 0, .float .f32 0, .float .f32 0] 133)).drew).heap.size := (show W.heap.size < (W.alloc (.cells #[.float .f32 0, .float .f32 0, .float .f32 0, .float .f32 0] 133)).heap.size by (rw [World.size_alloc]; exact Nat.lt_succ_self _)); have harr1 : ArrF W1 W.heap.size 0 [] := (show ArrF ((W.alloc (.cells #[.float .f32 0, .float .f32 0, .float .f32 0, .float .f32 0] 133)).drew) W.heap.size 0 [] from ArrF.start W []).kept (hb1.block _ hdr); have hA1 : W1.heap[W.heap.size]? = some (.cells #[.float .f32 0, .float .f32 0, .float .f32 0, .float .f32 0] 133 (0, 0)) := (hb1.block _ hdr).trans (heap_alloc_new W (.cells #[.float .f32 0, .float .f32 0, .float .f32 0, .float .f32 0] 133)); have hbw : Below W.heap.size W W1 := below_trans (show Below W.heap.size W ((W.alloc (.cells #[.float .f32 0, .float .f32 0, .float .f32 0, .float .f32 0] 133)).drew) from ((Below.refl _ W).alloc (Nat.le_refl _) (.cells #[.float .f32 0, .float .f32 0, .float .f32 0, .float .f32 0] 133)).drew) hb1 (Nat.le_of_lt hdr); obtain ⟨⟨x0, c0⟩, f0⟩ := harr1.at 0 (by decide); obtain ⟨⟨x1, c1⟩, f1⟩ := harr1.at 1 (by decide); obtain ⟨⟨x2, c2⟩, f2⟩ := harr1.at 2 (by decide); obtain ⟨⟨x3, c3⟩, f3⟩ := harr1.at 3 (by decide)) | skip)))
    all_goals
      first
      | (have hb3 : Below W.heap.size W (W1.alloc (.cells #[.float .f32 p0, .float .f32 p1, .float .f32 p2, .float .f32 p3] 133)) := (below_trans (show Below W.heap.size W W.drew from (Below.refl _ W).drew) hb1 (Nat.le_refl _)).alloc (by have h8 : W.heap.size ≤ W1.heap.size := hb1.size; exact h8) _
         have hx3 := heap_alloc_new W1 (.cells #[.float .f32 p0, .float .f32 p1, .float .f32 p2, .float .f32 p3] 133)
         generalize W1.alloc (.cells #[.float .f32 p0, .float .f32 p1, .float .f32 p2, .float .f32 p3] 133) = W3 at *)
      | (have hb3 : Below W.heap.size W ((((W1.setCell ⟨W.heap.size, 0, none⟩ (.float .f32 p0)).setCell ⟨W.heap.size, 1, none⟩ (.float .f32 p1)).setCell ⟨W.heap.size, 2, none⟩ (.float .f32 p2)).setCell ⟨W.heap.size, 3, none⟩ (.float .f32 p3)) := (((hbw.setCell (p := ⟨W.heap.size, 0, none⟩) (Nat.le_refl _) _).setCell (p := ⟨W.heap.size, 1, none⟩) (Nat.le_refl _) _).setCell (p := ⟨W.heap.size, 2, none⟩) (Nat.le_refl _) _).setCell (p := ⟨W.heap.size, 3, none⟩) (Nat.le_refl _) _
         have hx3 : ((((W1.setCell ⟨W.heap.size, 0, none⟩ (.float .f32 p0)).setCell ⟨W.heap.size, 1, none⟩ (.float .f32 p1)).setCell ⟨W.heap.size, 2, none⟩ (.float .f32 p2)).setCell ⟨W.heap.size, 3, none⟩ (.float .f32 p3)).heap[W.heap.size]? = some (.cells #[.float .f32 p0, .float .f32 p1, .float .f32 p2, .float .f32 p3] 133 (0, 0)) := by
           have h9 := heap_put (i := 3) (v := .float .f32 p3) (heap_put (i := 2) (v := .float .f32 p2) (heap_put (i := 1) (v := .float .f32 p1) (heap_put (i := 0) (v := .float .f32 p0) hA1)))
           simpa using h9
         generalize ((((W1.setCell ⟨W.heap.size, 0, none⟩ (.float .f32 p0)).setCell ⟨W.heap.size, 1, none⟩ (.float .f32 p1)).setCell ⟨W.heap.size, 2, none⟩ (.float .f32 p2)).setCell ⟨W.heap.size, 3, none⟩ (.float .f32 p3)) = W3 at *)
      have hv3 : Boxed W3.drew (b + 1 + 1) 32 v := HST.out.2.1.kept (grown_of hb3.drew) (by simp)
      have hrow3 : OwnF W3.drew b v ys := HST.out.2.2.kept (grown_of hb3.drew) (by cases v.ownBlock <;> simp)
      have hs3 : b ≤ W3.drew.heap.size := by have h8 := hb3.size; have h9 : W3.drew.heap.size = W3.heap.size := rfl; omega
      obtain ⟨v2, w2, hrun, hown2, hgrow2, _⟩ := run_append_own (P := Try.prog) W3.drew b 32 32 26 i0 _ 1 4 Try.underlying32 hi hz0 hz1 hz2 rfl (by decide) v ys.length (ys.map (.float .f32)) hrow3 ⟨_, 0, none⟩ 4 4 [.float .f32 p0, .float .f32 p1, .float .f32 p2, .float .f32 p3] rfl (World.news_of_block (show W3.drew.heap[_]? = _ from hx3)) (by simp [Value.oneCell']) (by unfold maxLen; omega) (by omega) hs3
      obtain ⟨g2, cap2, rfl⟩ := ownsRow_succ hown2
      have q1 := box_far (by decide) hv3 hrow3 hgrow2
      have HOW := Lib.hid hown2
      have e0 := hv3.cell
      have hc1 := q1.cell
      have hf1 := q1.frozen
      clear hv3 hrow3 hown2 m0 m1 m2 m3 n0 n1 n2 n3 nc
      gi_wp2
      refine wpIn_region_any hmx ?_
      try (change wpAnyIn _ _ _ _ _ _ _ _ _ (World.drew _))
      refine wpAnyIn_ready (rs := [0, 1]) (by kernel_rfl) (by simp) (AllReadyIn.cons rfl (fun K hK => ?_) (AllReadyIn.cons rfl (fun K hK => ?_) AllReadyIn.nil))
      · (go_simp; refine hK _ _ ?_; clear hK K)
        refine wpAnyIn_ready (rs := [1]) (by kernel_rfl) (by simp) (AllReadyIn.cons rfl (fun K hK => ?_) AllReadyIn.nil)
        (go_simp; refine hK _ _ ?_; clear hK K)
        refine wpAnyIn_ready (rs := [2]) (by kernel_rfl) (by simp) (AllReadyIn.cons rfl (fun K hK => ?_) AllReadyIn.nil)
        (refine stepIn_appendC rfl (.tmp 19) (.tmp 20) 32 rfl rfl rfl hrun ?_; refine hK _ _ ?_; clear hK K)
        refine wpAnyIn_ready (rs := [3]) (by kernel_rfl) (by simp) (AllReadyIn.cons rfl (fun K hK => ?_) AllReadyIn.nil)
        (go_simp; refine hK _ _ ?_; clear hK K)
        refine wpAnyIn_done (by kernel_rfl) ?_ _
        exact cel_next (x := ⟨q, hq⟩) hszz HP4.out HST.out.1 HST.out.2.1 HST.out.2.2 h1 h4 h5 hBB hsW hb3.drew hgrow2 HOW.out
      · (go_simp; refine hK _ _ ?_; clear hK K)
        refine wpAnyIn_ready (rs := [0]) (by kernel_rfl) (by simp) (AllReadyIn.cons rfl (fun K hK => ?_) AllReadyIn.nil)
        (go_simp; refine hK _ _ ?_; clear hK K)
        refine wpAnyIn_ready (rs := [2]) (by kernel_rfl) (by simp) (AllReadyIn.cons rfl (fun K hK => ?_) AllReadyIn.nil)
        (refine stepIn_appendC rfl (.tmp 19) (.tmp 20) 32 rfl rfl rfl hrun ?_; refine hK _ _ ?_; clear hK K)
        refine wpAnyIn_ready (rs := [3]) (by kernel_rfl) (by simp) (AllReadyIn.cons rfl (fun K hK => ?_) AllReadyIn.nil)
        (go_simp; refine hK _ _ ?_; clear hK K)
        refine wpAnyIn_done (by kernel_rfl) ?_ _
        exact cel_next (x := ⟨q, hq⟩) hszz HP4.out HST.out.1 HST.out.2.1 HST.out.2.2 h1 h4 h5 hBB hsW hb3.drew hgrow2 HOW.out
  case done =>
    rintro D ys W hD rfl ⟨⟨v, ys, hv, hrow, hys⟩, h1, h4, h5, hBB, hsW⟩ hK
    have hyt : ys = txs ⟨A, O, X, Y⟩ xs := by
      rw [txs_cells _ m xs (by have := HX.out; omega), hys, ← idxF_map m m (Nat.le_refl m), List.map_map]
      rfl
    have HY := Lib.hid hyt
    have HN := Lib.hid hrow.new
    have hc := hv.cell
    have hBB' : Below w0.heap.size w0 W := by rw [hb]; exact hBB
    clear hys hyt
    gi_wp2
    refine ⟨by simp, .inl ⟨_, _, rfl, run_takeDeferred hK, ?_⟩⟩
    refine ⟨_, results_tmp rfl _ _ _, v, rfl, ?_, ?_⟩
    · rw [← HY.out, hb]; exact HN.out.putD hK rfl
    · exact hBB'.trans (belowK_b (w := w0) (Nat.le_refl _) W D _ _ (by omega) hK rfl rfl)
  case stop =>
    rintro D c pre W _ _ h _
    exact h.elim
theorem cellBy_any (A O X Y : Nat) (v : Value) (xs : List Nat) (w : World) (h : FRow w v xs) (hm4 : xs.length % 4 = 0) (hl : xs.length ≤ 4000000) (hh : MagH ⟨A, O, X, Y⟩) (hm : ∀ x ∈ xs, Mag 160 x) :
    Calls Try.prog 178 #[v, .func (.func 176) #[.agg #[.float .f32 A, .float .f32 O, .complex .f32 X Y]] #[]] w fun e w' => EncPost (txs ⟨A, O, X, Y⟩ xs) w e w' := by
  obtain ⟨a, c, rfl, hcell⟩ := h.any
  exact callsIn_wide.1 (cellBy_in A O X Y a c (xs.length / 4) xs w (by omega) hl hcell hh hm)
end Go.Proofs.Ytgecclccmmcdoaa

/-
  What is proved: the walks of the program's effects that check samples before and behind another effect.
  Conditions: the samples can be read.
-/
namespace Go.Proofs.Ytgecclccmmcdoaa
set_option linter.unusedVariables false
open Go.RowKit
attribute [local go_sem] run_store_float run_store_complex unary_negf neg256

/-- An effect that checks samples. -/
def chkV : Value := .agg #[.func (.func 95) #[] #[]]
set_option maxHeartbeats 1000000 in
theorem checkYes_any (v : Value) (xs : List Nat) (w : World) (h : FRow w v xs) (hl : xs.length ≤ 4000000) (hok : sampOk xs = true) :
    Calls Try.prog 180 #[.agg #[.func (.func 95) #[] #[]], v] w fun e w' => e = .returned (.tuple #[v, .bool true]) ∧ Below w.heap.size w w' := by
  obtain ⟨a, c, rfl⟩ := h.lenv
  have HS := fun W hr => Lib.hid (samplesOk_any (.slice a xs.length c) xs W hr hl)
  rw [hok] at HS
  have hb0 := (Below.refl w.heap.size w).alloc (Nat.le_refl _) (.cells #[.func (.func 95) #[] #[]] 121)
  have HR := Lib.hid (h.below hb0)
  clear h hok
  go_enter Try.func180, Try.ntmps180
  go_wp2_with fail
  refine (HS _ HR.out).out.mono ?_
  rintro e w1 ⟨rfl, rfl⟩
  go_wp2
  go_ret2
  exact ⟨rfl, hb0⟩
set_option maxHeartbeats 1000000 in
theorem checkNo_any (v : Value) (xs : List Nat) (w : World) (h : FRow w v xs) (hl : xs.length ≤ 4000000) (hok : sampOk xs = false) :
    Calls Try.prog 180 #[.agg #[.func (.func 95) #[] #[]], v] w fun e w' => e = .returned (.tuple #[.slice none 0 0, .bool false]) ∧ Below w.heap.size w w' := by
  obtain ⟨a, c, rfl⟩ := h.lenv
  have HS := fun W hr => Lib.hid (samplesOk_any (.slice a xs.length c) xs W hr hl)
  rw [hok] at HS
  have hb0 := (Below.refl w.heap.size w).alloc (Nat.le_refl _) (.cells #[.func (.func 95) #[] #[]] 121)
  have HR := Lib.hid (h.below hb0)
  clear h hok
  go_enter Try.func180, Try.ntmps180
  go_wp2_with fail
  refine (HS _ HR.out).out.mono ?_
  rintro e w1 ⟨rfl, rfl⟩
  go_wp2
  go_ret2
  exact ⟨rfl, hb0⟩
/-- An answer of a list and whether there is one; the list lies in new memory. -/
def OnB (R : List Nat → Bool → Prop) (w : World) (e : Ending) (w' : World) : Prop := ∃ v ys ok, e = .returned (.tuple #[v, .bool ok]) ∧ R ys ok ∧ FNew w' w.heap.size v ys ∧ Below w.heap.size w w'
/-- What an effect between two checks may answer. -/
def InR (E : List Nat → Bool → Prop) (xs ys : List Nat) (ok : Bool) : Prop := if sampOk xs = true then E ys ok else ys = [] ∧ ok = false
theorem onCheck (v : Value) (w : World) : (method 234 121 v "loop.example/g03326/impl.on").run Try.prog w = .ok (180, v) w := by kernel_rfl
theorem onGain (v : Value) (w : World) : (method 234 78 v "loop.example/g03326/impl.on").run Try.prog w = .ok (175, v) w := by kernel_rfl
theorem onChain (v : Value) (w : World) : (method 234 123 v "loop.example/g03326/impl.on").run Try.prog w = .ok (181, v) w := by kernel_rfl
set_option maxHeartbeats 1000000 in
set_option maxRecDepth 100000 in
theorem innerGain_any (E : List Nat → Bool → Prop) (A O X Y : Nat) (v : Value) (xs : List Nat) (w : World) (h : FRow w v xs) (hl : xs.length ≤ 4000000)
    (HE : sampOk xs = true → ∀ W, FRow W v xs → Hid (Calls Try.prog 175 #[.agg #[.float .f32 A, .float .f32 O, .complex .f32 X Y], v] W fun e w' => OnB E W e w')) :
    Calls Try.prog 181 #[.agg #[.iface 121 (.agg #[.func (.func 95) #[] #[]]), .iface 78 (.agg #[.float .f32 A, .float .f32 O, .complex .f32 X Y])], v] w fun e w' => OnB (InR E xs) w e w' := by
  obtain ⟨a, c, rfl⟩ := h.lenv
  have hb0 := (Below.refl w.heap.size w).alloc (Nat.le_refl _) (.cells #[.iface 121 (.agg #[.func (.func 95) #[] #[]]), .iface 78 (.agg #[.float .f32 A, .float .f32 O, .complex .f32 X Y])] 123)
  have hE := heap_alloc_new w (.cells #[.iface 121 (.agg #[.func (.func 95) #[] #[]]), .iface 78 (.agg #[.float .f32 A, .float .f32 O, .complex .f32 X Y])] 123)
  have hc1 : (w.alloc (.cells #[.iface 121 (.agg #[.func (.func 95) #[] #[]]), .iface 78 (.agg #[.float .f32 A, .float .f32 O, .complex .f32 X Y])] 123)).cell? ⟨w.heap.size, 1, none⟩ = some (.iface 78 (.agg #[.float .f32 A, .float .f32 O, .complex .f32 X Y])) := (cell_of_row _ _ 1 _ _ _ hE).trans rfl
  have hm1 := onCheck (.agg #[.func (.func 95) #[] #[]])
  have HR := Lib.hid (h.below hb0)
  clear hE
  cases hok : sampOk xs with
  | false =>
    have HC := fun W hr => Lib.hid (checkNo_any (.slice a xs.length c) xs W hr hl hok)
    have HQ := Lib.hid (show InR E xs [] false by unfold InR; rw [hok]; exact ⟨rfl, rfl⟩)
    clear hok h
    go_enter Try.func181, Try.ntmps181
    go_wp2_with fail
    generalize w.alloc (.cells #[.iface 121 (.agg #[.func (.func 95) #[] #[]]), .iface 78 (.agg #[.float .f32 A, .float .f32 O, .complex .f32 X Y])] 123) = wA at *
    refine (HC _ HR.out).out.mono ?_
    rintro e w1 ⟨rfl, hb1⟩
    have hb01 := below_trans hb0 hb1 hb0.size
    clear hc1
    go_wp2
    go_ret2
    exact ⟨_, [], false, rfl, HQ.out, FNew.nil _ _, hb01⟩
  | true =>
    have HE := HE hok
    have hm2 := onGain (.agg #[.float .f32 A, .float .f32 O, .complex .f32 X Y])
    have HC := fun W hr => Lib.hid (checkYes_any (.slice a xs.length c) xs W hr hl hok)
    have HQ := fun ys ok (he : E ys ok) => Lib.hid (show InR E xs ys ok by unfold InR; rw [hok]; exact he)
    clear hok h
    go_enter Try.func181, Try.ntmps181
    go_wp2_with fail
    generalize w.alloc (.cells #[.iface 121 (.agg #[.func (.func 95) #[] #[]]), .iface 78 (.agg #[.float .f32 A, .float .f32 O, .complex .f32 X Y])] 123) = wA at *
    refine (HC _ HR.out).out.mono ?_
    rintro e w1 ⟨rfl, hb1⟩
    have hb01 := below_trans hb0 hb1 hb0.size
    have HR1 := Lib.hid (HR.out.below hb1)
    have hc2 := (grown_of hb1).cell hc1 (by simp)
    clear hc1 HR hm1 HC
    go_wp2_with fail
    refine (HE _ HR1.out).out.mono ?_
    rintro e w2 ⟨v2, ys, ok, rfl, he, hn, hb2⟩
    have HE2 := Lib.hid (HQ ys ok he).out
    have HN := Lib.hid (hn.mono hb01.size)
    have hb02 := below_trans hb01 hb2 hb01.size
    clear HQ he hn HE hc2
    go_wp2
    go_ret2
    exact ⟨v2, ys, ok, rfl, HE2.out, HN.out, hb02⟩
/-- What an effect between two checks may answer, checked again. -/
def OutR (I : List Nat → Bool → Prop) (ys : List Nat) (ok : Bool) : Prop := ∃ ys0 ok0, I ys0 ok0 ∧ ((ok0 = true ∧ sampOk ys0 = true ∧ ys = ys0 ∧ ok = true) ∨ ((ok0 = false ∨ sampOk ys0 = false) ∧ ys = [] ∧ ok = false))
set_option maxHeartbeats 1000000 in
set_option maxRecDepth 100000 in
theorem outer_any (I : List Nat → Bool → Prop) (iv : Value) (v : Value) (xs : List Nat) (w : World) (h : FRow w v xs) (hl : ∀ ys ok, I ys ok → ys.length ≤ 4000000)
    (HI : ∀ W, FRow W v xs → Hid (Calls Try.prog 181 #[iv, v] W fun e w' => OnB I W e w')) :
    Calls Try.prog 181 #[.agg #[.iface 123 iv, .iface 121 (.agg #[.func (.func 95) #[] #[]])], v] w fun e w' => OnB (OutR I) w e w' := by
  obtain ⟨a, c, rfl⟩ := h.lenv
  have hb0 := (Below.refl w.heap.size w).alloc (Nat.le_refl _) (.cells #[.iface 123 iv, .iface 121 (.agg #[.func (.func 95) #[] #[]])] 123)
  have hE := heap_alloc_new w (.cells #[.iface 123 iv, .iface 121 (.agg #[.func (.func 95) #[] #[]])] 123)
  have hc1 : (w.alloc (.cells #[.iface 123 iv, .iface 121 (.agg #[.func (.func 95) #[] #[]])] 123)).cell? ⟨w.heap.size, 1, none⟩ = some (.iface 121 (.agg #[.func (.func 95) #[] #[]])) := (cell_of_row _ _ 1 _ _ _ hE).trans rfl
  have hm1 := onChain iv
  have HR := Lib.hid (h.below hb0)
  clear hE h
  go_enter Try.func181, Try.ntmps181
  go_wp2_with fail
  generalize w.alloc (.cells #[.iface 123 iv, .iface 121 (.agg #[.func (.func 95) #[] #[]])] 123) = wA at *
  refine (HI _ HR.out).out.mono ?_
  rintro e w1 ⟨v1, ys, ok, rfl, hi, hn, hb1⟩
  have hb01 := below_trans hb0 hb1 hb0.size
  have hc2 := (grown_of hb1).cell hc1 (by simp)
  have HL := Lib.hid (hl ys ok hi)
  have HII := Lib.hid hi
  have HN := Lib.hid (hn.mono hb0.size)
  obtain ⟨a1, c1, rfl⟩ := hn.row.lenv
  clear hc1 HR hm1 HI hi hn hl
  cases ok with
  | false =>
    clear hc2
    go_wp2
    go_ret2
    exact ⟨_, [], false, rfl, ⟨ys, false, HII.out, .inr ⟨.inl rfl, rfl, rfl⟩⟩, FNew.nil _ _, hb01⟩
  | true =>
    have hm2 := onCheck (.agg #[.func (.func 95) #[] #[]])
    cases hok : sampOk ys with
    | false =>
      have HC := Lib.hid (checkNo_any (.slice a1 ys.length c1) ys w1 HN.out.row HL.out hok)
      have HOK := Lib.hid hok
      clear hok
      go_wp2_with fail
      refine HC.out.mono ?_
      rintro e w2 ⟨rfl, hb2⟩
      have hb02 := below_trans hb01 hb2 hb01.size
      clear hc2
      go_wp2
      go_ret2
      exact ⟨_, [], false, rfl, ⟨ys, true, HII.out, .inr ⟨.inr HOK.out, rfl, rfl⟩⟩, FNew.nil _ _, hb02⟩
    | true =>
      have HC := Lib.hid (checkYes_any (.slice a1 ys.length c1) ys w1 HN.out.row HL.out hok)
      have HOK := Lib.hid hok
      clear hok
      go_wp2_with fail
      refine HC.out.mono ?_
      rintro e w2 ⟨rfl, hb2⟩
      have hb02 := below_trans hb01 hb2 hb01.size
      have HN2 := Lib.hid (HN.out.below hb2)
      clear hc2
      go_wp2
      go_ret2
      exact ⟨_, ys, true, rfl, ⟨ys, true, HII.out, .inl ⟨rfl, HOK.out, rfl, rfl⟩⟩, HN2.out, hb02⟩
end Go.Proofs.Ytgecclccmmcdoaa

/-
  What is proved: the walks of the program's Transmit and Echo, up to what the effect does that stands between the checks.
  Conditions: the samples can be read.
-/
namespace Go.Proofs.Ytgecclccmmcdoaa
set_option linter.unusedVariables false
open Go.RowKit
attribute [local go_sem] run_store_float run_store_complex unary_negf neg256

theorem run_store_fn (P : Program) (w : World) (a : Addr) (m : Mode) (fn : Fn) (first captured : Array Value) : (store a (.func fn first captured) m).run P w = stored P w a (.func fn first captured) m := run_store P w a _ m rfl
attribute [local go_sem] run_store_fn
set_option maxRecDepth 100000 in
theorem checked_any (T : TypeId) (ev : Value) (w : World) :
    Calls Try.prog 53 #[.iface T ev] w fun e w' => e = .returned (.iface 123 (.agg #[.iface 123 (.agg #[.iface 121 (.agg #[.func (.func 95) #[] #[]]), .iface T ev]), .iface 121 (.agg #[.func (.func 95) #[] #[]])])) ∧ Below w.heap.size w w' := by
  have hb0 := (Below.refl w.heap.size w).alloc (Nat.le_refl _) (.cells #[.func (.func 95) #[] #[]] 121)
  go_enter Try.func53, Try.ntmps53
  go_wp2
  go_ret
  exact ⟨rfl, hb0⟩
theorem aheadChain (v : Value) (w : World) : (nilAhead 234 123 v "loop.example/g03326/impl.on").run Try.prog w = .ok (some false) w := by kernel_rfl
set_option maxHeartbeats 1000000 in
set_option maxRecDepth 100000 in
theorem transmitBy_any (E : List Nat → Bool → Prop) (A O X Y : Nat) (v : Value) (xs : List Nat) (w : World) (h : FRow w v xs) (hl : xs.length ≤ 4000000) (hlE : ∀ ys ok, E ys ok → ys.length ≤ 4000000)
    (HE : sampOk xs = true → ∀ W, FRow W v xs → Hid (Calls Try.prog 175 #[.agg #[.float .f32 A, .float .f32 O, .complex .f32 X Y], v] W fun e w' => OnB E W e w')) :
    Calls Try.prog 15 #[.agg #[.float .f32 A, .float .f32 O, .complex .f32 X Y], v] w fun e w' => OnB (OutR (InR E xs)) w e w' := by
  obtain ⟨a, c, rfl⟩ := h.lenv
  have hin : ∀ ys ok, InR E xs ys ok → ys.length ≤ 4000000 := by
    intro ys ok hi
    unfold InR at hi
    split at hi
    · exact hlE ys ok hi
    · rw [hi.1]; exact Nat.zero_le _
  have HO := fun W (hr : FRow W (.slice a xs.length c) xs) => Lib.hid (outer_any (InR E xs) (.agg #[.iface 121 (.agg #[.func (.func 95) #[] #[]]), .iface 78 (.agg #[.float .f32 A, .float .f32 O, .complex .f32 X Y])]) (.slice a xs.length c) xs W hr hin (fun W hr => Lib.hid (innerGain_any E A O X Y (.slice a xs.length c) xs W hr hl HE)))
  have hm := onChain (.agg #[.iface 123 (.agg #[.iface 121 (.agg #[.func (.func 95) #[] #[]]), .iface 78 (.agg #[.float .f32 A, .float .f32 O, .complex .f32 X Y])]), .iface 121 (.agg #[.func (.func 95) #[] #[]])])
  have hb0 := (Below.refl w.heap.size w).alloc (Nat.le_refl _) (.cells #[.float .f32 A, .float .f32 O, .complex .f32 X Y] 29)
  obtain ⟨c0, c1, c2, _, _, _⟩ := (LieC.new w A O X Y).all
  have HR := Lib.hid (h.below hb0)
  clear h HE hlE hin
  go_enter Try.func15, Try.ntmps15
  go_wp2_with fail
  generalize w.alloc (.cells #[.float .f32 A, .float .f32 O, .complex .f32 X Y] 29) = wA at *
  refine (checked_any _ _ _).mono ?_
  rintro e w1 ⟨rfl, hb1⟩
  have HR1 := Lib.hid (HR.out.below hb1)
  have hb1 := below_trans hb0 hb1 hb0.size
  clear c0 c1 c2
  go_wp2_with fail
  refine (HO _ HR1.out).out.mono ?_
  rintro e w2 ⟨v2, ys, ok, rfl, ho, hn, hb2⟩
  have HN := Lib.hid (And.intro ho (hn.mono hb1.size))
  have hb02 := below_trans hb1 hb2 hb1.size
  clear ho hn hm HO
  go_wp2
  go_ret2
  exact ⟨v2, ys, ok, rfl, HN.out.1, HN.out.2, hb02⟩
end Go.Proofs.Ytgecclccmmcdoaa

/-
  What is proved: the walk of the program's Transmit, at channels of small numbers.
  Conditions: the samples can be read; the channel is valid, and its numbers are bounded.
-/
namespace Go.Proofs.Ytgecclccmmcdoaa
set_option linter.unusedVariables false
open Go.RowKit
open Flt (Mag sumv subv mulv quov Q)
attribute [local go_sem] run_store_float run_store_complex unary_negf neg256

theorem txs_len (h : Chn) : ∀ (m : Nat) (xs : List Nat), xs.length = 4 * m → (txs h xs).length = xs.length := by
  intro m xs hx
  rw [txs_cells h m xs hx, enc_len, List.length_map, List.length_range]
  omega
set_option maxHeartbeats 2000000 in
set_option maxRecDepth 100000 in
theorem gainOn_any (A O X Y : Nat) (v : Value) (xs : List Nat) (w : World) (h : FRow w v xs) (hl : xs.length ≤ 4000000) (hok : ChOk ⟨A, O, X, Y⟩) (hh : MagH ⟨A, O, X, Y⟩) (hs : sampOk xs = true) :
    Calls Try.prog 175 #[.agg #[.float .f32 A, .float .f32 O, .complex .f32 X Y], v] w fun e w' => OnB (fun ys ok => ys = txs ⟨A, O, X, Y⟩ xs ∧ ok = true) w e w' := by
  obtain ⟨a, c, rfl⟩ := h.lenv
  have hmf : ∀ (fn : Fn) (first cap : Array Value) (w : World), (Instr.makeFunc fn first cap).run Try.prog w = .ok (.func fn first cap) w := fun _ _ _ _ => rfl
  have hb0 := (Below.refl w.heap.size w).alloc (Nat.le_refl _) (.cells #[.float .f32 A, .float .f32 O, .complex .f32 X Y] 78)
  have hE := heap_alloc_new w (.cells #[.float .f32 A, .float .f32 O, .complex .f32 X Y] 78)
  have HO := fun W => Lib.hid (channelOk_any A O X Y W hok)
  have HC := fun W hr => Lib.hid (cellBy_any A O X Y (.slice a xs.length c) xs W hr (sampOk_len hs).1 hl hh (fun x hx => fin1_mag (sampOk_all hs x hx)))
  have c0 : (w.alloc (.cells #[.float .f32 A, .float .f32 O, .complex .f32 X Y] 78)).cell? ⟨w.heap.size, 0, none⟩ = some (.float .f32 A) := (cell_of_row _ _ 0 _ _ _ hE).trans rfl
  have c1 : (w.alloc (.cells #[.float .f32 A, .float .f32 O, .complex .f32 X Y] 78)).cell? ⟨w.heap.size, 1, none⟩ = some (.float .f32 O) := (cell_of_row _ _ 1 _ _ _ hE).trans rfl
  have c2 : (w.alloc (.cells #[.float .f32 A, .float .f32 O, .complex .f32 X Y] 78)).cell? ⟨w.heap.size, 2, none⟩ = some (.complex .f32 X Y) := (cell_of_row _ _ 2 _ _ _ hE).trans rfl
  have HR := Lib.hid (h.below hb0)
  clear h hE hok hh hs
  go_enter Try.func175, Try.ntmps175
  go_wp2_with fail
  generalize w.alloc (.cells #[.float .f32 A, .float .f32 O, .complex .f32 X Y] 78) = wA at *
  refine (HO _).out.mono ?_
  rintro e w1 ⟨rfl, hb1⟩
  have k0 := (grown_of hb1).cell c0 (by simp)
  have k1 := (grown_of hb1).cell c1 (by simp)
  have k2 := (grown_of hb1).cell c2 (by simp)
  have HR1 := Lib.hid (HR.out.below hb1)
  have hb01 := below_trans hb0 hb1 hb0.size
  clear c0 c1 c2 HR hb1
  go_wp2_with fail
  refine (HC _ HR1.out).out.mono ?_
  rintro e w2 ⟨v2, rfl, hn2, hb2⟩
  have HN := Lib.hid (hn2.mono hb01.size)
  have hb02 := below_trans hb01 hb2 hb01.size
  clear hn2 hb2
  go_wp2
  go_ret2
  exact ⟨v2, _, true, rfl, ⟨rfl, rfl⟩, HN.out, hb02⟩
/-- A channel of small numbers, and samples that it takes to valid ones. -/
theorem transmit_any (A O X Y : Nat) (v : Value) (xs : List Nat) (w : World) (h : FRow w v xs) (hok : ChOk ⟨A, O, X, Y⟩) (hh : MagH ⟨A, O, X, Y⟩) (hs : sampOk xs = true) (ht : sampOk (txs ⟨A, O, X, Y⟩ xs) = true) :
    Calls Try.prog 15 #[.agg #[.float .f32 A, .float .f32 O, .complex .f32 X Y], v] w fun e w' => Ans true (fun ys => ys = txs ⟨A, O, X, Y⟩ xs) w e w' := by
  have hl := sampOk_len hs
  have hl2 := sampOk_len ht
  refine (transmitBy_any (fun ys ok => ys = txs ⟨A, O, X, Y⟩ xs ∧ ok = true) A O X Y v xs w h (by omega) (fun ys ok h => by rw [h.1]; omega) (fun _ W hr => Lib.hid (gainOn_any A O X Y v xs W hr (by omega) hok hh hs))).mono ?_
  rintro e w' ⟨v2, ys, ok, rfl, ⟨r, o, hi, hr⟩, hn, hb⟩
  unfold InR at hi
  rw [if_pos hs] at hi
  obtain ⟨rfl, rfl⟩ := hi
  rcases hr with ⟨_, _, rfl, rfl⟩ | ⟨s1, _, _⟩
  · exact ⟨v2, _, rfl, rfl, hn, hb⟩
  · rcases s1 with s1 | s1
    · cases s1
    · rw [ht] at s1; cases s1
/-- Samples that are not valid are refused. -/
theorem transmitNo_any (A O X Y : Nat) (v : Value) (xs : List Nat) (w : World) (h : FRow w v xs) (hl : xs.length ≤ 4000000) (hs : sampOk xs = false) :
    Calls Try.prog 15 #[.agg #[.float .f32 A, .float .f32 O, .complex .f32 X Y], v] w fun e w' => Ans false (fun ys => ys = []) w e w' := by
  refine (transmitBy_any (fun ys ok => ys = []) A O X Y v xs w h hl (fun ys ok h => by rw [h]; exact Nat.zero_le _) (fun h => by rw [hs] at h; cases h)).mono ?_
  rintro e w' ⟨v2, ys, ok, rfl, ⟨r, o, hi, hr⟩, hn, hb⟩
  unfold InR at hi
  rw [hs] at hi
  obtain ⟨rfl, rfl⟩ := hi
  rcases hr with ⟨h, _⟩ | ⟨_, rfl, rfl⟩
  · cases h
  · exact ⟨v2, _, rfl, rfl, hn, hb⟩
end Go.Proofs.Ytgecclccmmcdoaa
