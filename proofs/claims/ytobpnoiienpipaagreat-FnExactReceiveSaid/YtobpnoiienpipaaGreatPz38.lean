/-
  What is proved: what the functions that draw pictures of chapter 2 answer.
  Conditions: the cursor's block holds a cursor; the bytes that they draw from can be read.
-/
import Derived.Test.YtobpnoiienpipaaGreatPz03
import Derived.Test.YtobpnoiienpipaaGreatPz37
import Derived.Deep.RegionHeld3
import Derived.Deep.RegionWith
import Derived.Test.YtobpnoiienpipaaGreatPz31
import Derived.Test.YtobpnoiienpipaaGreatPz01
import Derived.Laws.StructEq
import Derived.Deep.RegionLaw
import Derived.Laws.CopyOwn
import Derived.Laws.OwnMore
import Derived.Test.YtobpnoiienpipaaGreatRec3
namespace Go.Proofs.YtobpnoiienpipaaGreat
set_option linter.unusedVariables false
open Go.RowKit
attribute [local go_sem] run_store_float run_store_complex unary_negf neg256

theorem Cur.cells {w : World} {b : Nat} (h : Cur w b) : ∃ cur t fz, w.heap[b]? = some (.cells cur t fz) ∧ t ≠ 61 := by
  obtain ⟨_, _, _, _, _, _, _, _, _, hb⟩ := h
  exact ⟨_, _, _, hb, by decide⟩
/-- The rows of a picture that is being drawn. -/
def Rows (base : Nat) (w : World) (W : Nat) (vals : List Value) (rs : List (List C3)) : Prop := ∀ i (h : i < rs.length), ∃ rv, vals[i]? = some rv ∧ RowK w rv rs[i] ∧ (rs[i].length = W ∧ ∀ g o n c, rv = .slice (some ⟨g, o, none⟩) n c → base ≤ g)
structure PRnd (w wr : World) (b W g cap : Nat) (rs : List (List C3)) : Prop where
  own : ∃ vals, wr.ownsRow w.heap.size 40 1 (.slice (some ⟨g, 0, none⟩) rs.length cap) rs.length vals ∧ Rows w.heap.size wr W vals rs
  cur : Cur wr b
  grown : w.grownBy wr (some b)
/-- A row that is being drawn. -/
structure IRnd (ws wi : World) (b : Nat) (v : Value) (cs : List C3) : Prop where
  own : OwnC wi ws.heap.size v cs
  cur : Cur wi b
  grown : ws.grownBy wi (some b)
theorem Rows.far {base : Nat} {w w' : World} {W : Nat} {vals : List Value} {rs : List (List C3)} {row : Option Nat} (h : Rows base w W vals rs) (hg : w.grownBy w' row) (hr : ∀ r, row = some r → ∃ cur t fz, w.heap[r]? = some (.cells cur t fz) ∧ t ≠ 61) : Rows base w' W vals rs := by
  intro i hi
  obtain ⟨rv, h1, h2, h3⟩ := h i hi
  exact ⟨rv, h1, h2.far hg hr, h3⟩
theorem PRnd.start (w : World) (b W : Nat) (hc : Cur w b) : PRnd w (w.alloc (.cells #[] 40)) b W w.heap.size 0 [] :=
  ⟨⟨[], World.ownsRow_made w #[] 0 (Nat.le_refl _) (by unfold maxLen; omega) rfl, fun i h => by simp at h⟩, hc.alloc _, World.grownBy_alloc _ _ _⟩
theorem PRnd.next {w wr w' : World} {b W g cap : Nat} {rs : List (List C3)} (h : PRnd w wr b W g cap rs) (hb : b < w.heap.size) (hc : Cur w' b) (hg : wr.grownBy w' (some b)) : PRnd w w' b W g cap rs := by
  obtain ⟨vals, h1, h2⟩ := h.own
  refine ⟨⟨vals, h1.kept hg (.inr ?_), h2.far hg (fun r e => by have e' : b = r := Option.some.inj e; subst e'; exact h.cur.cells)⟩, hc, h.grown.trans hg⟩
  intro e
  have e' : g = b := Option.some.inj e
  have := (h1.lt g rfl).1
  omega
theorem IRnd.next {ws wi w' : World} {b : Nat} {v : Value} {cs : List C3} (h : IRnd ws wi b v cs) (hb : b < ws.heap.size) (hc : Cur w' b) (hg : wi.grownBy w' (some b)) : IRnd ws w' b v cs := by
  refine ⟨h.own.kept hg ?_, hc, h.grown.trans hg⟩
  cases hv : v.ownBlock with
  | none => exact .inl rfl
  | some k => exact .inr (fun e => by cases e; have := (h.own.lt b hv).1; omega)
theorem RowV.at {w : World} {v : Value} {cs : List C3} (h : RowV w v cs) (i : Nat) (hi : i < cs.length) : ∃ g o c u z, v = .slice (some ⟨g, o, none⟩) cs.length c ∧ w.cell? ⟨g, o + i * 2 + 1, none⟩ = some (.complex .f32 u z) := by
  rcases h with ⟨_, h⟩ | ⟨g, o, c, h1, _, h3⟩
  · subst h; simp at hi
  · exact ⟨g, o, c, _, _, h1, (h3 i hi).2⟩
def PairedPost (b : Nat) (w : World) (e : Ending) (w' : World) : Prop := ∃ W g cap rs, (1 ≤ W ∧ W ≤ 4) ∧ (4 ≤ rs.length ∧ rs.length ≤ 8) ∧ e = .returned (.slice (some ⟨g, 0, none⟩) rs.length cap) ∧ PRnd w w' b W g cap rs
theorem PairedPost.mk {b W g cap : Nat} {w w' : World} {rs : List (List C3)} (h1 : 1 ≤ W ∧ W ≤ 4) (h2 : 4 ≤ rs.length ∧ rs.length ≤ 8) (h : PRnd w w' b W g cap rs) : PairedPost b w (.returned (.slice (some ⟨g, 0, none⟩) rs.length cap)) w' := ⟨W, g, cap, rs, h1, h2, rfl, h⟩
end Go.Proofs.YtobpnoiienpipaaGreat

/-
  What is proved: what the function that draws pictures answers: a picture that can be read.
  Conditions: the cursor's block holds a cursor; the bytes that they draw from can be read.
-/
namespace Go.Proofs.YtobpnoiienpipaaGreat
set_option linter.unusedVariables false
open Go.RowKit
attribute [local go_sem] run_store_float run_store_complex unary_negf neg256

/-- What a store leaves of a cell. -/
theorem cell_put {w : World} {p q : Addr} {u x y : Value} (hp : p.spot = none) (hq : q.spot = none) (h : w.cell? p = some y) (hx : w.cell? q = some x) : (w.setCell p u).cell? q = some (if q = p then u else x) := by
  by_cases e : q = p
  · subst e
    rw [if_pos rfl]
    exact World.cell?_setCell_same' _ _ _ (by rw [h]; rfl)
  · rw [if_neg e]
    obtain ⟨pb, po, ps⟩ := p
    obtain ⟨qb, qo, qs⟩ := q
    simp only at hp hq
    subst hp hq
    by_cases hb : qb = pb
    · subst hb
      have ho : qo ≠ po := fun e2 => e (by rw [e2])
      cases hk : w.heap[qb]? with
      | none => simp [World.cell?, hk] at hx
      | some ob =>
        cases ob with
        | cells cs t fz =>
          have hx' : cs[qo]? = some x := by simpa [World.cell?, hk] using hx
          simp [World.cell?, World.setCell, Array.getElem?_modify, hk, Array.getElem?_setIfInBounds, Ne.symm ho, hx']
        | _ => simp [World.cell?, hk] at hx
    · rw [World.cell?_of_block (w := w) (Below.heap_setCell w _ _ qb hb)]
      exact hx
theorem RowK.putC {w : World} {v : Value} {cs : List C3} {g o u z u0 z0 : Nat} (h : RowK w v cs) (h0 : w.cell? ⟨g, o, none⟩ = some (.complex .f32 u0 z0)) : ∃ ds : List C3, ds.length = cs.length ∧ RowK (w.setCell ⟨g, o, none⟩ (.complex .f32 u z)) v ds := by
  obtain ⟨h1, h2⟩ := h
  have hty : ∀ g' o' n c, v = .slice (some ⟨g', o', none⟩) n c → ∃ cur, (w.setCell ⟨g, o, none⟩ (.complex .f32 u z)).heap[g']? = some (.cells cur 61 (0, 0)) := by
    intro g' o' n c e
    obtain ⟨cur, hk⟩ := h2 g' o' n c e
    by_cases hgg : g' = g
    · subst hgg; exact ⟨_, heap_put hk⟩
    · exact ⟨cur, (Below.heap_setCell w _ _ g' hgg).trans hk⟩
  rcases h1 with ⟨rfl, rfl⟩ | ⟨g', o', cap, rfl, k1, k2⟩
  · exact ⟨[], rfl, .inl ⟨rfl, rfl⟩, hty⟩
  · obtain ⟨ds, e1, e2⟩ := exists_list cs.length (fun i (d : C3) => (w.setCell ⟨g, o, none⟩ (.complex .f32 u z)).cell? ⟨g', o' + i * 2, none⟩ = some (.float .f32 d.1) ∧ (w.setCell ⟨g, o, none⟩ (.complex .f32 u z)).cell? ⟨g', o' + i * 2 + 1, none⟩ = some (.complex .f32 d.2.1 d.2.2)) (fun i hi => by
      obtain ⟨c0, c1⟩ := k2 i hi
      have d0 := cell_put (u := .complex .f32 u z) rfl rfl h0 c0
      have d1 := cell_put (u := .complex .f32 u z) rfl rfl h0 c1
      have hne : (⟨g', o' + i * 2, none⟩ : Addr) ≠ ⟨g, o, none⟩ := by intro e; rw [e, h0] at c0; cases c0
      rw [if_neg hne] at d0
      by_cases e : (⟨g', o' + i * 2 + 1, none⟩ : Addr) = ⟨g, o, none⟩
      · rw [if_pos e] at d1; exact ⟨(cs[i].1, u, z), d0, d1⟩
      · rw [if_neg e] at d1; exact ⟨cs[i], d0, d1⟩)
    exact ⟨ds, e1, .inr ⟨g', o', cap, by rw [e1], by rw [e1]; exact k1, e2⟩, hty⟩

def PicDraw (b : Nat) (w : World) (e : Ending) (w' : World) : Prop := ∃ v rs, (Thin rs ∧ rs.length ≤ 1000) ∧ e = .returned v ∧ PicV w' v rs ∧ Cur w' b ∧ w.grownBy w' (some b)
theorem PicDraw.mk {b : Nat} {w w' : World} {v : Value} {rs : List (List C3)} (ht : Thin rs) (hl : rs.length ≤ 1000) (hp : PicV w' v rs) (hc : Cur w' b) (hg : w.grownBy w' (some b)) : PicDraw b w (.returned v) w' := ⟨v, rs, ⟨ht, hl⟩, rfl, hp, hc, hg⟩
theorem Rows.thin {base : Nat} {w : World} {W : Nat} {vals : List Value} {rs : List (List C3)} (h : Rows base w W vals rs) (hW : W ≤ 4) : Thin rs := by
  intro r hr
  obtain ⟨i, hi, rfl⟩ := List.mem_iff_getElem.1 hr
  obtain ⟨_, _, _, e, _⟩ := h i hi
  omega
theorem Rows.one {base : Nat} {w : World} {W : Nat} {vals : List Value} {rs : List (List C3)} (h : Rows base w W vals rs) (hl : vals.length = rs.length) : ∀ u ∈ vals, u.oneCell' = true := by
  intro u hu
  obtain ⟨i, hi, rfl⟩ := List.mem_iff_getElem.1 hu
  obtain ⟨rv, e1, e2, _⟩ := h i (by omega)
  rw [List.getElem?_eq_getElem hi] at e1
  cases e1
  obtain ⟨a, c, e⟩ := e2.1.lenv
  rw [e]; rfl
def DrawPicture (w : World) (e : Ending) (w' : World) : Prop := ∃ v rs, (Thin rs ∧ rs.length ≤ 1000) ∧ e = .returned v ∧ PicV w' v rs ∧ Below w.heap.size w w'
theorem DrawPicture.mk {w w' : World} {v : Value} {rs : List (List C3)} (ht : Thin rs ∧ rs.length ≤ 1000) (hp : PicV w' v rs) (hb : Below w.heap.size w w') : DrawPicture w (.returned v) w' := ⟨v, rs, ht, rfl, hp, hb⟩
end Go.Proofs.YtobpnoiienpipaaGreat

/-
  What is proved: the walks of the comparing of rows cell by cell (slices.Equal at cells, SameRows at one row each).
  Conditions: both rows can be read.
-/
namespace Go.Proofs.YtobpnoiienpipaaGreat
set_option linter.unusedVariables false
open Go.RowKit
attribute [local go_sem] run_store_float run_store_complex unary_negf neg256

/-- Are two numbers equal? -/
def feq (a b : Nat) : Bool := FloatKind.f32.format.order a b == some .eq
theorem eqf_float (d : Nat) (t : TypeId) (a b : Nat) (W : World) (h : Tryz.prog.underlying t = some (.float .f32)) : (Op.equalIn (d + 1) t (.float .f32 a) (.float .f32 b)).run Tryz.prog W = .ok (feq a b) W := by
  simp [Op.equalIn, run_underlying h, feq, Op.floatEq]
theorem eqf_complex (d : Nat) (t : TypeId) (a b a' b' : Nat) (W : World) (h : Tryz.prog.underlying t = some (.complex .f32)) : (Op.equalIn (d + 1) t (.complex .f32 a b) (.complex .f32 a' b')).run Tryz.prog W = .ok (feq a a' && feq b b') W := by
  simp [Op.equalIn, run_underlying h, feq, Op.floatEq]
theorem neq_cell (y u v y' u' v' : Nat) (W : World) : (binOp .neq 61 (.agg #[.float .f32 y, .complex .f32 u v]) (.agg #[.float .f32 y', .complex .f32 u' v'])).run Tryz.prog W = .ok (.bool (!(feq y y' && (feq u u' && feq v v')))) W := by
  have hS : Tryz.prog.underlying 61 = some (.struct (Tryz.prog.fieldsOf 61)) := by kernel_rfl
  have hp : Tryz.prog.stoodInHeld 61 = false := by kernel_rfl
  have u1 := Tryz.underlying25
  have u2 := Tryz.underlying26
  have a1 := Tryz.isAgg25
  have a2 := Tryz.isAgg26
  have z1 := Tryz.sizeOf25
  have z2 := Tryz.sizeOf26
  have e1 := eqf_float 9998 25 y y' W u1
  have e2 := eqf_complex 9998 26 u v u' v' W u2
  rw [run_neq_struct, show (10000 : Nat) = 9999 + 1 from rfl, run_equalIn_agg W 9999 61 _ _ hS hp]
  simp only [Program.fieldsOf, Tryz.underlying61]
  simp only [show (9998 + 1 : Nat) = 9999 from rfl] at e1 e2
  clear hS hp u1 u2
  go_simp
  cases feq y y' <;> cases feq u u' <;> cases feq v v' <;> simp
theorem guard_cell (op : BinOp) (x y : Operand) (xs ys : Array Value) (W : World) : (eqGuard op 61 x y (.agg xs) (.agg ys)).run Tryz.prog W = .ok () W := run_eqGuard_agg W op _ x y xs ys (by kernel_rfl)
attribute [local go_sem high] neq_cell guard_cell
end Go.Proofs.YtobpnoiienpipaaGreat

/-
  What is proved: the walk of IsPaired.
  Conditions: the picture can be read.
-/
namespace Go.Proofs.YtobpnoiienpipaaGreat
set_option linter.unusedVariables false
open Go.RowKit
attribute [local go_sem] run_store_float run_store_complex unary_negf neg256

/-- Are the colours of two rows of one length equal? -/
def hue (p : C3 × C3) : Bool := feq p.1.2.1 p.2.2.1 && feq p.1.2.2 p.2.2.2
def colEq (a b : List C3) : Bool := (List.zip a b).all hue
theorem feq_def (a b : Nat) : (FloatKind.f32.format.order a b == some .eq) = feq a b := rfl
attribute [local go_sem] feq_def
/-- Do the rows r and r+2 agree, wherever the picture wants it? -/
def PairP (rs : List (List C3)) (n : Nat) : Prop := ∀ r, r < n → r % 4 < 2 → ∀ (h : r + 2 < rs.length), colEq (rs[r]'(by omega)) rs[r + 2] = true
def IsPost (rs : List (List C3)) (w : World) (e : Ending) (w' : World) : Prop := ∃ b, e = .returned (.bool b) ∧ (b = true ↔ pok rs = true ∧ PairP rs rs.length) ∧ Below w.heap.size w w'
theorem IsPost.mk {rs : List (List C3)} {w w' : World} {b : Bool} (h : b = true ↔ pok rs = true ∧ PairP rs rs.length) (hb : Below w.heap.size w w') : IsPost rs w (.returned (.bool b)) w' := ⟨b, rfl, h, hb⟩
end Go.Proofs.YtobpnoiienpipaaGreat

/-
  What is proved: the walk of the law FnPaired.
  Conditions: none beyond the argument's own.
-/
namespace Go.Proofs.YtobpnoiienpipaaGreat
set_option linter.unusedVariables false
open Go.RowKit
attribute [local go_sem] feq_def

end Go.Proofs.YtobpnoiienpipaaGreat

/-
  What is proved: the walk of Weave over the two fields of a picture.
  Conditions: the fields can be read.
-/
namespace Go.Proofs.YtobpnoiienpipaaGreat
set_option linter.unusedVariables false
open Go.RowKit Go.Shelf
attribute [local go_sem] run_store_float run_store_complex unary_negf neg256 Oper.semAt_some

set_option maxRecDepth 100000 in
set_option maxHeartbeats 2000000 in
theorem values1_in (n : Nat) (hn : 1 ≤ n) (w0 : World) (l Bl g o cap : Nat) (L : List (RowIn w0)) (hlen : L.length ≤ 1000000) (J Jx : List (RowIn w0) → World → Prop)
    (hcell : ∀ i (h : i < L.length), w0.cell? ⟨g, o + i, none⟩ = some L[i].1.1)
    (hY : ∀ pre x W, J pre W → pre.length < L.length → YieldAt Fence.wide (n - 1) Tryz.prog l #[x.1.1] W fun e W' =>
      (e = .returned (.bool true) ∧ J (pre ++ [x]) W' ∧ Below w0.heap.size W W') ∨ (e = .returned (.bool false) ∧ Jx (pre ++ [x]) W'))
    (W : World) (hW : Below w0.heap.size w0 W) (hBl : w0.cell? ⟨Bl, 0, none⟩ = some (.slice (some ⟨g, o, none⟩) L.length cap)) (h0 : J [] W) :
    CallsIn Fence.wide n Tryz.prog 99 #[.func (.yield l) #[] #[], .pointer (some ⟨Bl, 0, none⟩)] W fun e W' => (∃ v, e = .returned v) ∧
      ((∃ ys, ys = L ∧ J ys W') ∨ (∃ pre, pre <+: L ∧ Jx pre W')) := by
  refine callsIn_of_wp Tryz.func99 rfl trivial ?_ rfl
  simp only [Tryz.ntmps99, List.size_toArray, List.length_cons, List.length_nil, Nat.reduceAdd, Nat.reduceSub, Array.replicate_succ, Array.replicate_zero, List.push_toArray, List.append_toArray, List.nil_append, List.cons_append]
  have hbl := (grown_of hW).cell hBl (by simp)
  gi_wp2
  gi_loopw [7] (fun i wr => ∃ (m : Nat) (pre : List (RowIn w0)), i = .int .i64 (m : Int) ∧ m ≤ L.length ∧ pre ++ L.drop m = L ∧ J pre wr ∧ Below w0.heap.size w0 wr) (fun i _ => L.length - (intOf i).toNat)
  case atStart => exact ⟨0, [], rfl, by omega, rfl, h0, hW⟩
  case round =>
    obtain ⟨m, pre, rfl, hm, hpre, hJs, hb⟩ := hrel
    by_cases hlt : m < L.length
    · have hc := (grown_of hb).cell (hcell m hlt) (by simp)
      rw [List.drop_eq_getElem_cons hlt] at hpre
      have hpl : pre.length < L.length := by
        have := congrArg List.length hpre
        rw [List.length_append, List.length_cons] at this
        omega
      obtain ⟨fn, tmps, assign, body, hy, hR⟩ := hY pre L[m] wr hJs hpl
      have HP := Lib.hid hpre
      clear hpre
      generalize L[m] = x at *
      gi_wp2
      refine hR.mono ?_
      rintro e W3 (⟨rfl, hJ3, hk3⟩ | ⟨rfl, hJx3⟩)
      · gi_wp2
        go_roundw
        case rel => exact ⟨m + 1, _, by go_num, by omega, by rw [List.append_assoc]; exact HP.out, hJ3, hb.trans hk3⟩
        case measure => simp [intOf]; omega
      · gi_wp2
        refine bodyPost_ret (results_none rfl _ _ _) rfl ?_
        exact ⟨⟨_, rfl⟩, .inr ⟨_, ⟨_, by rw [List.append_assoc]; exact HP.out⟩, hJx3⟩⟩
    · rw [List.drop_of_length_le (by omega), List.append_nil] at hpre
      have HP := Lib.hid hpre
      clear hpre
      gi_wp2
      go_end0
      exact ⟨⟨_, rfl⟩, .inl ⟨pre, HP.out, hJs⟩⟩
set_option maxHeartbeats 1000000 in
theorem values_any (a : Option Addr) (m c : Nat) (w : World) :
    Calls Tryz.prog 67 #[.slice a m c] w fun e w' => e = .returned (.func (.func 99) #[] #[.pointer (some ⟨w.heap.size, 0, none⟩)]) ∧ w' = w.alloc (.cells #[.slice a m c] 24) := by
  go_enter Tryz.func67, Tryz.ntmps67
  go_wp2
  go_ret
  exact ⟨rfl, rfl⟩
theorem values_hands (n : Nat) (hn : 1 ≤ n) (w0 : World) (Bl g o cap : Nat) (L : List (RowIn w0)) (hlen : L.length ≤ 1000000)
    (hcell : ∀ i (h : i < L.length), w0.cell? ⟨g, o + i, none⟩ = some L[i].1.1) (hBl : w0.cell? ⟨Bl, 0, none⟩ = some (.slice (some ⟨g, o, none⟩) L.length cap)) :
    Hands n w0 99 #[.pointer (some ⟨Bl, 0, none⟩)] L w0 :=
  fun l J Jx W hW _ _ hY h0 => values1_in n hn w0 l Bl g o cap L hlen J Jx hcell hY W hW hBl h0

/-- What the first 2 k rows are woven of. -/
def Woven (w : World) (rs : List (List C3)) (k : Nat) (vals : List Value) : Prop := ∀ q (h : q < rs.length), q < 2 * k → ∃ a c, vals[q]? = some (.slice a rs[q].length c) ∧ RowV w (.slice a rs[q].length c) rs[q]
def WeavePost (rs : List (List C3)) (w : World) (e : Ending) (w' : World) : Prop := ∃ v', e = .returned (.tuple #[v', .bool (pok rs)]) ∧ (pok rs = true → PicV w' v' rs) ∧ Below w.heap.size w w'
theorem WeavePost.no {rs : List (List C3)} {w w' : World} {v' : Value} (h : pok rs = false) (hb : Below w.heap.size w w') : WeavePost rs w (.returned (.tuple #[v', .bool false])) w' := ⟨v', by rw [h], (fun e => by rw [h] at e; cases e), hb⟩
theorem WeavePost.yes {rs : List (List C3)} {w w' : World} {v' : Value} (h : pok rs = true) (hp : PicV w' v' rs) (hb : Below w.heap.size w w') : WeavePost rs w (.returned (.tuple #[v', .bool true])) w' := ⟨v', by rw [h], fun _ => hp, hb⟩
end Go.Proofs.YtobpnoiienpipaaGreat

/-
  What is proved: the walk of Weave over two fields of equal length.
  Conditions: the fields can be read, and lie where the woven picture's rows are told of.
-/
namespace Go.Proofs.YtobpnoiienpipaaGreat
set_option linter.unusedVariables false
open Go.RowKit Go.Shelf
attribute [local go_sem] run_store_float run_store_complex unary_negf neg256 Oper.semAt_some

/-- What holds at a round's beginning. -/
def Wov (w : World) (rs : List (List C3)) (n k : Nat) (W : World) : Prop := ∃ L : List Value, W.heap[w.heap.size]? = some (.cells L.toArray 40 (0, 0)) ∧ L.length = 2 * n ∧ Woven w rs k L ∧ Below w.heap.size w W
theorem Wov.start (w : World) (rs : List (List C3)) (n : Nat) (L : List Value) (h : L.length = 2 * n) : Wov w rs n 0 (w.alloc (.cells L.toArray 40)) :=
  ⟨L, heap_alloc_new w _, h, fun q h h2 => by omega, (Below.refl _ _).alloc (Nat.le_refl _) _⟩
theorem Woven.next {w : World} {rs : List (List C3)} {k n : Nat} {L : List Value} (h : Woven w rs k L) (hl : L.length = 2 * n) (hk : k < n) {u1 u2 : Value}
    (h1 : ∀ (hq : 2 * k < rs.length), ∃ a c, u1 = .slice a rs[2 * k].length c ∧ RowV w (.slice a rs[2 * k].length c) rs[2 * k])
    (h2 : ∀ (hq : 2 * k + 1 < rs.length), ∃ a c, u2 = .slice a rs[2 * k + 1].length c ∧ RowV w (.slice a rs[2 * k + 1].length c) rs[2 * k + 1]) : Woven w rs (k + 1) (splice L (2 * k) [u1, u2]) := by
  intro q hq hlt
  have ht : (L.take (2 * k)).length = 2 * k := by rw [List.length_take]; omega
  unfold splice
  by_cases ha : q < 2 * k
  · obtain ⟨a, c, e1, e2⟩ := h q hq ha
    refine ⟨a, c, ?_, e2⟩
    rw [List.getElem?_append_left (by omega), List.getElem?_take, if_pos ha]
    exact e1
  · by_cases hb : q = 2 * k
    · subst hb
      obtain ⟨a, c, e1, e2⟩ := h1 hq
      exact ⟨a, c, by rw [List.getElem?_append_right (by omega), ht, ← e1]; simp, e2⟩
    · have : q = 2 * k + 1 := by omega
      subst this
      obtain ⟨a, c, e1, e2⟩ := h2 hq
      exact ⟨a, c, by rw [List.getElem?_append_right (by omega), ht, ← e1]; simp, e2⟩
theorem Wov.pic {w W : World} {rs : List (List C3)} {n : Nat} (h : Wov w rs n n W) (hk : rs.length = 2 * n) : PicV W (.slice (some ⟨w.heap.size, 0, none⟩) (2 * n) (2 * n)) rs := by
  obtain ⟨L, hg, hl, hw, hb⟩ := h
  refine .inr ⟨w.heap.size, 0, 2 * n, by rw [hk], by omega, fun i hi => ?_⟩
  obtain ⟨a, c, e1, e2⟩ := hw i hi (by omega)
  refine ⟨_, ?_, e2.below hb⟩
  rw [Nat.zero_add, cell_of_row _ _ i _ _ _ hg]
  simpa using e1

theorem make_rows (n : Nat) (hn : n ≤ 1000) (W : World) : (Instr.makeSlice 24 (.int .i64 (2 * (n : Int))) (.int .i64 (2 * (n : Int)))).run Tryz.prog W = .ok (.slice (some ⟨W.heap.size, 0, none⟩) (2 * n) (2 * n)) (W.alloc (.cells (List.replicate (2 * n) (.slice none 0 0)).toArray 40)) := by
  obtain ⟨i0, hi, hz0, hz1, hz2⟩ := info_parts info_row
  have h := run_make (P := Tryz.prog) W 24 40 i0 _ Tryz.underlying24 hi hz0 .i64 .i64 (2 * n) (2 * n) (by omega) (by omega) (by rw [hz2]; omega) (by omega)
  rw [hz1] at h
  have e : (2 * (n : Int)).toNat = 2 * n := by omega
  rw [← toList_madeCells_one]
  simpa [Value.cells, e] using h
end Go.Proofs.YtobpnoiienpipaaGreat

/-
  What is proved: what is received of a stream whose lines are all there, and of which all pairs make rows.
  Conditions: the set is valid; the stream can be read.
-/
namespace Go.Proofs.YtobpnoiienpipaaGreat
set_option linter.unusedVariables false
open Go.RowKit Go.Shelf
attribute [local go_sem] run_store_float run_store_complex unary_negf neg256

theorem getD_in {α : Type} {l : List α} {d : α} {i : Nat} (h : i < l.length) : l.getD i d = l[i] := by
  rw [List.getD_eq_getElem?_getD, List.getElem?_eq_getElem h]; rfl
/-- The rows of a picture, of those of its two fields. -/
def wv (m : Nat) (out : List (List C3)) : List (List C3) := (List.range (2 * m)).map fun i => out.getD (if i % 2 = 0 then i / 2 else m + i / 2) []
theorem wv_len (m : Nat) (out : List (List C3)) : (wv m out).length = 2 * m := by simp [wv]
theorem wv_even {m k : Nat} {out : List (List C3)} (h : 2 * k < (wv m out).length) : (wv m out)[2 * k] = out.getD k [] := by
  simp only [wv, List.getElem_map, List.getElem_range]
  rw [if_pos (by omega), show 2 * k / 2 = k by omega]
theorem wv_odd {m k : Nat} {out : List (List C3)} (h : 2 * k + 1 < (wv m out).length) : (wv m out)[2 * k + 1] = out.getD (m + k) [] := by
  simp only [wv, List.getElem_map, List.getElem_range]
  rw [if_neg (by omega), show (2 * k + 1) / 2 = k by omega]
theorem wv_mem {m : Nat} {out : List (List C3)} (hl : out.length = 2 * m) : ∀ r ∈ wv m out, r ∈ out := by
  intro r hr
  unfold wv at hr
  obtain ⟨i, hi, rfl⟩ := List.mem_map.1 hr
  have hi := List.mem_range.1 hi
  have : (if i % 2 = 0 then i / 2 else m + i / 2) < out.length := by split <;> omega
  rw [getD_in this]
  exact List.getElem_mem _
/-- A list of rows, cell by cell. -/
theorem RowsV.cells {w : World} {g cap n : Nat} {rows : List (List C3)} {ss : List SV} (h : RowsV w (.slice (some ⟨g, 0, none⟩) n cap) rows ss) {k : Nat} (hk : k < rows.length) : ∃ a c, w.cell? ⟨g, k, none⟩ = some (.slice a (rows.getD k []).length c) ∧ RowV w (.slice a (rows.getD k []).length c) (rows.getD k []) := by
  have hks : k < ss.length := by rw [h.len]; exact hk
  obtain ⟨a, c, e, hc⟩ := h.any
  obtain ⟨g', o', e1, _, h2⟩ := hc k hks
  cases e
  cases e1
  have h3 := h.each k hks hk
  rw [getD_in hk]
  obtain ⟨a2, c2, e2⟩ := h3.lenv
  rw [Nat.zero_add] at h2
  exact ⟨a2, c2, by rw [h2, e2], by rw [← e2]; exact h3⟩
end Go.Proofs.YtobpnoiienpipaaGreat
