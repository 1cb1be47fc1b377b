/-
  What is proved: what the model draws for chapter 6: streams of lines, some without pulses.
  Conditions: the cursor's block holds a cursor; the bytes can be read.
-/
import Derived.Test.YtobpnoiienpipaaGreatPz16
import Derived.Test.YtobpnoiienpipaaGreatPz13
import Derived.Test.YtobpnoiienpipaaGreatPz11
import Derived.Test.YtobpnoiienpipaaGreatPz24
import Derived.Test.YtobpnoiienpipaaGreatPz21
namespace Go.Proofs.YtobpnoiienpipaaGreat
set_option linter.unusedVariables false
open Go.RowKit
attribute [local go_sem] run_store_float run_store_complex unary_negf neg256

def StreamP (b : Nat) (w : World) (e : Ending) (w' : World) : Prop := ∃ v ys, ∃ n : Nat, (ys.length ≤ 25000 ∧ 1 ≤ n ∧ n ≤ 3) ∧ e = .returned (.tuple #[v, .int .i64 (24 + 4 * (n : Int))]) ∧ FRow w' v ys ∧ Cur w' b ∧ w.grownBy w' (some b)
theorem StreamP.mk {b n : Nat} {x : Int} {w w' : World} {v : Value} {ys : List Nat} (hx : x = 24 + 4 * (n : Int)) (h : ys.length ≤ 25000 ∧ 1 ≤ n ∧ n ≤ 3) (hr : FRow w' v ys) (hc : Cur w' b) (hg : w.grownBy w' (some b)) : StreamP b w (.returned (.tuple #[v, .int .i64 x])) w' := by
  subst hx; exact ⟨v, ys, n, h, rfl, hr, hc, hg⟩
/-- A row of the inner loop: the world of the outer one stays but for the cursor. -/
structure InRow (wo wr : World) (b g cap : Nat) (cs : List C3) : Prop where
  own : OwnC wr wo.heap.size (.slice (some ⟨g, 0, none⟩) cs.length cap) cs
  cur : Cur wr b
  grown : wo.grownBy wr (some b)
theorem InRow.start {wo : World} {b : Nat} (hc : Cur wo b) : InRow wo (wo.alloc (.cells #[] 61)) b wo.heap.size 0 [] :=
  ⟨OwnC.made0 wo, hc.alloc _, World.grownBy_alloc wo _ _⟩
theorem InRow.next {wo wr w' : World} {b g cap : Nat} {cs : List C3} (h : InRow wo wr b g cap cs) (hb : b < wo.heap.size) (hc : Cur w' b) (hg : wr.grownBy w' (some b)) : InRow wo w' b g cap cs := by
  have hge := (h.own.lt g rfl).1
  exact ⟨h.own.kept hg (.inr (by intro e; have := Option.some.inj e; simp at this; omega)), hc, h.grown.trans hg⟩
/-- What changes blocks that are newer than the row's changes nothing. -/
theorem InRow.far {wo wr w' : World} {b g cap x : Nat} {cs : List C3} (h : InRow wo wr b g cap cs) (hb : b < wo.heap.size) (hx : wr.heap.size ≤ x) (hg : wr.grownBy w' none ∨ wr.grownBy w' (some x)) : InRow wo w' b g cap cs := by
  have hge := h.own.lt g rfl
  have key : ∃ row, wr.grownBy w' row ∧ (∀ r, row = some r → wr.heap.size ≤ r) := by
    rcases hg with hg | hg
    · exact ⟨none, hg, fun r e => by cases e⟩
    · exact ⟨some x, hg, fun r e => by cases e; exact hx⟩
  obtain ⟨row, hg, hr⟩ := key
  refine ⟨h.own.kept hg (.inr ?_), h.cur.grown hg (fun r e => by have := hr r e; have := h.cur.lt; omega), grown_own h.grown hg (fun r e => by have := hr r e; have := h.grown.size; omega)⟩
  intro e
  have := hr g e.symm
  omega
end Go.Proofs.YtobpnoiienpipaaGreat

/-
  What is proved: lists of rows of cells that a call makes, no two of which share memory.
  Conditions: those that each fact names.
-/
namespace Go.Proofs.YtobpnoiienpipaaGreat
set_option linter.unusedVariables false
open Go.RowKit

def LSc : Lay SV := ⟨24, 40, 1, 24, fun s => [s.v]⟩
theorem LSc_ok : LSc.Ok := by
  refine ⟨fun _ => rfl, fun x u hu => ?_, by decide, Tryz.underlying24, ?_, by decide⟩
  · obtain rfl := List.mem_singleton.1 hu; rfl
  · obtain ⟨i, h1, h2, h3, h4⟩ := info_parts (show (Tryz.prog.info? 40).map (fun i => (i.zero, i.size, i.bytes)) = some (some (.slice none 0 0), 1, 24) by kernel_rfl)
    exact ⟨i, _, h1, h2, h3, h4, rfl⟩
/-- A list of rows: each is owned, no two share memory, none the list's own. -/
structure GridC (w : World) (base : Nat) (v : Value) (rows : List (List C3)) (ss : List SV) : Prop where
  own : LSc.Own w base v ss
  len : ss.length = rows.length
  row : ∀ i (h : i < ss.length) (h' : i < rows.length), OwnC w base ss[i].v rows[i]
  apart : ∀ i j (h : i < ss.length) (h' : j < ss.length), i ≠ j → ∀ k, ss[i].v.ownBlock = some k → ss[j].v.ownBlock ≠ some k
  out : ∀ i (h : i < ss.length) k, ss[i].v.ownBlock = some k → v.ownBlock ≠ some k
theorem GridC.nil (w : World) : GridC (w.alloc (.cells #[] 40)) w.heap.size (.slice (some ⟨w.heap.size, 0, none⟩) 0 0) [] [] :=
  ⟨LSc.own0 w, rfl, fun i h => absurd h (by simp), fun i j h => absurd h (by simp), fun i h => absurd h (by simp)⟩
theorem GridC.lt {w : World} {base : Nat} {v : Value} {rows : List (List C3)} {ss : List SV} (h : GridC w base v rows ss) : ∀ k, GBlk v ss k → base ≤ k ∧ k < w.heap.size := by
  rintro k (hk | ⟨i, hi, hk⟩)
  · exact h.own.lt k hk
  · exact (h.row i hi (by rw [← h.len]; exact hi)).lt k hk
theorem GridC.turn {w w' : World} {base : Nat} {v : Value} {rows : List (List C3)} {ss : List SV} {S : Nat → Prop} (h : GridC w base v rows ss) (ht : Turn w w' S) (hS : ∀ k, GBlk v ss k → ¬ S k) : GridC w' base v rows ss :=
  ⟨h.own.turn ht (fun k hk => hS k (.inl hk)), h.len, fun i h1 h2 => Lay.Own.turn (L := LC) (h.row i h1 h2) ht (fun k hk => hS k (.inr ⟨i, h1, hk⟩)), h.apart, h.out⟩
theorem Turn.grown {w w' : World} {row : Option Nat} (h : w.grownBy w' row) : Turn w w' (fun k => row = some k) :=
  ⟨h.os, h.tape, h.output, h.size, fun k hk hs => h.block k hk fun e => hs e.symm⟩
/-- What changes an older block, or newer ones alone, leaves the rows as they are. -/
theorem GridC.kept {w w' : World} {base : Nat} {v : Value} {rows : List (List C3)} {ss : List SV} {row : Option Nat} (h : GridC w base v rows ss) (hg : w.grownBy w' row) (hr : ∀ r, row = some r → r < base ∨ w.heap.size ≤ r) : GridC w' base v rows ss :=
  h.turn (Turn.grown hg) fun k hk e => by
    have h1 := h.lt k hk
    have h2 := hr k e
    omega
theorem GridC.below {w w' : World} {base : Nat} {v : Value} {rows : List (List C3)} {ss : List SV} (h : GridC w base v rows ss) (hb : Below w.heap.size w w') : GridC w' base v rows ss := h.kept (grown_of hb) (fun r e => by cases e)
/-- One row is written. -/
theorem GridC.put {w w' : World} {base k : Nat} {v : Value} {rows : List (List C3)} {ss : List SV} {cs : List C3} (h : GridC w base v rows ss) (hk : k < ss.length) (hg : w.grownBy w' ss[k].v.ownBlock) (hn : OwnC w' base ss[k].v cs) : GridC w' base v (rows.set k cs) ss := by
  refine ⟨h.own.kept hg ?_, by rw [List.length_set]; exact h.len, fun i h1 h2 => ?_, h.apart, h.out⟩
  · cases e : v.ownBlock with
    | none => exact .inl rfl
    | some b => exact .inr fun e' => h.out k hk b e'.symm e
  · by_cases e : i = k
    · subst e
      rw [List.getElem_set_self]
      exact hn
    · rw [List.getElem_set_ne (by omega)]
      exact Lay.Own.turn (L := LC) (h.row i h1 (by rw [← h.len]; exact h1)) (Turn.grown hg) (fun j hj e' => h.apart k i hk h1 (fun e2 => e e2.symm) j e' hj)
/-- One more row, in a block that is new. -/
theorem GridC.snoc {wr w6 : World} {base g n cap g6 n6 cap6 : Nat} {rows : List (List C3)} {ss : List SV} {s : SV} {cs : List C3} (h : GridC wr base (.slice (some ⟨g, 0, none⟩) n cap) rows ss) (hg : wr.grownBy w6 (some g)) (hs : OwnC w6 base s.v cs)
    (hk : ∀ k, s.v.ownBlock = some k → wr.heap.size ≤ k ∧ k ≠ g6) (hg6 : g6 = g ∨ wr.heap.size ≤ g6) (ho : LSc.Own w6 base (.slice (some ⟨g6, 0, none⟩) n6 cap6) (ss ++ [s])) : GridC w6 base (.slice (some ⟨g6, 0, none⟩) n6 cap6) (rows ++ [cs]) (ss ++ [s]) := by
  have hlt : ∀ i (hi : i < ss.length) k, ss[i].v.ownBlock = some k → k < wr.heap.size := fun i hi k e => ((h.row i hi (by rw [← h.len]; exact hi)).lt k e).2
  have hl := h.len
  refine ⟨ho, by simp [hl], fun i h1 h2 => ?_, fun i j h1 h2 hij k hk' => ?_, fun i h1 k hk' => ?_⟩
  · by_cases hi : i < ss.length
    · rw [List.getElem_append_left hi, List.getElem_append_left (by omega)]
      exact Lay.Own.turn (L := LC) (h.row i hi (by omega)) (Turn.grown hg) (fun k e e' => h.out i hi k e e')
    · have e : i = ss.length := by simp at h1; omega
      subst e
      rw [List.getElem_append_right (by omega), List.getElem_append_right (by omega)]
      simpa [hl] using hs
  · by_cases hi : i < ss.length
    · rw [List.getElem_append_left hi] at hk'
      by_cases hj : j < ss.length
      · rw [List.getElem_append_left hj]; exact h.apart i j hi hj hij k hk'
      · rw [List.getElem_append_right (by omega)]
        intro e
        have e0 : j - ss.length = 0 := by simp at h2; omega
        simp only [e0, List.getElem_cons_zero] at e
        have := hlt i hi k hk'
        have := (hk k e).1
        omega
    · rw [List.getElem_append_right (by omega)] at hk'
      have e0 : i - ss.length = 0 := by simp at h1; omega
      simp only [e0, List.getElem_cons_zero] at hk'
      by_cases hj : j < ss.length
      · rw [List.getElem_append_left hj]
        intro e
        have := hlt j hj k e
        have := (hk k hk').1
        omega
      · simp at h1 h2; omega
  · by_cases hi : i < ss.length
    · rw [List.getElem_append_left hi] at hk'
      have hlk := hlt i hi k hk'
      rcases hg6 with rfl | h6
      · exact h.out i hi k hk'
      · intro e; have e2 : g6 = k := Option.some.inj e; omega
    · rw [List.getElem_append_right (by omega)] at hk'
      have e0 : i - ss.length = 0 := by simp at h1; omega
      simp only [e0, List.getElem_cons_zero] at hk'
      intro e
      exact (hk k hk').2 (Option.some.inj e).symm
theorem rowsC_any {w : World} {v : Value} {ss : List SV} (h : LSc.Row w v ss) : ∃ a c, v = .slice a ss.length c ∧ ∀ k (hk : k < ss.length), ∃ g o, a = some ⟨g, o, none⟩ ∧ ss.length ≤ c ∧ w.cell? ⟨g, o + k, none⟩ = some ss[k].v := by
  obtain ⟨a, c, h1, h2⟩ := h.any LSc_ok
  refine ⟨a, c, h1, fun k hk => ?_⟩
  obtain ⟨g, o, e, hc, hcell⟩ := h2 k hk
  refine ⟨g, o, e, hc, ?_⟩
  have := hcell 0 _ rfl
  rwa [show k * LSc.size + 0 = k from Nat.mul_one k] at this
/-- Reading one cell of one row. -/
theorem GridC.cell {w : World} {base g n cap : Nat} {rows : List (List C3)} {ss : List SV} (h : GridC w base (.slice (some ⟨g, 0, none⟩) n cap) rows ss) {r i : Nat} (hr : r < rows.length) (hi : i < rows[r].length) :
    ∃ gr cr, w.cell? ⟨g, r, none⟩ = some (.slice (some ⟨gr, 0, none⟩) rows[r].length cr) ∧ rows[r].length ≤ cr ∧ w.cell? ⟨gr, i * 2, none⟩ = some (.float .f32 rows[r][i].1) ∧ w.cell? ⟨gr, i * 2 + 1, none⟩ = some (.complex .f32 rows[r][i].2.1 rows[r][i].2.2) ∧ w.frozen? ⟨gr, i * 2, none⟩ = false ∧ w.frozen? ⟨gr, i * 2 + 1, none⟩ = false ∧ base ≤ gr ∧ gr ≠ g := by
  have hs : r < ss.length := by rw [h.len]; exact hr
  obtain ⟨a, c, h1, h2⟩ := rowsC_any h.own.row
  obtain ⟨g1, o1, e, _, hc⟩ := h2 r hs
  subst e
  have e1 : g1 = g ∧ o1 = 0 := by injection h1 with x1; injection x1 with x1; injection x1 with x1 x2; exact ⟨x1.symm, x2.symm⟩
  obtain ⟨rfl, rfl⟩ := e1
  rw [Nat.zero_add] at hc
  have hrow := h.row r hs hr
  have hout := h.out r hs
  rcases hrow.shape with ⟨_, h0⟩ | ⟨gr, cr, hv, hb, hl, hcc, _⟩
  · rw [h0] at hi; exact absurd hi (by simp)
  · rw [hv] at hrow hc hout
    obtain ⟨y1, f1⟩ := at_yC hrow hi
    obtain ⟨y2, f2⟩ := at_cC hrow hi
    exact ⟨gr, cr, hc, hcc, y1, y2, f1, f2, hb, fun e => hout gr rfl (by rw [e]; rfl)⟩
end Go.Proofs.YtobpnoiienpipaaGreat

/-
  What is proved: the exact laws' comparing and marking of lists of rows of cells.
  Conditions: those that each fact names.
-/
namespace Go.Proofs.YtobpnoiienpipaaGreat
set_option linter.unusedVariables false
open Go.RowKit
attribute [local go_sem] run_store_float run_store_complex unary_negf neg256

theorem eqCell_num (y u v : Nat) (w : World) (hy : isN y = false) (hu : isN u = false) (hv : isN v = false) :
    Calls Tryz.prog 81 #[.agg #[.float .f32 y, .complex .f32 u v], .agg #[.float .f32 y, .complex .f32 u v]] w fun e w' => e = .returned (.bool true) ∧ Below w.heap.size w w' := by
  obtain ⟨r, hr, hn⟩ := conv_num hy
  obtain ⟨p, hp, hpn⟩ := conv_num hu
  obtain ⟨q, hq, hqn⟩ := conv_num hv
  have H1 := fun W => Lib.hid (sameFloat_self r W hn)
  have H2 := fun W => Lib.hid (sameComplex_self p q W hpn hqn)
  have hc := fun W => run_convert_float_float (P := Tryz.prog) W 25 80 .f32 .f64 y r (by kernel_rfl) Tryz.underlying80 hr
  have hcv := fun W => run_convert_complex (P := Tryz.prog) W 26 118 .f32 .f64 u v p q (by kernel_rfl) Tryz.underlying118 (by unfold cConvBits; rw [hp, hq]; rfl)
  clear hr hn hp hpn hq hqn hy hu hv
  go_enter Tryz.func81, Tryz.ntmps81
  go_wp2_with fail
  refine (H1 _).out.mono ?_
  rintro e w1 ⟨rfl, rfl⟩
  go_wp2_with fail
  refine (H2 _).out.mono ?_
  rintro e w1 ⟨rfl, rfl⟩
  go_wp2
  go_ret
  exact ⟨rfl, by first | exact Below.refl _ _ | exact ((Below.refl _ _).alloc (Nat.le_refl _) _) | exact ((Below.refl _ _).alloc (Nat.le_refl _) _).alloc (by simp) _⟩

/-- No number is NaN. -/
def NumL (cs : List C3) : Prop := ∀ c ∈ cs, isN c.1 = false ∧ isN c.2.1 = false ∧ isN c.2.2 = false

set_option maxHeartbeats 2000000 in
theorem eqCells_num (v v' : Value) (cs : List C3) (w : World) (h : RowV w v cs) (h' : RowV w v' cs) (hl : cs.length ≤ 1000000) (hf : NumL cs) :
    Calls Tryz.prog 46 #[v, v'] w fun e w' => e = .returned (.bool true) ∧ Below w.heap.size w w' := by
  rcases h with ⟨rfl, h0⟩ | ⟨g, o, cap, rfl, hcap, hcell⟩
  · subst h0
    obtain ⟨a, c, rfl⟩ : ∃ a c, v' = .slice a 0 c := by
      rcases h' with ⟨rfl, _⟩ | ⟨g, o, cap, rfl, _⟩
      · exact ⟨none, 0, rfl⟩
      · exact ⟨_, _, rfl⟩
    clear h' hf
    go_enter Tryz.func46, Tryz.ntmps46
    go_wp2
    go_loop [5] (fun i => i = .int .i64 0) (fun _ => 0)
    case atStart => exact rfl
    case round =>
      obtain rfl := hrel
      go_wp2
      go_ret
      exact ⟨rfl, Below.refl _ _⟩
  · rcases h' with ⟨rfl, h0⟩ | ⟨g', o', cap', rfl, hcap', hcell'⟩
    · subst h0
      clear hcell hf
      go_enter Tryz.func46, Tryz.ntmps46
      go_wp2
      go_loop [5] (fun i => i = .int .i64 0) (fun _ => 0)
      case atStart => exact rfl
      case round =>
        obtain rfl := hrel
        go_wp2
        go_ret
        exact ⟨rfl, Below.refl _ _⟩
    · have HC := Lib.hid hcell
      have HC' := Lib.hid hcell'
      have HF := Lib.hid hf
      clear hcell hcell' hf
      go_enter Tryz.func46, Tryz.ntmps46
      go_wp2
      go_loopw [5] (fun i wr => ∃ k : Nat, k ≤ cs.length ∧ i = .int .i64 (k : Int) ∧ Below w.heap.size w wr) (fun i _ => cs.length - (intOf i).toNat)
      case atStart => exact ⟨0, Nat.zero_le _, rfl, Below.refl _ _⟩
      case round =>
        obtain ⟨k, hk, rfl, hb⟩ := hrel
        by_cases hlt : k < cs.length
        · obtain ⟨hc0, hc1⟩ := HC.out k hlt
          obtain ⟨hc0', hc1'⟩ := HC'.out k hlt
          have q0 := (grown_of hb).cell hc0 (by simp)
          have q1 := (grown_of hb).cell hc1 (by simp)
          have q2 := (grown_of hb).cell hc0' (by simp)
          have q3 := (grown_of hb).cell hc1' (by simp)
          obtain ⟨f1, f2, f3⟩ := HF.out cs[k] (List.getElem_mem hlt)
          have HE := fun W => Lib.hid (eqCell_num cs[k].1 cs[k].2.1 cs[k].2.2 W f1 f2 f3)
          clear hc0 hc1 hc0' hc1' f1 f2 f3
          generalize cs[k] = c at *
          have hbd : Below w.heap.size w wr.drew := belowDN hb 1
          go_wp2
          go_region_with (go_at_call 81; refine (HE _).out.mono ?_; rintro e w2 ⟨rfl, hb2⟩)
          all_goals
            have hb3 := below_trans hbd hb2 hbd.size
            clear q0 q1 q2 q3
            go_wp2
            go_roundw
            case rel => exact ⟨k + 1, by omega, by go_num, hb3⟩
            case measure => simp [intOf]; omega
        · go_wp2
          go_ret
          exact ⟨rfl, hb⟩

/-! Marks that begin with any number. -/
def kmark (k0 i : Nat) : C3 := (floatOfInt .f32 ((k0 + 2 * i : Nat) : Int), c32 (k0 + 2 * i + 1), 1065353216)
def kmarks (k0 n : Nat) : List C3 := (List.range n).map (kmark k0)
theorem kmarks_len (k0 n : Nat) : (kmarks k0 n).length = n := by simp [kmarks]
theorem kmarks_get (k0 n i : Nat) (h : i < (kmarks k0 n).length) : (kmarks k0 n)[i] = kmark k0 i := by simp [kmarks]
def MarkK (base k0 : Nat) (v : Value) (n : Nat) (w : World) (e : Ending) (w' : World) : Prop := e = .returned (.int .i64 ((k0 + 2 * n : Nat) : Int)) ∧ RNew w' base v (kmarks k0 n) ∧ w.grownBy w' v.ownBlock
/-! Lists of rows. -/
/-- A list of rows: each in new memory that may be written, no two share memory, none the list's own. -/
structure GridN (w : World) (base : Nat) (v : Value) (rows : List (List C3)) (ss : List SV) : Prop where
  own : LSc.Own w base v ss
  len : ss.length = rows.length
  row : ∀ i (h : i < ss.length) (h' : i < rows.length), RNew w base ss[i].v rows[i]
  apart : ∀ i j (h : i < ss.length) (h' : j < ss.length), i ≠ j → ∀ k, ss[i].v.ownBlock = some k → ss[j].v.ownBlock ≠ some k
  out : ∀ i (h : i < ss.length) k, ss[i].v.ownBlock = some k → v.ownBlock ≠ some k
theorem GridC.new {w : World} {base : Nat} {v : Value} {rows : List (List C3)} {ss : List SV} (h : GridC w base v rows ss) : GridN w base v rows ss :=
  ⟨h.own, h.len, fun i h1 h2 => (h.row i h1 h2).rnew, h.apart, h.out⟩
theorem RNew.turn {w w' : World} {base : Nat} {v : Value} {cs : List C3} {S : Nat → Prop} (h : RNew w base v cs) (ht : Turn w w' S) (hS : ∀ k, v.ownBlock = some k → ¬ S k) : RNew w' base v cs := by
  rcases h with h | ⟨g, cap, cur, rfl, h0, h2, h3, h4, h5⟩
  · exact .inl h
  · exact .inr ⟨g, cap, cur, rfl, h0, h2, (ht.block g (Array.getElem?_eq_some_iff.1 h3).1 (hS g rfl)).trans h3, h4, h5⟩
theorem GridN.lt {w : World} {base : Nat} {v : Value} {rows : List (List C3)} {ss : List SV} (h : GridN w base v rows ss) : ∀ k, GBlk v ss k → base ≤ k ∧ k < w.heap.size := by
  rintro k (hk | ⟨i, hi, hk⟩)
  · exact h.own.lt k hk
  · exact (h.row i hi (by rw [← h.len]; exact hi)).lt k hk
theorem GridN.turn {w w' : World} {base : Nat} {v : Value} {rows : List (List C3)} {ss : List SV} {S : Nat → Prop} (h : GridN w base v rows ss) (ht : Turn w w' S) (hS : ∀ k, GBlk v ss k → ¬ S k) : GridN w' base v rows ss :=
  ⟨h.own.turn ht (fun k hk => hS k (.inl hk)), h.len, fun i h1 h2 => (h.row i h1 h2).turn ht (fun k hk => hS k (.inr ⟨i, h1, hk⟩)), h.apart, h.out⟩
theorem GridN.below {w w' : World} {base : Nat} {v : Value} {rows : List (List C3)} {ss : List SV} (h : GridN w base v rows ss) (hb : Below w.heap.size w w') : GridN w' base v rows ss :=
  h.turn (Turn.grown (row := none) (grown_of hb)) (fun k _ e => by cases e)
theorem GridN.mono {w : World} {base base' : Nat} {v : Value} {rows : List (List C3)} {ss : List SV} (h : GridN w base v rows ss) (hb : base' ≤ base) : GridN w base' v rows ss :=
  ⟨h.own.mono hb, h.len, fun i h1 h2 => (h.row i h1 h2).mono hb, h.apart, h.out⟩
/-- One row is written. -/
theorem GridN.put {w w' : World} {base k : Nat} {v : Value} {rows : List (List C3)} {ss : List SV} {cs : List C3} (h : GridN w base v rows ss) (hk : k < ss.length) (hg : w.grownBy w' ss[k].v.ownBlock) (hn : RNew w' base ss[k].v cs) : GridN w' base v (rows.set k cs) ss := by
  refine ⟨h.own.kept hg ?_, by rw [List.length_set]; exact h.len, fun i h1 h2 => ?_, h.apart, h.out⟩
  · cases e : v.ownBlock with
    | none => exact .inl rfl
    | some b => exact .inr fun e' => h.out k hk b e'.symm e
  · by_cases e : i = k
    · subst e
      rw [List.getElem_set_self]
      exact hn
    · rw [List.getElem_set_ne (by omega)]
      exact (h.row i h1 (by rw [← h.len]; exact h1)).far hg (fun j hj e' => h.apart k i hk h1 (fun e2 => e e2.symm) j e' hj)
def csum (rs : List (List C3)) : Nat := (rs.map List.length).sum
def kgrid : Nat → List (List C3) → List (List C3)
  | _, [] => []
  | k, r :: rs => kmarks k r.length :: kgrid (k + 2 * r.length) rs
theorem kgrid_len : ∀ (k : Nat) (rs : List (List C3)), (kgrid k rs).length = rs.length
  | _, [] => rfl
  | k, r :: rs => by rw [kgrid, List.length_cons, List.length_cons, kgrid_len]
theorem kgrid_get : ∀ (k : Nat) (rs : List (List C3)) (i : Nat) (h : i < (kgrid k rs).length) (h' : i < rs.length), (kgrid k rs)[i] = kmarks (k + 2 * csum (rs.take i)) rs[i].length
  | k, r :: rs, 0, _, _ => rfl
  | k, r :: rs, i + 1, h, h' => by
    have := kgrid_get (k + 2 * r.length) rs i (by rw [kgrid_len]; simpa using h') (by simpa using h')
    show (kgrid (k + 2 * r.length) rs)[i]'(by rw [kgrid_len]; simpa using h') = _
    rw [this]
    show kmarks (k + 2 * r.length + 2 * csum (rs.take i)) _ = kmarks (k + 2 * (r.length + csum (rs.take i))) _
    rw [Nat.mul_add, Nat.add_assoc]
    rfl
theorem csum_succ {rs : List (List C3)} {k : Nat} (h : k < rs.length) : csum (rs.take (k + 1)) = csum (rs.take k) + rs[k].length := by
  unfold csum
  rw [List.take_succ_eq_append_getElem h, List.map_append, List.sum_append]
  simp
theorem csum_le {rs : List (List C3)} (k : Nat) : csum (rs.take k) ≤ csum rs := by
  conv => rhs; rw [← List.take_append_drop k rs]
  unfold csum
  rw [List.map_append, List.sum_append]
  omega
def MarkN (base : Nat) (v : Value) (rows : List (List C3)) (ss : List SV) (w : World) (e : Ending) (w' : World) : Prop := e = .returned (.int .i64 (1 + 2 * (csum rows : Nat) : Int)) ∧ GridN w' base v (kgrid 1 rows) ss ∧ Turn w w' (GBlk v ss)
set_option maxHeartbeats 2000000 in
theorem eqRows_num (b b' : Nat) (v v' : Value) (rows : List (List C3)) (ss ss' : List SV) (w : World) (h : GridN w b v rows ss) (h' : GridN w b' v' rows ss') (hl : rows.length ≤ 2000000) (hr : ∀ r ∈ rows, r.length ≤ 1000000 ∧ NumL r) :
    Calls Tryz.prog 16 #[v, v'] w fun e w' => e = .returned (.bool true) ∧ Below w.heap.size w w' := by
  obtain ⟨a, c, rfl, hcell⟩ := rowsC_any h.own.row
  obtain ⟨a', c', rfl, hcell'⟩ := rowsC_any h'.own.row
  have hl1 := h.len
  have hl2 := h'.len
  have HC := Lib.hid hcell
  have HC' := Lib.hid hcell'
  have HR := Lib.hid h.row
  have HR' := Lib.hid h'.row
  have HB := Lib.hid hr
  rw [show ss'.length = ss.length by omega]
  have HL := Lib.hid (And.intro hl1 hl2)
  have hls : ss.length ≤ 2000000 := by omega
  clear hcell hcell' h h' hl1 hl2 hr
  go_enter Tryz.func16, Tryz.ntmps16
  go_wp2
  go_loopw [5] (fun i wr => ∃ k : Nat, k ≤ ss.length ∧ i = .int .i64 (k : Int) ∧ Below w.heap.size w wr) (fun i _ => ss.length - (intOf i).toNat)
  case atStart => exact ⟨0, Nat.zero_le _, rfl, Below.refl _ _⟩
  case round =>
    obtain ⟨k, hk, rfl, hb⟩ := hrel
    by_cases hlt : k < ss.length
    · have hlt' : k < ss'.length := by have := HL.out; omega
      have hltr : k < rows.length := by have := HL.out.1; omega
      obtain ⟨g, o, rfl, hcap, hc0⟩ := HC.out k hlt
      obtain ⟨g', o', rfl, hcap', hc0'⟩ := HC'.out k hlt'
      have hcap'' : ss.length ≤ c' := by have := HL.out; omega
      have hbd : Below w.heap.size w wr.drew := belowDN hb 1
      have HQ := Lib.hid (eqCells_num ss[k].v ss'[k].v rows[k] wr.drew ((HR.out k hlt hltr).below hbd).row ((HR'.out k hlt' hltr).below hbd).row (HB.out _ (List.getElem_mem hltr)).1 (HB.out _ (List.getElem_mem hltr)).2)
      have q0 := (grown_of hb).cell hc0 (by simp)
      have q1 := (grown_of hb).cell hc0' (by simp)
      clear hcap' hc0 hc0' hltr
      generalize ss[k].v = x at *
      generalize (ss'[k]'hlt').v = y at *
      clear hlt'
      go_wp2
      go_region_with (go_at_call 46; refine (HQ.out).mono ?_; rintro e w2 ⟨rfl, hb2⟩)
      all_goals
        have hb3 := below_trans hbd hb2 hbd.size
        clear q0 q1
        go_wp2
        go_roundw
        case rel => exact ⟨k + 1, by omega, by go_num, hb3⟩
        case measure => simp [intOf]; omega
    · go_wp2
      go_ret
      exact ⟨rfl, hb⟩
end Go.Proofs.YtobpnoiienpipaaGreat
