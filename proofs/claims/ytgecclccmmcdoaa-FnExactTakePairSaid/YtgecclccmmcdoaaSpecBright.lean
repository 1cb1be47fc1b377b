/-
  What is proved: the walks of the model's Brightness and Colouring.
  Conditions: the list can be read; at most 4000000 numbers.
-/
import Derived.Test.YtgecclccmmcdoaaBright
import Derived.Test.YtgecclccmmcdoaaSpecDec
import Derived.Test.YtgecclccmmcdoaaSpecAdd
namespace Go.Proofs.Ytgecclccmmcdoaa
set_option linter.unusedVariables false
open Go.RowKit
attribute [local go_sem] run_store_float run_store_complex unary_negf neg256

theorem RNew.lenv {w : World} {base : Nat} {v : Value} {cs : List C3} (h : RNew w base v cs) : ∃ a c, v = .slice a cs.length c := by
  rcases h with ⟨rfl, rfl⟩ | ⟨g, cap, cur, rfl, _⟩
  · exact ⟨none, 0, rfl⟩
  · exact ⟨_, _, rfl⟩
theorem RNew.lenr {w : World} {base : Nat} {v : Value} {cs : List C3} (h : RNew w base v cs) (hne : cs ≠ []) : ∃ g o cap, v = .slice (some ⟨g, o, none⟩) cs.length cap ∧ cs.length ≤ cap ∧ ∀ i (h : i < cs.length), w.cell? ⟨g, o + i * 2, none⟩ = some (.float .f32 cs[i].1) ∧ w.cell? ⟨g, o + i * 2 + 1, none⟩ = some (.complex .f32 cs[i].2.1 cs[i].2.2) := by
  rcases h.row with ⟨_, h1⟩ | h1
  · exact absurd h1 hne
  · exact h1
theorem spread_snoc (cs : List C3) (k : Nat) (h : k < cs.length) : spread (cs.take (k + 1)) = spread (cs.take k) ++ [cs[k].1, cs[k].1, cs[k].1, cs[k].1] := by
  have e : cs.take (k + 1) = cs.take k ++ [cs[k]] := by rw [List.take_add_one, List.getElem?_eq_getElem h]; rfl
  rw [e]
  unfold spread
  rw [List.flatMap_append]
  rfl
theorem spread_take (cs : List C3) (k : Nat) (h : k ≤ cs.length) : (spread (cs.take k)).length = 4 * k := by
  rw [spread_len, List.length_take, Nat.min_eq_left h]
/-- What stands at the head of a round. -/
structure SB (w w1 wr : World) (g o : Nat) (cs : List C3) (gg n cc : Nat) (rs : List Nat) : Prop where
  own : OwnF wr w.heap.size (.slice (some ⟨gg, 0, none⟩) n cc) rs
  num : rs.length = n
  below : Below w.heap.size w wr
  glt : g < wr.heap.size
  ne : gg ≠ g
  cell : ∀ i (h : i < cs.length), wr.cell? ⟨g, o + i * 2, none⟩ = some (.float .f32 cs[i].1)
theorem SB.snoc {w w1 wr w6 : World} {g o gg n cc g6 cap6 z : Nat} {cs : List C3} {rs : List Nat} (x : Obj) (h : SB w w1 wr g o cs gg n cc rs)
    (ho : OwnF w6 w.heap.size (.slice (some ⟨g6, 0, none⟩) (n + 1) cap6) (rs ++ [z])) (hg : (wr.alloc x).grownBy w6 (Value.slice (some ⟨gg, 0, none⟩) n cc).ownBlock) (hor : (Value.slice (some ⟨gg, 0, none⟩) n cc).ownBlock = some g6 ∨ g6 = (wr.alloc x).heap.size) :
    SB w w1 w6 g o cs g6 (n + 1) cap6 (rs ++ [z]) := by
  have hg' : (wr.alloc x).grownBy w6 (some gg) := hg
  refine ⟨ho, by simp [h.num], snoc_below h.below h.own x hg, Nat.lt_of_lt_of_le h.glt (Nat.le_trans (by simp) hg.size), ?_, fun i hi => ?_⟩
  · rcases hor with e | e
    · have e2 : gg = g6 := Option.some.inj e
      rw [← e2]; exact h.ne
    · have := h.glt
      simp at e
      omega
  · have c1 := (World.grownBy_alloc wr x none).cell (h.cell i hi) (by simp)
    exact hg'.cell c1 (by intro e; first | exact h.ne (Option.some.inj e) | exact h.ne (Option.some.inj e).symm)
theorem SB.new {w w1 wr : World} {g o gg n cc : Nat} {cs : List C3} {rs : List Nat} (h : SB w w1 wr g o cs gg n cc rs) (hk : rs = spread cs) : FNew wr w.heap.size (.slice (some ⟨gg, 0, none⟩) n cc) (spread cs) := hk ▸ h.own.new
/-- The same, of Colouring. -/
structure SC (w wr : World) (g : Nat) (xs bs : List Nat) (gg n cc : Nat) (rs : List Nat) : Prop where
  own : OwnF wr w.heap.size (.slice (some ⟨gg, 0, none⟩) n cc) rs
  num : rs.length = n
  below : Below w.heap.size w wr
  glt : g < wr.heap.size
  ne : gg ≠ g
  cell : ∀ i (h : i < bs.length), wr.cell? ⟨g, i, none⟩ = some (.float .f32 bs[i])
  res : ResL .sub xs bs rs
theorem SC.snoc {w wr w6 : World} {g gg n cc g6 cap6 z : Nat} {xs bs rs : List Nat} (x : Obj) (h : SC w wr g xs bs gg n cc rs)
    (ho : OwnF w6 w.heap.size (.slice (some ⟨g6, 0, none⟩) (n + 1) cap6) (rs ++ [z])) (hg : (wr.alloc x).grownBy w6 (Value.slice (some ⟨gg, 0, none⟩) n cc).ownBlock) (hor : (Value.slice (some ⟨gg, 0, none⟩) n cc).ownBlock = some g6 ∨ g6 = (wr.alloc x).heap.size)
    (hlt : n < bs.length) (hlt' : n < xs.length) (hr : Res .sub xs[n] bs[n] z) : SC w w6 g xs bs g6 (n + 1) cap6 (rs ++ [z]) := by
  have hg' : (wr.alloc x).grownBy w6 (some gg) := hg
  refine ⟨ho, by simp [h.num], snoc_below h.below h.own x hg, Nat.lt_of_lt_of_le h.glt (Nat.le_trans (by simp) hg.size), ?_, fun i hi => ?_, h.res.snoc h.num hlt' hlt hr⟩
  · rcases hor with e | e
    · have e2 : gg = g6 := Option.some.inj e
      rw [← e2]; exact h.ne
    · have := h.glt
      simp at e
      omega
  · have c1 := (World.grownBy_alloc wr x none).cell (h.cell i hi) (by simp)
    exact hg'.cell c1 (by intro e; first | exact h.ne (Option.some.inj e) | exact h.ne (Option.some.inj e).symm)
end Go.Proofs.Ytgecclccmmcdoaa
