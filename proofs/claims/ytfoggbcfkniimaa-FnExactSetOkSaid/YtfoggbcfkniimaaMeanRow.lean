/-
  What is proved: the walk of MeanRow.
  Conditions: both rows can be read.
-/
import Derived.Test.YtfoggbcfkniimaaMean
import Derived.Deep.RegionHeld3
namespace Go.Proofs.Ytfoggbcfkniimaa
set_option linter.unusedVariables false
open Go.RowKit
attribute [local go_sem] run_store_float run_store_complex unary_negf neg256

def meanOk (a b : List C3) : Bool := rok a && (rok b && decide (a.length = b.length))
def MeanPost (a b : List C3) (w : World) (e : Ending) (w' : World) : Prop := ∃ v', e = .returned (.tuple #[v', .bool (meanOk a b)]) ∧ (meanOk a b = true → RowV w' v' (List.zipWith mid a b)) ∧ Below w.heap.size w w'
theorem MeanPost.no {a b : List C3} {w w' : World} {v' : Value} (h : meanOk a b = false) (hb : Below w.heap.size w w') : MeanPost a b w (.returned (.tuple #[v', .bool false])) w' := ⟨v', by rw [h], (fun e => by rw [h] at e; cases e), hb⟩
theorem MeanPost.yes {a b : List C3} {w w' : World} {v' : Value} (h : meanOk a b = true) (hr : RowV w' v' (List.zipWith mid a b)) (hb : Below w.heap.size w w') : MeanPost a b w (.returned (.tuple #[v', .bool true])) w' := ⟨v', by rw [h], fun _ => hr, hb⟩
theorem fin_at {cs : List C3} (h : rok cs = true) {k : Nat} (hk : k < cs.length) : Finc cs[k] := (rok_iff.1 h).2 _ (List.getElem_mem hk)
theorem RowV.len {w : World} {v : Value} {cs : List C3} (h : RowV w v cs) (hne : cs ≠ []) : ∃ g o cap, v = .slice (some ⟨g, o, none⟩) cs.length cap ∧ cs.length ≤ cap ∧
    ∀ i (h : i < cs.length), w.cell? ⟨g, o + i * 2, none⟩ = some (.float .f32 cs[i].1) ∧ w.cell? ⟨g, o + i * 2 + 1, none⟩ = some (.complex .f32 cs[i].2.1 cs[i].2.2) := by
  rcases h with ⟨_, h⟩ | h
  · exact absurd h hne
  · exact h
theorem RowV.lenv {w : World} {v : Value} {cs : List C3} (h : RowV w v cs) : ∃ a cap, v = .slice a cs.length cap := by
  rcases h with ⟨h, h2⟩ | ⟨g, o, cap, h, _⟩
  · subst h2; exact ⟨none, 0, h⟩
  · exact ⟨_, _, h⟩


/-- What holds all through a round. -/
def Mid (w : World) (B n k : Nat) (zs : List C3) (W : World) : Prop := Below w.heap.size w W ∧ B < W.heap.size ∧ Made W B n k zs
theorem Mid.drew {w W : World} {B n k : Nat} {zs : List C3} (h : Mid w B n k zs W) : Mid w B n k zs W.drew := ⟨h.1.drew, h.2.1, h.2.2⟩
theorem Mid.next {w W W' : World} {B n k : Nat} {zs : List C3} (h : Mid w B n k zs W) (hb : Below W.heap.size W W') : Mid w B n k zs W' :=
  ⟨below_trans h.1 hb h.1.size, Nat.lt_of_lt_of_le h.2.1 hb.size, h.2.2.kept (hb.block _ h.2.1)⟩
theorem Mid.load {w W : World} {B n k : Nat} {zs : List C3} (h : Mid w B n k zs W) {p : Addr} {v : Value} (hc : w.cell? p = some v) : W.cell? p = some v := (grown_of h.1).cell hc (by simp)
theorem Made.weaken {w : World} {b n k : Nat} {cs : List C3} (h : Made w b n (k + 1) cs) : Made w b n k cs := by
  obtain ⟨cur, h1, h2, h3⟩ := h
  exact ⟨cur, h1, h2, fun i hi hk => h3 i hi (by omega)⟩
theorem Mid.put {w W : World} {B n k : Nat} {zs : List C3} (h : Mid w B n k zs W) (hwB : w.heap.size ≤ B) (hn : k < zs.length) (hk : zs.length ≤ n) :
    Mid w B n (k + 1) zs ((W.setCell ⟨B, k * 2, none⟩ (.float .f32 zs[k].1)).setCell ⟨B, k * 2 + 1, none⟩ (.complex .f32 zs[k].2.1 zs[k].2.2)) :=
  ⟨(h.1.setCell (p := ⟨B, k * 2, none⟩) hwB _).setCell (p := ⟨B, k * 2 + 1, none⟩) hwB _, by simpa [World.setCell] using h.2.1, h.2.2.step hn hk⟩
theorem Mid.weaken {w W : World} {B n k : Nat} {zs : List C3} (h : Mid w B n (k + 1) zs W) : Mid w B n k zs W := ⟨h.1, h.2.1, h.2.2.weaken⟩
end Go.Proofs.Ytfoggbcfkniimaa
