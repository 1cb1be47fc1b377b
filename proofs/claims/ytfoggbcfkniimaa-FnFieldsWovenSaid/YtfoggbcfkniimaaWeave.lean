/-
  What is proved: the walk of Weave over the two fields of a picture.
  Conditions: the fields can be read.
-/
import Derived.Test.YtfoggbcfkniimaaFieldOf
import Derived.Test.YtfoggbcfkniimaaLawPaired
import Derived.Deep.RegionLaw
import Derived.Laws.CopyOwn
namespace Go.Proofs.Ytfoggbcfkniimaa
set_option linter.unusedVariables false
open Go.RowKit Go.Shelf
attribute [local go_sem] run_store_float run_store_complex unary_negf neg256 Oper.semAt_some

set_option maxRecDepth 100000 in
set_option maxHeartbeats 2000000 in
theorem values1_in (n : Nat) (hn : 1 ≤ n) (w0 : World) (l Bl g o cap : Nat) (L : List (RowIn w0)) (hlen : L.length ≤ 1000000) (J Jx : List (RowIn w0) → World → Prop)
    (hcell : ∀ i (h : i < L.length), w0.cell? ⟨g, o + i, none⟩ = some L[i].1.1)
    (hY : ∀ pre x W, J pre W → pre.length < L.length → YieldAt Fence.wide (n - 1) Try.prog l #[x.1.1] W fun e W' =>
      (e = .returned (.bool true) ∧ J (pre ++ [x]) W' ∧ Below w0.heap.size W W') ∨ (e = .returned (.bool false) ∧ Jx (pre ++ [x]) W'))
    (W : World) (hW : Below w0.heap.size w0 W) (hBl : w0.cell? ⟨Bl, 0, none⟩ = some (.slice (some ⟨g, o, none⟩) L.length cap)) (h0 : J [] W) :
    CallsIn Fence.wide n Try.prog 56 #[.func (.yield l) #[] #[], .pointer (some ⟨Bl, 0, none⟩)] W fun e W' => (∃ v, e = .returned v) ∧
      ((∃ ys, ys = L ∧ J ys W') ∨ (∃ pre, pre <+: L ∧ Jx pre W')) := by
  refine callsIn_of_wp Try.func56 rfl trivial ?_ rfl
  simp only [Try.ntmps56, List.size_toArray, List.length_cons, List.length_nil, Nat.reduceAdd, Nat.reduceSub, Array.replicate_succ, Array.replicate_zero, List.push_toArray, List.append_toArray, List.nil_append, List.cons_append]
  have hbl := (grown_of hW).cell hBl (by simp)
  gi_wp2
  gi_loopw [7] (fun i wr => ∃ (m : Nat) (pre : List (RowIn w0)), i = .int .i64 (m : Int) ∧ m ≤ L.length ∧ pre ++ L.drop m = L ∧ J pre wr ∧ Below w0.heap.size w0 wr) (fun i _ => L.length - (intOf i).toNat)
  case atStart => exact ⟨0, [], rfl, by omega, rfl, h0, hW⟩
  case round =>
    obtain ⟨m, pre, rfl, hm, hpre, hJs, hb⟩ := hrel
    by_cases hlt : m < L.length
    · have hc := (grown_of hb).cell (hcell m hlt) (by simp)
      rw [List.drop_eq_getElem_cons hlt] at hpre
      have hpl : pre.length < L.length := by
        have := congrArg List.length hpre
        rw [List.length_append, List.length_cons] at this
        omega
      obtain ⟨fn, tmps, assign, body, hy, hR⟩ := hY pre L[m] wr hJs hpl
      have HP := Lib.hid hpre
      clear hpre
      generalize L[m] = x at *
      gi_wp2
      refine hR.mono ?_
      rintro e W3 (⟨rfl, hJ3, hk3⟩ | ⟨rfl, hJx3⟩)
      · gi_wp2
        go_roundw
        case rel => exact ⟨m + 1, _, by go_num, by omega, by rw [List.append_assoc]; exact HP.out, hJ3, hb.trans hk3⟩
        case measure => simp [intOf]; omega
      · gi_wp2
        refine bodyPost_ret (results_none rfl _ _ _) rfl ?_
        exact ⟨⟨_, rfl⟩, .inr ⟨_, ⟨_, by rw [List.append_assoc]; exact HP.out⟩, hJx3⟩⟩
    · rw [List.drop_of_length_le (by omega), List.append_nil] at hpre
      have HP := Lib.hid hpre
      clear hpre
      gi_wp2
      go_end0
      exact ⟨⟨_, rfl⟩, .inl ⟨pre, HP.out, hJs⟩⟩
set_option maxHeartbeats 1000000 in
theorem values_any (a : Option Addr) (m c : Nat) (w : World) :
    Calls Try.prog 41 #[.slice a m c] w fun e w' => e = .returned (.func (.func 56) #[] #[.pointer (some ⟨w.heap.size, 0, none⟩)]) ∧ w' = w.alloc (.cells #[.slice a m c] 38) := by
  go_enter Try.func41, Try.ntmps41
  go_wp2
  go_ret
  exact ⟨rfl, rfl⟩
theorem values_hands (n : Nat) (hn : 1 ≤ n) (w0 : World) (Bl g o cap : Nat) (L : List (RowIn w0)) (hlen : L.length ≤ 1000000)
    (hcell : ∀ i (h : i < L.length), w0.cell? ⟨g, o + i, none⟩ = some L[i].1.1) (hBl : w0.cell? ⟨Bl, 0, none⟩ = some (.slice (some ⟨g, o, none⟩) L.length cap)) :
    Hands n w0 56 #[.pointer (some ⟨Bl, 0, none⟩)] L w0 :=
  fun l J Jx W hW _ _ hY h0 => values1_in n hn w0 l Bl g o cap L hlen J Jx hcell hY W hW hBl h0

/-- What the first 2 k rows are woven of. -/
def Woven (w : World) (rs : List (List C3)) (k : Nat) (vals : List Value) : Prop := ∀ q (h : q < rs.length), q < 2 * k → ∃ a c, vals[q]? = some (.slice a rs[q].length c) ∧ RowV w (.slice a rs[q].length c) rs[q]
def WeavePost (rs : List (List C3)) (w : World) (e : Ending) (w' : World) : Prop := ∃ v', e = .returned (.tuple #[v', .bool (pok rs)]) ∧ (pok rs = true → PicV w' v' rs) ∧ Below w.heap.size w w'
theorem WeavePost.no {rs : List (List C3)} {w w' : World} {v' : Value} (h : pok rs = false) (hb : Below w.heap.size w w') : WeavePost rs w (.returned (.tuple #[v', .bool false])) w' := ⟨v', by rw [h], (fun e => by rw [h] at e; cases e), hb⟩
theorem WeavePost.yes {rs : List (List C3)} {w w' : World} {v' : Value} (h : pok rs = true) (hp : PicV w' v' rs) (hb : Below w.heap.size w w') : WeavePost rs w (.returned (.tuple #[v', .bool true])) w' := ⟨v', by rw [h], fun _ => hp, hb⟩
end Go.Proofs.Ytfoggbcfkniimaa
