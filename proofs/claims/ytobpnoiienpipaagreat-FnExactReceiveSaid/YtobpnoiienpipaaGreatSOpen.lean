/-
  What is proved: a list of texts, and a set, that came in can be read.
  Conditions: none.
-/
import Derived.Test.YtobpnoiienpipaaGreatPz31
import Derived.SliceStrings
import Derived.ChangeShapes
import Derived.ChangeArms
import Derived.WideShapes
import Derived.Deep.Fields
namespace Go.Proofs.YtobpnoiienpipaaGreat
set_option linter.unusedVariables false
open Go.RowKit Go.ChangeShapes Go.WideShapes Go.Deep

theorem strV_data (s : ByteArray) : strV s.data.toList = .string s := by unfold strV; simp
set_option maxRecDepth 100000 in
theorem open_texts {H : Type} {enc : TypeId × Value → H} {W : World} {base : Nat} {held : Bool} {fuel : Nat} {cs : List Value} {x : DataW H × List MemPlace}
    (h : DataW.trod enc Tryz.prog W base (fun _ => true) held fuel 35 cs = some x) : ∃ a len cap ls, cs = [.slice a len cap] ∧ TRow W (.slice a len cap) ls ∧ (∀ l ∈ ls, l.length ≤ maxLen) ∧ ls.length = len ∧ len ≤ maxLen := by
  rcases open_strings Tryz.underlying35 Tryz.underlying9 (by kernel_rfl) h with ⟨h0, _⟩ | ⟨ad, l, c, ss, hcs, hb, hl, hm, hss, _, hcell, hsz⟩
  · exact ⟨none, 0, 0, [], h0, .inl ⟨⟨_, _, rfl⟩, rfl⟩, by simp, rfl, by unfold maxLen; omega⟩
  · simp only [if_true] at hss
    refine ⟨some ad, l, c, (ss.take l).map (fun s => s.data.toList), hcs, ?_, ?_, by simp; omega, by omega⟩
    · by_cases h0 : l = 0
      · subst h0
        exact .inl ⟨⟨_, _, rfl⟩, by simp⟩
      · obtain ⟨g, o, spot⟩ := ad
        have hc0 := hcell 0 (by omega)
        have hspot : spot = none := by simpa [Addr.add] using World.cell?_spot hc0
        subst hspot
        have hln : ((ss.take l).map (fun s => s.data.toList)).length = l := by simp; omega
        refine .inr ⟨g, o, c, by rw [hln], by rw [hln]; exact hl, fun i hi => ?_⟩
        rw [hln] at hi
        have hadd : (⟨g, o, none⟩ : Addr).add i = ⟨g, o + i, none⟩ := by unfold Addr.add; split <;> simp_all
        have h1 := hcell i (by omega)
        rw [hadd] at h1
        rw [h1]
        have h2 : ss.getD i ByteArray.empty = ss[i]'(by omega) := by simp [List.getD, List.getElem?_eq_getElem (show i < ss.length by omega)]
        simp only [List.getElem_map, List.getElem_take, strV_data, h2]
    · intro q hq
      obtain ⟨s, hs, rfl⟩ := List.mem_map.1 hq
      have := hsz s (List.mem_of_mem_take hs)
      simpa using this
theorem trod_single' {H : Type} {enc : TypeId × Value → H} {P : Program} {w : World} {base : Nat} {spare : Nat → Bool} {held : Bool} {fuel : Nat} {t : TypeId} {cs : List Value} {x : DataW H × List MemPlace}
    (ht : P.underlying t = some (.float .f32)) (h : DataW.trod enc P w base spare held fuel t cs = some x) : ∃ b, cs = [.float .f32 b] := by
  cases fuel with
  | zero => exact absurd h (by unfold DataW.trod; exact fun e => by cases e)
  | succ n =>
    unfold DataW.trod at h
    rw [ht] at h
    split at h <;> simp_all
/-- A list of one value, out of a longer one. -/
theorem drop_one {cs : List Value} {k : Nat} {v : Value} (h : (cs.drop k).take 1 = [v]) : cs[k]? = some v := by
  have h1 := congrArg (fun l => l[0]?) h
  simpa using h1
set_option maxRecDepth 100000 in
theorem open_set {H : Type} {enc : TypeId × Value → H} {W : World} {r : Reach} {base b0 : Nat} {held : Bool} {v : Value} {d : DataW H} {p : List MemPlace}
    (hv : Value.okWide Tryz.prog W r b0 44 v) (h : DataW.Trod enc Tryz.prog W base (fun _ => true) held 44 v d p) :
    ∃ (x : SetC) (a : Option Addr) (len cap : Nat) (ls : List (List UInt8)), v = x.val (.slice a len cap) ∧ x.ok ∧ TRow W (.slice a len cap) ls ∧ (∀ l ∈ ls, l.length ≤ maxLen) ∧ ls.length = len ∧ len ≤ maxLen := by
  obtain ⟨fuel, hf⟩ := h
  obtain ⟨cs, rfl, hsz⟩ := okWide_struct Tryz.underlying44 hv
  have hC : Tryz.prog.cellsOf 44 = 6 := by kernel_rfl
  have k1 : Tryz.prog.cellsOf 3 = 1 := by kernel_rfl
  have k2 : Tryz.prog.cellsOf 25 = 1 := by kernel_rfl
  have k3 : Tryz.prog.cellsOf 35 = 1 := by kernel_rfl
  obtain ⟨xs, n, _, hx, hlen, hl, hg⟩ := DataW.trod_struct Tryz.underlying44 hf
  have hlx : xs.length = 6 := hl
  have some_of : ∀ i, i < 6 → ∃ y, xs[i]? = some y := fun i hi => ⟨xs[i]'(by omega), List.getElem?_eq_getElem (by omega)⟩
  obtain ⟨y0, e0⟩ := some_of 0 (by omega)
  obtain ⟨y1, e1⟩ := some_of 1 (by omega)
  obtain ⟨y2, e2⟩ := some_of 2 (by omega)
  obtain ⟨y3, e3⟩ := some_of 3 (by omega)
  obtain ⟨y4, e4⟩ := some_of 4 (by omega)
  obtain ⟨y5, e5⟩ := some_of 5 (by omega)
  have g0 : DataW.trod enc Tryz.prog W base (fun _ => true) held n 3 (((Value.agg cs).cells.toList.drop 0).take (Tryz.prog.cellsOf 3)) = some y0 := (hg 0 _ rfl).trans e0
  rw [k1] at g0
  have g1 : DataW.trod enc Tryz.prog W base (fun _ => true) held n 3 (((Value.agg cs).cells.toList.drop 1).take (Tryz.prog.cellsOf 3)) = some y1 := (hg 1 _ rfl).trans e1
  rw [k1] at g1
  have g2 : DataW.trod enc Tryz.prog W base (fun _ => true) held n 25 (((Value.agg cs).cells.toList.drop 2).take (Tryz.prog.cellsOf 25)) = some y2 := (hg 2 _ rfl).trans e2
  rw [k2] at g2
  have g3 : DataW.trod enc Tryz.prog W base (fun _ => true) held n 25 (((Value.agg cs).cells.toList.drop 3).take (Tryz.prog.cellsOf 25)) = some y3 := (hg 3 _ rfl).trans e3
  rw [k2] at g3
  have g4 : DataW.trod enc Tryz.prog W base (fun _ => true) held n 25 (((Value.agg cs).cells.toList.drop 4).take (Tryz.prog.cellsOf 25)) = some y4 := (hg 4 _ rfl).trans e4
  rw [k2] at g4
  have g5 : DataW.trod enc Tryz.prog W base (fun _ => true) held n 35 (((Value.agg cs).cells.toList.drop 5).take (Tryz.prog.cellsOf 35)) = some y5 := (hg 5 _ rfl).trans e5
  rw [k3] at g5
  obtain ⟨z0, c0, _, i0⟩ := DataW.trod_int Tryz.underlying3 g0
  obtain ⟨z1, c1, _, i1⟩ := DataW.trod_int Tryz.underlying3 g1
  obtain ⟨z2, c2⟩ := trod_single' Tryz.underlying25 g2
  obtain ⟨z3, c3⟩ := trod_single' Tryz.underlying25 g3
  obtain ⟨z4, c4⟩ := trod_single' Tryz.underlying25 g4
  obtain ⟨a, len, cap, ls, c5, h1, h2, h3, h4⟩ := open_texts g5
  refine ⟨⟨z0, z1, z2, z3, z4⟩, a, len, cap, ls, ?_, ⟨?_, ?_⟩, h1, h2, h3, h4⟩
  · have d0 := drop_one c0
    have d1 := drop_one c1
    have d2 := drop_one c2
    have d3 := drop_one c3
    have d4 := drop_one c4
    have d5 := drop_one c5
    unfold SetC.val
    refine congrArg _ (Array.ext' ?_)
    have hll : cs.toList.length = 6 := by simpa using hsz.trans hC
    simp only [Value.cells] at d0 d1 d2 d3 d4 d5
    obtain ⟨l⟩ := cs
    match l, hll with
    | [u0, u1, u2, u3, u4, u5], _ => simp_all
  · simpa [I64, Lit.wf, IntKind.min, IntKind.max, IntKind.signed, IntKind.bits] using i0
  · simpa [I64, Lit.wf, IntKind.min, IntKind.max, IntKind.signed, IntKind.bits] using i1
end Go.Proofs.YtobpnoiienpipaaGreat
