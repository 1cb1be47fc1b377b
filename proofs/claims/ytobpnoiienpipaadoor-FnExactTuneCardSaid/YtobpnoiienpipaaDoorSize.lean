/-
  What is proved: the walk of the command size.
  Conditions: the values can be read; they have at most 1048576 bytes each.
-/
import Derived.Test.YtobpnoiienpipaaDoorCmd
import Derived.Test.YtobpnoiienpipaaDoorScan
namespace Go.Proofs.YtobpnoiienpipaaDoor
set_option linter.unusedVariables false
open Go.RowKit
attribute [local go_sem] run_store_float run_store_complex unary_negf neg256

/-- What a command makes of a set: 0 slice, 1 killer, 2 saturation, 3 size. -/
def numF (vs : List (List UInt8)) (y : SetC) : Option SetC := if (numR vs).2 = true then some y else none
def sizeF (x : SetC) : List (List UInt8) → Option SetC
  | [a, b] => if (puB a && puB b) = true then some { x with c := (puV a : Int), r := (puV b : Int) } else none
  | _ => none
def cmdF (k : Nat) (x : SetC) (vs : List (List UInt8)) : Option SetC :=
  if k = 0 then numF vs (x.s' (numR vs).1) else if k = 1 then numF vs (x.l' (numR vs).1) else if k = 2 then numF vs (x.t' (numR vs).1) else sizeF x vs
def CmdPost (k : Nat) (x : SetC) (v : Value) (vs : List (List UInt8)) (w : World) (e : Ending) (w' : World) : Prop :=
  ∃ y v' b, e = .returned (.tuple #[SetC.val y v', .bool b]) ∧ (v' = v ∨ v' = .slice none 0 0) ∧ (b = true → v' = v ∧ cmdF k x vs = some y) ∧ (b = false → cmdF k x vs = none) ∧ Below w.heap.size w w'
theorem sizeF_no {x : SetC} {vs : List (List UInt8)} (h : vs.length ≠ 2) : sizeF x vs = none := by
  match vs, h with
  | [], _ => rfl
  | [_], _ => rfl
  | [_, _], h => exact absurd rfl h
  | _ :: _ :: _ :: _, _ => rfl
theorem num_post {k : Nat} {x y : SetC} {v : Value} {vs : List (List UInt8)} {w w' : World} (hc : cmdF k x vs = numF vs y) (hb : Below w.heap.size w w') : CmdPost k x v vs w (.returned (.tuple #[y.val v, .bool (numR vs).2])) w' :=
  ⟨y, v, _, rfl, .inl rfl, fun h => ⟨rfl, by rw [hc]; unfold numF; rw [if_pos h]⟩, fun h => by rw [hc]; unfold numF; rw [if_neg (by rw [h]; decide)], hb⟩
theorem froz6 {W : World} {b : Nat} {cs : Array Value} {t : TypeId} (h : W.heap[b]? = some (.cells cs t (0, 0))) : W.frozen? ⟨b, 0, none⟩ = false ∧ W.frozen? ⟨b, 1, none⟩ = false ∧ W.frozen? ⟨b, 2, none⟩ = false ∧ W.frozen? ⟨b, 3, none⟩ = false ∧ W.frozen? ⟨b, 4, none⟩ = false ∧ W.frozen? ⟨b, 5, none⟩ = false := by
  refine ⟨?_, ?_, ?_, ?_, ?_, ?_⟩ <;> simp [World.frozen?, h]
set_option maxRecDepth 100000 in
set_option maxHeartbeats 2000000 in
theorem withSize_any (x : SetC) (v u : Value) (ls vs : List (List UInt8)) (w : World) (h : TRow w v ls) (h' : TRow w u vs) (hs : Short vs) :
    Calls Tryd.prog 100 #[x.val v, u] w fun e w' => CmdPost 3 x v vs w e w' := by
  obtain ⟨hl, hsh⟩ := hs
  obtain ⟨a, c, rfl⟩ := h.lenv
  obtain ⟨k1, k2, hsz, hbl⟩ := alloc2 w (.cells (x.cells (.slice a ls.length c)) 27) (.cells #[.int .i64 0, .int .i64 0, .float .f32 0, .float .f32 0, .float .f32 0, .slice none 0 0] 27)
  have hbw := hbl
  by_cases h2 : vs.length = 2
  · obtain ⟨l, m, rfl⟩ : ∃ l m, vs = [l, m] := by
      match vs, h2 with
      | [l, m], _ => exact ⟨l, m, rfl⟩
    obtain ⟨a2, c2, rfl, hcell⟩ := h'.any
    obtain ⟨g, o, rfl, hc, hcc⟩ := hcell 0 (by simp)
    obtain ⟨g', o', e', _, hcc'⟩ := hcell 1 (by simp)
    cases e'
    have hz1 := hsh l (by simp)
    have hz2 := hsh m (by simp)
    have HP := fun W => Lib.hid (parseUint_any ⟨l.toArray⟩ W (by simpa [ByteArray.size] using hz1))
    have HP2 := fun W => Lib.hid (parseUint_any ⟨m.toArray⟩ W (by simpa [ByteArray.size] using hz2))
    have hf : sizeF x [l, m] = if (puB l && puB m) = true then some { x with c := (puV l : Int), r := (puV m : Int) } else none := rfl
    have HFF := Lib.hid (show cmdF 3 x [l, m] = _ from hf)
    unfold UintPost at HP HP2
    obtain ⟨xc, xr, xs, xl, xt⟩ := x
    have hg : ¬ g = w.heap.size := by
      intro e
      subst e
      simp [World.cell?] at hcc
    have hg' : ¬ w.heap.size = g := fun e => hg e.symm
    have hd0 := (below_grown hbl).cell hcc (by simp)
    have hd1 := (below_grown hbl).cell hcc' (by simp)
    simp only [SetC.val, SetC.cells, List.length_cons, List.length_nil, List.getElem_cons_zero, List.getElem_cons_succ, strV, Nat.add_zero, Nat.zero_add, Nat.reduceAdd] at *
    generalize hp1 : puB l = b1 at *
    generalize hp2 : puB m = b2 at *
    generalize hn1 : puV l = n1 at *
    generalize hn2 : puV m = n2 at *
    generalize (⟨l.toArray⟩ : ByteArray) = s1 at *
    generalize (⟨m.toArray⟩ : ByteArray) = s2 at *
    clear h h' hcc hcc' hcell hf h2 hp1 hp2 hn1 hn2 hz1 hz2 hsh hl
    go_enter Tryd.func100, Tryd.ntmps100
    go_wp2_with fail
    generalize World.alloc (World.alloc w _) _ = X at *
    refine (HP X).out.mono ?_
    rintro e w1 ⟨rfl, rfl⟩
    obtain ⟨p0, p1, p2, p3, p4, p5⟩ : (X.cell? ⟨w.heap.size, 0, none⟩ = some (.int .i64 xc)) ∧ (X.cell? ⟨w.heap.size, 1, none⟩ = some (.int .i64 xr)) ∧ (X.cell? ⟨w.heap.size, 2, none⟩ = some (.float .f32 xs)) ∧ (X.cell? ⟨w.heap.size, 3, none⟩ = some (.float .f32 xl)) ∧ (X.cell? ⟨w.heap.size, 4, none⟩ = some (.float .f32 xt)) ∧ (X.cell? ⟨w.heap.size, 5, none⟩ = some (.slice a ls.length c)) := by
      refine ⟨?_, ?_, ?_, ?_, ?_, ?_⟩ <;> simp [World.cell?, k1, Nat.add_assoc]
    obtain ⟨t0, t1, t2, t3, t4, t5⟩ : X.frozen? ⟨w.heap.size, 0, none⟩ = false ∧ X.frozen? ⟨w.heap.size, 1, none⟩ = false ∧ X.frozen? ⟨w.heap.size, 2, none⟩ = false ∧ X.frozen? ⟨w.heap.size, 3, none⟩ = false ∧ X.frozen? ⟨w.heap.size, 4, none⟩ = false ∧ X.frozen? ⟨w.heap.size, 5, none⟩ = false := by
      refine ⟨?_, ?_, ?_, ?_, ?_, ?_⟩ <;> simp [World.frozen?, k1, Nat.add_assoc]
    obtain ⟨r0, r1, r2, r3, r4, r5⟩ : (X.cell? ⟨w.heap.size + 1, 0, none⟩ = some (.int .i64 0)) ∧ (X.cell? ⟨w.heap.size + 1, 1, none⟩ = some (.int .i64 0)) ∧ (X.cell? ⟨w.heap.size + 1, 2, none⟩ = some (.float .f32 0)) ∧ (X.cell? ⟨w.heap.size + 1, 3, none⟩ = some (.float .f32 0)) ∧ (X.cell? ⟨w.heap.size + 1, 4, none⟩ = some (.float .f32 0)) ∧ (X.cell? ⟨w.heap.size + 1, 5, none⟩ = some (.slice none 0 0)) := by
      refine ⟨?_, ?_, ?_, ?_, ?_, ?_⟩ <;> simp [World.cell?, k2, Nat.add_assoc]
    obtain ⟨s0, s1, s2, s3, s4, s5⟩ : X.frozen? ⟨w.heap.size + 1, 0, none⟩ = false ∧ X.frozen? ⟨w.heap.size + 1, 1, none⟩ = false ∧ X.frozen? ⟨w.heap.size + 1, 2, none⟩ = false ∧ X.frozen? ⟨w.heap.size + 1, 3, none⟩ = false ∧ X.frozen? ⟨w.heap.size + 1, 4, none⟩ = false ∧ X.frozen? ⟨w.heap.size + 1, 5, none⟩ = false := by
      refine ⟨?_, ?_, ?_, ?_, ?_, ?_⟩ <;> simp [World.frozen?, k2, Nat.add_assoc]
    clear k1 k2
    go_wp2_with fail
    refine (HP2 _).out.mono ?_
    rintro e w1 ⟨rfl, rfl⟩
    have hfin : ∀ W, Below w.heap.size w W → CmdPost 3 ⟨xc, xr, xs, xl, xt⟩ (.slice a ls.length c) [l, m] w (.returned (.tuple #[.agg #[.int .i64 (n1 : Int), .int .i64 (n2 : Int), .float .f32 xs, .float .f32 xl, .float .f32 xt, .slice a ls.length c], .bool (b1 && b2)])) W := fun W hW =>
      ⟨⟨(n1 : Int), (n2 : Int), xs, xl, xt⟩, _, _, rfl, .inl rfl, fun h => ⟨rfl, by rw [HFF.out, if_pos h]⟩, fun h => by rw [HFF.out, if_neg (by rw [h]; decide)], hW⟩
    have HFIN := Lib.hid hfin
    clear hfin HFF
    cases b1
    · go_wp2
      refine bodyPost_ret (v := .tuple #[.agg #[.int .i64 (n1 : Int), .int .i64 (n2 : Int), .float .f32 xs, .float .f32 xl, .float .f32 xt, .slice a ls.length c], .bool false]) ?_ rfl ?_
      · simp [results, Tryd.results100, go_sem, r0, r1, r2, r3, r4, r5]
      · refine HFIN.out _ ?_
        exact ((((((((hbl.setCell (p := ⟨_, _, none⟩) (by simp) _).setCell (p := ⟨_, _, none⟩) (by simp) _).setCell (p := ⟨_, _, none⟩) (by simp) _).setCell (p := ⟨_, _, none⟩) (by simp) _).setCell (p := ⟨_, _, none⟩) (by simp) _).setCell (p := ⟨_, _, none⟩) (by simp) _).setCell (p := ⟨_, _, none⟩) (by simp) _).setCell (p := ⟨_, _, none⟩) (by simp) _)
    · go_wp2
      refine bodyPost_ret (v := .tuple #[.agg #[.int .i64 (n1 : Int), .int .i64 (n2 : Int), .float .f32 xs, .float .f32 xl, .float .f32 xt, .slice a ls.length c], .bool b2]) ?_ rfl ?_
      · simp [results, Tryd.results100, go_sem, r0, r1, r2, r3, r4, r5]
      · refine HFIN.out _ ?_
        exact ((((((((hbl.setCell (p := ⟨_, _, none⟩) (by simp) _).setCell (p := ⟨_, _, none⟩) (by simp) _).setCell (p := ⟨_, _, none⟩) (by simp) _).setCell (p := ⟨_, _, none⟩) (by simp) _).setCell (p := ⟨_, _, none⟩) (by simp) _).setCell (p := ⟨_, _, none⟩) (by simp) _).setCell (p := ⟨_, _, none⟩) (by simp) _).setCell (p := ⟨_, _, none⟩) (by simp) _)
  · have h3 : ¬ (vs.length : Int) = 2 := by omega
    obtain ⟨a2, c2, rfl⟩ := h'.lenv
    have HN := Lib.hid (show cmdF 3 x vs = none from sizeF_no h2)
    obtain ⟨xc, xr, xs, xl, xt⟩ := x
    simp only [SetC.val, SetC.cells] at *
    clear h h' h2 hsh
    go_enter Tryd.func100, Tryd.ntmps100
    obtain ⟨r0, r1, r2, r3, r4, r5⟩ := SetAt.of (x := zeroC) (v := .slice none 0 0) k2
    obtain ⟨s0, s1, s2, s3, s4, s5⟩ := froz6 k2
    simp only [zeroC] at r0 r1 r2 r3 r4
    clear k1 k2
    go_wp2_with fail
    generalize World.alloc (World.alloc w _) _ = X at *
    refine bodyPost_ret (v := .tuple #[.agg #[.int .i64 0, .int .i64 0, .float .f32 0, .float .f32 0, .float .f32 0, .slice none 0 0], .bool false]) ?_ rfl ⟨zeroC, .slice none 0 0, false, rfl, .inr rfl, (fun h => by cases h), fun _ => HN.out, ?_⟩
    · simp [results, Tryd.results100, go_sem, r0, r1, r2, r3, r4, r5]
    · exact hbl
end Go.Proofs.YtobpnoiienpipaaDoor
