/-
  What is proved: what a command's values tell: the walks of parsedSingle and of the functions that a command's name stands for.
  Conditions: the values can be read; they have at most 1048576 bytes each.
-/
import Derived.Test.YtobpnoiienpipaaDoorCopyV
import Derived.Test.YtobpnoiienpipaaDoorParseFixed
import Derived.Test.YtobpnoiienpipaaDoorSpecParseFixed
import Derived.Test.YtobpnoiienpipaaDoorSpecUint
import Derived.Test.YtobpnoiienpipaaDoorFrom
import Derived.Test.YtobpnoiienpipaaDoorNar
namespace Go.Proofs.YtobpnoiienpipaaDoor
set_option linter.unusedVariables false
open Go.RowKit
attribute [local go_sem] run_store_float run_store_complex unary_negf neg256

/-- A double, narrowed. -/
def nar (x : Nat) : Nat := (floatToFloatBits .f64 x .f32).getD 0
theorem conv_nar (n : Int) (W : World) : (convert 76 24 (.float .f64 (ffBits n))).run Tryd.prog W = .ok (.float .f32 (nar (ffBits n))) W := by
  obtain ⟨s, m, e, hr, hb⟩ := nar_ff n
  obtain ⟨h1, _⟩ := nar_read hr hb
  have e : nar (ffBits n) = Ieee.single.nearest s m e := by unfold nar; rw [h1]; rfl
  rw [e]
  exact run_convert_float_float (P := Tryd.prog) W 76 24 .f64 .f32 _ _ (by kernel_rfl) Tryd.underlying24 h1
/-- The single that a text in thousandths tells. -/
def sngl (l : List UInt8) : Nat := nar (ffBits ((fxP l).getD 0))
def numR : List (List UInt8) → Nat × Bool
  | [l] => (sngl l, (fxP l).isSome)
  | _ => (0, false)
theorem numR_no {vs : List (List UInt8)} (h : vs.length ≠ 1) : numR vs = (0, false) := by
  match vs, h with
  | [], _ => rfl
  | [l], h => exact absurd rfl h
  | _ :: _ :: _, _ => rfl
theorem fxP_range (l : List UInt8) : I64 ((fxP l).getD 0) := by
  have hz : I64 0 := ⟨by decide, by decide⟩
  have hc : ∀ {t : List UInt8} {n : Nat}, core t = some n → n ≤ 1000000000 := by
    intro t n h
    unfold core at h
    split at h
    · rename_i hh
      cases h
      exact hh.2.2.2.2
    · cases h
  unfold fxP
  split
  · cases hq : core (l.drop 1) with
    | none => exact hz
    | some n =>
      have := hc hq
      simp only [Option.bind_some]
      split
      · exact hz
      · exact ⟨by simp <;> omega, by simp <;> omega⟩
  · cases hq : core l with
    | none => exact hz
    | some n =>
      have := hc hq
      exact ⟨by simp <;> omega, by simp <;> omega⟩
set_option maxRecDepth 100000 in
set_option maxHeartbeats 1000000 in
theorem parsedSingle_any (v : Value) (vs : List (List UInt8)) (w : World) (h : TRow w v vs) (hs : Short vs) :
    Calls Tryd.prog 110 #[v] w fun e w' => e = .returned (.tuple #[.float .f32 (numR vs).1, .bool (numR vs).2]) ∧ Below w.heap.size w w' := by
  obtain ⟨hl, hsh⟩ := hs
  by_cases h1 : vs.length = 1
  · obtain ⟨l, rfl⟩ : ∃ l, vs = [l] := List.length_eq_one_iff.1 h1
    obtain ⟨a, c, rfl, hcell⟩ := h.any
    obtain ⟨g, o, rfl, hc, hcc⟩ := hcell 0 (by simp)
    have hsz := hsh l (by simp)
    have hr := fxP_range l
    have HP := fun W => Lib.hid (parseFixed_any ⟨l.toArray⟩ W (by simpa [ByteArray.size] using hsz))
    have HF := fun W => Lib.hid (fromFixed_any ((fxP l).getD 0) W hr.1 hr.2)
    have hcv := fun W => conv_nar ((fxP l).getD 0) W
    unfold FixPost at HP
    unfold FromPost at HF
    simp only [numR, sngl, List.length_singleton, List.getElem_cons_zero, strV, Nat.add_zero] at *
    generalize (fxP l).getD 0 = z at *
    generalize (fxP l).isSome = b at *
    generalize nar (ffBits z) = y at *
    generalize ffBits z = y2 at *
    generalize (⟨l.toArray⟩ : ByteArray) = s at *
    clear h hsh hcell h1 hl hsz
    go_enter Tryd.func110, Tryd.ntmps110
    go_wp2_with fail
    refine (HP _).out.mono ?_
    rintro e w1 ⟨rfl, hb1⟩
    go_wp2_with fail
    refine (HF _).out.mono ?_
    rintro e w2 ⟨rfl, rfl⟩
    go_wp2
    go_ret2
    exact ⟨rfl, hb1⟩
  · rw [numR_no h1]
    obtain ⟨a, c, rfl⟩ := h.lenv
    have h2 : ¬ (vs.length : Int) = 1 := by omega
    clear h hsh
    go_enter Tryd.func110, Tryd.ntmps110
    go_wp2
    go_ret2
    exact ⟨rfl, Below.refl _ _⟩
/-- A set with another s. -/
def SetC.s' (x : SetC) (y : Nat) : SetC := { x with s := y }
set_option maxRecDepth 100000 in
set_option maxHeartbeats 2000000 in
theorem withSlice_any (x : SetC) (v u : Value) (ls vs : List (List UInt8)) (w : World) (h : TRow w v ls) (h' : TRow w u vs) (hs : Short vs) :
    Calls Tryd.prog 97 #[x.val v, u] w fun e w' => e = .returned (.tuple #[(x.s' (numR vs).1).val v, .bool (numR vs).2]) ∧ Below w.heap.size w w' := by
  have HT := fun W hr => Lib.hid (parsedSingle_any u vs W hr hs)
  have HR := Lib.hid h'
  obtain ⟨a, c, rfl⟩ := h.lenv
  obtain ⟨a2, c2, rfl⟩ := h'.lenv
  obtain ⟨xc, xr, xs, xl, xt⟩ := x
  obtain ⟨k1, k2, hsz, hbl⟩ := alloc2 w (.cells #[.int .i64 xc, .int .i64 xr, .float .f32 xs, .float .f32 xl, .float .f32 xt, .slice a ls.length c] 27) (.cells #[.int .i64 0, .int .i64 0, .float .f32 0, .float .f32 0, .float .f32 0, .slice none 0 0] 27)
  simp only [SetC.val, SetC.cells, SetC.s'] at *
  clear h h'
  generalize (numR vs).1 = y at *
  generalize (numR vs).2 = b at *
  go_enter Tryd.func97, Tryd.ntmps97
  go_wp2_with fail
  generalize World.alloc (World.alloc w _) _ = X at *
  refine (HT X (HR.out.below hbl)).out.mono ?_
  rintro e w1 ⟨rfl, hb1⟩
  replace k1 := (hb1.block _ (by omega)).trans k1
  replace k2 := (hb1.block _ (by omega)).trans k2
  obtain ⟨p0, p1, p2, p3, p4, p5⟩ : (w1.cell? ⟨w.heap.size, 0, none⟩ = some (.int .i64 xc)) ∧ (w1.cell? ⟨w.heap.size, 1, none⟩ = some (.int .i64 xr)) ∧ (w1.cell? ⟨w.heap.size, 2, none⟩ = some (.float .f32 xs)) ∧ (w1.cell? ⟨w.heap.size, 3, none⟩ = some (.float .f32 xl)) ∧ (w1.cell? ⟨w.heap.size, 4, none⟩ = some (.float .f32 xt)) ∧ (w1.cell? ⟨w.heap.size, 5, none⟩ = some (.slice a ls.length c)) := by
    refine ⟨?_, ?_, ?_, ?_, ?_, ?_⟩ <;> simp [World.cell?, k1, Nat.add_assoc]
  obtain ⟨t0, t1, t2, t3, t4, t5⟩ : w1.frozen? ⟨w.heap.size, 0, none⟩ = false ∧ w1.frozen? ⟨w.heap.size, 1, none⟩ = false ∧ w1.frozen? ⟨w.heap.size, 2, none⟩ = false ∧ w1.frozen? ⟨w.heap.size, 3, none⟩ = false ∧ w1.frozen? ⟨w.heap.size, 4, none⟩ = false ∧ w1.frozen? ⟨w.heap.size, 5, none⟩ = false := by
    refine ⟨?_, ?_, ?_, ?_, ?_, ?_⟩ <;> simp [World.frozen?, k1, Nat.add_assoc]
  obtain ⟨r0, r1, r2, r3, r4, r5⟩ : (w1.cell? ⟨w.heap.size + 1, 0, none⟩ = some (.int .i64 0)) ∧ (w1.cell? ⟨w.heap.size + 1, 1, none⟩ = some (.int .i64 0)) ∧ (w1.cell? ⟨w.heap.size + 1, 2, none⟩ = some (.float .f32 0)) ∧ (w1.cell? ⟨w.heap.size + 1, 3, none⟩ = some (.float .f32 0)) ∧ (w1.cell? ⟨w.heap.size + 1, 4, none⟩ = some (.float .f32 0)) ∧ (w1.cell? ⟨w.heap.size + 1, 5, none⟩ = some (.slice none 0 0)) := by
    refine ⟨?_, ?_, ?_, ?_, ?_, ?_⟩ <;> simp [World.cell?, k2, Nat.add_assoc]
  obtain ⟨s0, s1, s2, s3, s4, s5⟩ : w1.frozen? ⟨w.heap.size + 1, 0, none⟩ = false ∧ w1.frozen? ⟨w.heap.size + 1, 1, none⟩ = false ∧ w1.frozen? ⟨w.heap.size + 1, 2, none⟩ = false ∧ w1.frozen? ⟨w.heap.size + 1, 3, none⟩ = false ∧ w1.frozen? ⟨w.heap.size + 1, 4, none⟩ = false ∧ w1.frozen? ⟨w.heap.size + 1, 5, none⟩ = false := by
    refine ⟨?_, ?_, ?_, ?_, ?_, ?_⟩ <;> simp [World.frozen?, k2, Nat.add_assoc]
  have hbw : Below w.heap.size w w1 := below_trans hbl hb1 hbl.size
  clear k1 k2
  go_wp2
  refine bodyPost_ret (v := .tuple #[.agg #[.int .i64 xc, .int .i64 xr, .float .f32 y, .float .f32 xl, .float .f32 xt, .slice a ls.length c], .bool b]) ?_ rfl ⟨rfl, ?_⟩
  · simp [results, Tryd.results97, go_sem, r0, r1, r2, r3, r4, r5]
  · exact (((((((hbw.setCell (p := ⟨_, _, none⟩) (by simp) _).setCell (p := ⟨_, _, none⟩) (by simp) _).setCell (p := ⟨_, _, none⟩) (by simp) _).setCell (p := ⟨_, _, none⟩) (by simp) _).setCell (p := ⟨_, _, none⟩) (by simp) _).setCell (p := ⟨_, _, none⟩) (by simp) _).setCell (p := ⟨_, _, none⟩) (by simp) _)
/-- A set with another l. -/
def SetC.l' (x : SetC) (y : Nat) : SetC := { x with l := y }
set_option maxRecDepth 100000 in
set_option maxHeartbeats 2000000 in
theorem withLeast_any (x : SetC) (v u : Value) (ls vs : List (List UInt8)) (w : World) (h : TRow w v ls) (h' : TRow w u vs) (hs : Short vs) :
    Calls Tryd.prog 98 #[x.val v, u] w fun e w' => e = .returned (.tuple #[(x.l' (numR vs).1).val v, .bool (numR vs).2]) ∧ Below w.heap.size w w' := by
  have HT := fun W hr => Lib.hid (parsedSingle_any u vs W hr hs)
  have HR := Lib.hid h'
  obtain ⟨a, c, rfl⟩ := h.lenv
  obtain ⟨a2, c2, rfl⟩ := h'.lenv
  obtain ⟨xc, xr, xs, xl, xt⟩ := x
  obtain ⟨k1, k2, hsz, hbl⟩ := alloc2 w (.cells #[.int .i64 xc, .int .i64 xr, .float .f32 xs, .float .f32 xl, .float .f32 xt, .slice a ls.length c] 27) (.cells #[.int .i64 0, .int .i64 0, .float .f32 0, .float .f32 0, .float .f32 0, .slice none 0 0] 27)
  simp only [SetC.val, SetC.cells, SetC.l'] at *
  clear h h'
  generalize (numR vs).1 = y at *
  generalize (numR vs).2 = b at *
  go_enter Tryd.func98, Tryd.ntmps98
  go_wp2_with fail
  generalize World.alloc (World.alloc w _) _ = X at *
  refine (HT X (HR.out.below hbl)).out.mono ?_
  rintro e w1 ⟨rfl, hb1⟩
  replace k1 := (hb1.block _ (by omega)).trans k1
  replace k2 := (hb1.block _ (by omega)).trans k2
  obtain ⟨p0, p1, p2, p3, p4, p5⟩ : (w1.cell? ⟨w.heap.size, 0, none⟩ = some (.int .i64 xc)) ∧ (w1.cell? ⟨w.heap.size, 1, none⟩ = some (.int .i64 xr)) ∧ (w1.cell? ⟨w.heap.size, 2, none⟩ = some (.float .f32 xs)) ∧ (w1.cell? ⟨w.heap.size, 3, none⟩ = some (.float .f32 xl)) ∧ (w1.cell? ⟨w.heap.size, 4, none⟩ = some (.float .f32 xt)) ∧ (w1.cell? ⟨w.heap.size, 5, none⟩ = some (.slice a ls.length c)) := by
    refine ⟨?_, ?_, ?_, ?_, ?_, ?_⟩ <;> simp [World.cell?, k1, Nat.add_assoc]
  obtain ⟨t0, t1, t2, t3, t4, t5⟩ : w1.frozen? ⟨w.heap.size, 0, none⟩ = false ∧ w1.frozen? ⟨w.heap.size, 1, none⟩ = false ∧ w1.frozen? ⟨w.heap.size, 2, none⟩ = false ∧ w1.frozen? ⟨w.heap.size, 3, none⟩ = false ∧ w1.frozen? ⟨w.heap.size, 4, none⟩ = false ∧ w1.frozen? ⟨w.heap.size, 5, none⟩ = false := by
    refine ⟨?_, ?_, ?_, ?_, ?_, ?_⟩ <;> simp [World.frozen?, k1, Nat.add_assoc]
  obtain ⟨r0, r1, r2, r3, r4, r5⟩ : (w1.cell? ⟨w.heap.size + 1, 0, none⟩ = some (.int .i64 0)) ∧ (w1.cell? ⟨w.heap.size + 1, 1, none⟩ = some (.int .i64 0)) ∧ (w1.cell? ⟨w.heap.size + 1, 2, none⟩ = some (.float .f32 0)) ∧ (w1.cell? ⟨w.heap.size + 1, 3, none⟩ = some (.float .f32 0)) ∧ (w1.cell? ⟨w.heap.size + 1, 4, none⟩ = some (.float .f32 0)) ∧ (w1.cell? ⟨w.heap.size + 1, 5, none⟩ = some (.slice none 0 0)) := by
    refine ⟨?_, ?_, ?_, ?_, ?_, ?_⟩ <;> simp [World.cell?, k2, Nat.add_assoc]
  obtain ⟨s0, s1, s2, s3, s4, s5⟩ : w1.frozen? ⟨w.heap.size + 1, 0, none⟩ = false ∧ w1.frozen? ⟨w.heap.size + 1, 1, none⟩ = false ∧ w1.frozen? ⟨w.heap.size + 1, 2, none⟩ = false ∧ w1.frozen? ⟨w.heap.size + 1, 3, none⟩ = false ∧ w1.frozen? ⟨w.heap.size + 1, 4, none⟩ = false ∧ w1.frozen? ⟨w.heap.size + 1, 5, none⟩ = false := by
    refine ⟨?_, ?_, ?_, ?_, ?_, ?_⟩ <;> simp [World.frozen?, k2, Nat.add_assoc]
  have hbw : Below w.heap.size w w1 := below_trans hbl hb1 hbl.size
  clear k1 k2
  go_wp2
  refine bodyPost_ret (v := .tuple #[.agg #[.int .i64 xc, .int .i64 xr, .float .f32 xs, .float .f32 y, .float .f32 xt, .slice a ls.length c], .bool b]) ?_ rfl ⟨rfl, ?_⟩
  · simp [results, Tryd.results98, go_sem, r0, r1, r2, r3, r4, r5]
  · exact (((((((hbw.setCell (p := ⟨_, _, none⟩) (by simp) _).setCell (p := ⟨_, _, none⟩) (by simp) _).setCell (p := ⟨_, _, none⟩) (by simp) _).setCell (p := ⟨_, _, none⟩) (by simp) _).setCell (p := ⟨_, _, none⟩) (by simp) _).setCell (p := ⟨_, _, none⟩) (by simp) _).setCell (p := ⟨_, _, none⟩) (by simp) _)
/-- A set with another t. -/
def SetC.t' (x : SetC) (y : Nat) : SetC := { x with t := y }
set_option maxRecDepth 100000 in
set_option maxHeartbeats 2000000 in
theorem withSat_any (x : SetC) (v u : Value) (ls vs : List (List UInt8)) (w : World) (h : TRow w v ls) (h' : TRow w u vs) (hs : Short vs) :
    Calls Tryd.prog 99 #[x.val v, u] w fun e w' => e = .returned (.tuple #[(x.t' (numR vs).1).val v, .bool (numR vs).2]) ∧ Below w.heap.size w w' := by
  have HT := fun W hr => Lib.hid (parsedSingle_any u vs W hr hs)
  have HR := Lib.hid h'
  obtain ⟨a, c, rfl⟩ := h.lenv
  obtain ⟨a2, c2, rfl⟩ := h'.lenv
  obtain ⟨xc, xr, xs, xl, xt⟩ := x
  obtain ⟨k1, k2, hsz, hbl⟩ := alloc2 w (.cells #[.int .i64 xc, .int .i64 xr, .float .f32 xs, .float .f32 xl, .float .f32 xt, .slice a ls.length c] 27) (.cells #[.int .i64 0, .int .i64 0, .float .f32 0, .float .f32 0, .float .f32 0, .slice none 0 0] 27)
  simp only [SetC.val, SetC.cells, SetC.t'] at *
  clear h h'
  generalize (numR vs).1 = y at *
  generalize (numR vs).2 = b at *
  go_enter Tryd.func99, Tryd.ntmps99
  go_wp2_with fail
  generalize World.alloc (World.alloc w _) _ = X at *
  refine (HT X (HR.out.below hbl)).out.mono ?_
  rintro e w1 ⟨rfl, hb1⟩
  replace k1 := (hb1.block _ (by omega)).trans k1
  replace k2 := (hb1.block _ (by omega)).trans k2
  obtain ⟨p0, p1, p2, p3, p4, p5⟩ : (w1.cell? ⟨w.heap.size, 0, none⟩ = some (.int .i64 xc)) ∧ (w1.cell? ⟨w.heap.size, 1, none⟩ = some (.int .i64 xr)) ∧ (w1.cell? ⟨w.heap.size, 2, none⟩ = some (.float .f32 xs)) ∧ (w1.cell? ⟨w.heap.size, 3, none⟩ = some (.float .f32 xl)) ∧ (w1.cell? ⟨w.heap.size, 4, none⟩ = some (.float .f32 xt)) ∧ (w1.cell? ⟨w.heap.size, 5, none⟩ = some (.slice a ls.length c)) := by
    refine ⟨?_, ?_, ?_, ?_, ?_, ?_⟩ <;> simp [World.cell?, k1, Nat.add_assoc]
  obtain ⟨t0, t1, t2, t3, t4, t5⟩ : w1.frozen? ⟨w.heap.size, 0, none⟩ = false ∧ w1.frozen? ⟨w.heap.size, 1, none⟩ = false ∧ w1.frozen? ⟨w.heap.size, 2, none⟩ = false ∧ w1.frozen? ⟨w.heap.size, 3, none⟩ = false ∧ w1.frozen? ⟨w.heap.size, 4, none⟩ = false ∧ w1.frozen? ⟨w.heap.size, 5, none⟩ = false := by
    refine ⟨?_, ?_, ?_, ?_, ?_, ?_⟩ <;> simp [World.frozen?, k1, Nat.add_assoc]
  obtain ⟨r0, r1, r2, r3, r4, r5⟩ : (w1.cell? ⟨w.heap.size + 1, 0, none⟩ = some (.int .i64 0)) ∧ (w1.cell? ⟨w.heap.size + 1, 1, none⟩ = some (.int .i64 0)) ∧ (w1.cell? ⟨w.heap.size + 1, 2, none⟩ = some (.float .f32 0)) ∧ (w1.cell? ⟨w.heap.size + 1, 3, none⟩ = some (.float .f32 0)) ∧ (w1.cell? ⟨w.heap.size + 1, 4, none⟩ = some (.float .f32 0)) ∧ (w1.cell? ⟨w.heap.size + 1, 5, none⟩ = some (.slice none 0 0)) := by
    refine ⟨?_, ?_, ?_, ?_, ?_, ?_⟩ <;> simp [World.cell?, k2, Nat.add_assoc]
  obtain ⟨s0, s1, s2, s3, s4, s5⟩ : w1.frozen? ⟨w.heap.size + 1, 0, none⟩ = false ∧ w1.frozen? ⟨w.heap.size + 1, 1, none⟩ = false ∧ w1.frozen? ⟨w.heap.size + 1, 2, none⟩ = false ∧ w1.frozen? ⟨w.heap.size + 1, 3, none⟩ = false ∧ w1.frozen? ⟨w.heap.size + 1, 4, none⟩ = false ∧ w1.frozen? ⟨w.heap.size + 1, 5, none⟩ = false := by
    refine ⟨?_, ?_, ?_, ?_, ?_, ?_⟩ <;> simp [World.frozen?, k2, Nat.add_assoc]
  have hbw : Below w.heap.size w w1 := below_trans hbl hb1 hbl.size
  clear k1 k2
  go_wp2
  refine bodyPost_ret (v := .tuple #[.agg #[.int .i64 xc, .int .i64 xr, .float .f32 xs, .float .f32 xl, .float .f32 y, .slice a ls.length c], .bool b]) ?_ rfl ⟨rfl, ?_⟩
  · simp [results, Tryd.results99, go_sem, r0, r1, r2, r3, r4, r5]
  · exact (((((((hbw.setCell (p := ⟨_, _, none⟩) (by simp) _).setCell (p := ⟨_, _, none⟩) (by simp) _).setCell (p := ⟨_, _, none⟩) (by simp) _).setCell (p := ⟨_, _, none⟩) (by simp) _).setCell (p := ⟨_, _, none⟩) (by simp) _).setCell (p := ⟨_, _, none⟩) (by simp) _).setCell (p := ⟨_, _, none⟩) (by simp) _)
end Go.Proofs.YtobpnoiienpipaaDoor
