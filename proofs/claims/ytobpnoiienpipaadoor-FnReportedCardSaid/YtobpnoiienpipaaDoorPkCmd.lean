/-
  What is proved: what a command's values tell: the walks of parsedSingle and of the functions that a command's name stands for.
  Conditions: the values can be read; they have at most 1048576 bytes each.
-/
import Derived.Test.YtobpnoiienpipaaDoorCopyV
import Derived.Test.YtobpnoiienpipaaDoorParseFixed
import Derived.Test.YtobpnoiienpipaaDoorSpecParseFixed
import Derived.Test.YtobpnoiienpipaaDoorSpecUint
import Derived.Test.YtobpnoiienpipaaDoorPkBack
import Derived.Test.YtobpnoiienpipaaDoorScan
import Derived.MapKept
import Derived.ChangeMaps4
namespace Go.Proofs.YtobpnoiienpipaaDoor
set_option linter.unusedVariables false
open Go.RowKit
attribute [local go_sem] run_store_float run_store_complex unary_negf neg256

/-- A double, narrowed. -/
def nar (x : Nat) : Nat := (floatToFloatBits .f64 x .f32).getD 0
theorem conv_nar (n : Int) (W : World) : (convert 76 24 (.float .f64 (ffBits n))).run Tryd.prog W = .ok (.float .f32 (nar (ffBits n))) W := by
  obtain ⟨s, m, e, hr, hb⟩ := nar_ff n
  obtain ⟨h1, _⟩ := nar_read hr hb
  have e : nar (ffBits n) = Ieee.single.nearest s m e := by unfold nar; rw [h1]; rfl
  rw [e]
  exact run_convert_float_float (P := Tryd.prog) W 76 24 .f64 .f32 _ _ (by kernel_rfl) Tryd.underlying24 h1
/-- The single that a text in thousandths tells. -/
def sngl (l : List UInt8) : Nat := nar (ffBits ((fxP l).getD 0))
def numR : List (List UInt8) → Nat × Bool
  | [l] => (sngl l, (fxP l).isSome)
  | _ => (0, false)
theorem numR_no {vs : List (List UInt8)} (h : vs.length ≠ 1) : numR vs = (0, false) := by
  match vs, h with
  | [], _ => rfl
  | [l], h => exact absurd rfl h
  | _ :: _ :: _, _ => rfl
theorem fxP_range (l : List UInt8) : I64 ((fxP l).getD 0) := by
  have hz : I64 0 := ⟨by decide, by decide⟩
  have hc : ∀ {t : List UInt8} {n : Nat}, core t = some n → n ≤ 1000000000 := by
    intro t n h
    unfold core at h
    split at h
    · rename_i hh
      cases h
      exact hh.2.2.2.2
    · cases h
  unfold fxP
  split
  · cases hq : core (l.drop 1) with
    | none => exact hz
    | some n =>
      have := hc hq
      simp only [Option.bind_some]
      split
      · exact hz
      · exact ⟨by simp <;> omega, by simp <;> omega⟩
  · cases hq : core l with
    | none => exact hz
    | some n =>
      have := hc hq
      exact ⟨by simp <;> omega, by simp <;> omega⟩
set_option maxRecDepth 100000 in
set_option maxHeartbeats 1000000 in
theorem parsedSingle_any (v : Value) (vs : List (List UInt8)) (w : World) (h : TRow w v vs) (hs : Short vs) :
    Calls Tryd.prog 110 #[v] w fun e w' => e = .returned (.tuple #[.float .f32 (numR vs).1, .bool (numR vs).2]) ∧ Below w.heap.size w w' := by
  obtain ⟨hl, hsh⟩ := hs
  by_cases h1 : vs.length = 1
  · obtain ⟨l, rfl⟩ : ∃ l, vs = [l] := List.length_eq_one_iff.1 h1
    obtain ⟨a, c, rfl, hcell⟩ := h.any
    obtain ⟨g, o, rfl, hc, hcc⟩ := hcell 0 (by simp)
    have hsz := hsh l (by simp)
    have hr := fxP_range l
    have HP := fun W => Lib.hid (parseFixed_any ⟨l.toArray⟩ W (by simpa [ByteArray.size] using hsz))
    have HF := fun W => Lib.hid (fromFixed_any ((fxP l).getD 0) W hr.1 hr.2)
    have hcv := fun W => conv_nar ((fxP l).getD 0) W
    unfold FixPost at HP
    unfold FromPost at HF
    simp only [numR, sngl, List.length_singleton, List.getElem_cons_zero, strV, Nat.add_zero] at *
    generalize (fxP l).getD 0 = z at *
    generalize (fxP l).isSome = b at *
    generalize nar (ffBits z) = y at *
    generalize ffBits z = y2 at *
    generalize (⟨l.toArray⟩ : ByteArray) = s at *
    clear h hsh hcell h1 hl hsz
    go_enter Tryd.func110, Tryd.ntmps110
    go_wp2_with fail
    refine (HP _).out.mono ?_
    rintro e w1 ⟨rfl, hb1⟩
    go_wp2_with fail
    refine (HF _).out.mono ?_
    rintro e w2 ⟨rfl, rfl⟩
    go_wp2
    go_ret2
    exact ⟨rfl, hb1⟩
  · rw [numR_no h1]
    obtain ⟨a, c, rfl⟩ := h.lenv
    have h2 : ¬ (vs.length : Int) = 1 := by omega
    clear h hsh
    go_enter Tryd.func110, Tryd.ntmps110
    go_wp2
    go_ret2
    exact ⟨rfl, Below.refl _ _⟩
/-- A set with another s. -/
def SetC.s' (x : SetC) (y : Nat) : SetC := { x with s := y }
set_option maxRecDepth 100000 in
set_option maxHeartbeats 2000000 in
theorem withSlice_any (x : SetC) (v u : Value) (ls vs : List (List UInt8)) (w : World) (h : TRow w v ls) (h' : TRow w u vs) (hs : Short vs) :
    Calls Tryd.prog 97 #[x.val v, u] w fun e w' => e = .returned (.tuple #[(x.s' (numR vs).1).val v, .bool (numR vs).2]) ∧ Below w.heap.size w w' := by
  have HT := fun W hr => Lib.hid (parsedSingle_any u vs W hr hs)
  have HR := Lib.hid h'
  obtain ⟨a, c, rfl⟩ := h.lenv
  obtain ⟨a2, c2, rfl⟩ := h'.lenv
  obtain ⟨xc, xr, xs, xl, xt⟩ := x
  obtain ⟨k1, k2, hsz, hbl⟩ := alloc2 w (.cells #[.int .i64 xc, .int .i64 xr, .float .f32 xs, .float .f32 xl, .float .f32 xt, .slice a ls.length c] 27) (.cells #[.int .i64 0, .int .i64 0, .float .f32 0, .float .f32 0, .float .f32 0, .slice none 0 0] 27)
  simp only [SetC.val, SetC.cells, SetC.s'] at *
  clear h h'
  generalize (numR vs).1 = y at *
  generalize (numR vs).2 = b at *
  go_enter Tryd.func97, Tryd.ntmps97
  go_wp2_with fail
  generalize World.alloc (World.alloc w _) _ = X at *
  refine (HT X (HR.out.below hbl)).out.mono ?_
  rintro e w1 ⟨rfl, hb1⟩
  replace k1 := (hb1.block _ (by omega)).trans k1
  replace k2 := (hb1.block _ (by omega)).trans k2
  obtain ⟨p0, p1, p2, p3, p4, p5⟩ : (w1.cell? ⟨w.heap.size, 0, none⟩ = some (.int .i64 xc)) ∧ (w1.cell? ⟨w.heap.size, 1, none⟩ = some (.int .i64 xr)) ∧ (w1.cell? ⟨w.heap.size, 2, none⟩ = some (.float .f32 xs)) ∧ (w1.cell? ⟨w.heap.size, 3, none⟩ = some (.float .f32 xl)) ∧ (w1.cell? ⟨w.heap.size, 4, none⟩ = some (.float .f32 xt)) ∧ (w1.cell? ⟨w.heap.size, 5, none⟩ = some (.slice a ls.length c)) := by
    refine ⟨?_, ?_, ?_, ?_, ?_, ?_⟩ <;> simp [World.cell?, k1, Nat.add_assoc]
  obtain ⟨t0, t1, t2, t3, t4, t5⟩ : w1.frozen? ⟨w.heap.size, 0, none⟩ = false ∧ w1.frozen? ⟨w.heap.size, 1, none⟩ = false ∧ w1.frozen? ⟨w.heap.size, 2, none⟩ = false ∧ w1.frozen? ⟨w.heap.size, 3, none⟩ = false ∧ w1.frozen? ⟨w.heap.size, 4, none⟩ = false ∧ w1.frozen? ⟨w.heap.size, 5, none⟩ = false := by
    refine ⟨?_, ?_, ?_, ?_, ?_, ?_⟩ <;> simp [World.frozen?, k1, Nat.add_assoc]
  obtain ⟨r0, r1, r2, r3, r4, r5⟩ : (w1.cell? ⟨w.heap.size + 1, 0, none⟩ = some (.int .i64 0)) ∧ (w1.cell? ⟨w.heap.size + 1, 1, none⟩ = some (.int .i64 0)) ∧ (w1.cell? ⟨w.heap.size + 1, 2, none⟩ = some (.float .f32 0)) ∧ (w1.cell? ⟨w.heap.size + 1, 3, none⟩ = some (.float .f32 0)) ∧ (w1.cell? ⟨w.heap.size + 1, 4, none⟩ = some (.float .f32 0)) ∧ (w1.cell? ⟨w.heap.size + 1, 5, none⟩ = some (.slice none 0 0)) := by
    refine ⟨?_, ?_, ?_, ?_, ?_, ?_⟩ <;> simp [World.cell?, k2, Nat.add_assoc]
  obtain ⟨s0, s1, s2, s3, s4, s5⟩ : w1.frozen? ⟨w.heap.size + 1, 0, none⟩ = false ∧ w1.frozen? ⟨w.heap.size + 1, 1, none⟩ = false ∧ w1.frozen? ⟨w.heap.size + 1, 2, none⟩ = false ∧ w1.frozen? ⟨w.heap.size + 1, 3, none⟩ = false ∧ w1.frozen? ⟨w.heap.size + 1, 4, none⟩ = false ∧ w1.frozen? ⟨w.heap.size + 1, 5, none⟩ = false := by
    refine ⟨?_, ?_, ?_, ?_, ?_, ?_⟩ <;> simp [World.frozen?, k2, Nat.add_assoc]
  have hbw : Below w.heap.size w w1 := below_trans hbl hb1 hbl.size
  clear k1 k2
  go_wp2
  refine bodyPost_ret (v := .tuple #[.agg #[.int .i64 xc, .int .i64 xr, .float .f32 y, .float .f32 xl, .float .f32 xt, .slice a ls.length c], .bool b]) ?_ rfl ⟨rfl, ?_⟩
  · simp [results, Tryd.results97, go_sem, r0, r1, r2, r3, r4, r5]
  · exact (((((((hbw.setCell (p := ⟨_, _, none⟩) (by simp) _).setCell (p := ⟨_, _, none⟩) (by simp) _).setCell (p := ⟨_, _, none⟩) (by simp) _).setCell (p := ⟨_, _, none⟩) (by simp) _).setCell (p := ⟨_, _, none⟩) (by simp) _).setCell (p := ⟨_, _, none⟩) (by simp) _).setCell (p := ⟨_, _, none⟩) (by simp) _)
/-- A set with another l. -/
def SetC.l' (x : SetC) (y : Nat) : SetC := { x with l := y }
set_option maxRecDepth 100000 in
set_option maxHeartbeats 2000000 in
theorem withLeast_any (x : SetC) (v u : Value) (ls vs : List (List UInt8)) (w : World) (h : TRow w v ls) (h' : TRow w u vs) (hs : Short vs) :
    Calls Tryd.prog 98 #[x.val v, u] w fun e w' => e = .returned (.tuple #[(x.l' (numR vs).1).val v, .bool (numR vs).2]) ∧ Below w.heap.size w w' := by
  have HT := fun W hr => Lib.hid (parsedSingle_any u vs W hr hs)
  have HR := Lib.hid h'
  obtain ⟨a, c, rfl⟩ := h.lenv
  obtain ⟨a2, c2, rfl⟩ := h'.lenv
  obtain ⟨xc, xr, xs, xl, xt⟩ := x
  obtain ⟨k1, k2, hsz, hbl⟩ := alloc2 w (.cells #[.int .i64 xc, .int .i64 xr, .float .f32 xs, .float .f32 xl, .float .f32 xt, .slice a ls.length c] 27) (.cells #[.int .i64 0, .int .i64 0, .float .f32 0, .float .f32 0, .float .f32 0, .slice none 0 0] 27)
  simp only [SetC.val, SetC.cells, SetC.l'] at *
  clear h h'
  generalize (numR vs).1 = y at *
  generalize (numR vs).2 = b at *
  go_enter Tryd.func98, Tryd.ntmps98
  go_wp2_with fail
  generalize World.alloc (World.alloc w _) _ = X at *
  refine (HT X (HR.out.below hbl)).out.mono ?_
  rintro e w1 ⟨rfl, hb1⟩
  replace k1 := (hb1.block _ (by omega)).trans k1
  replace k2 := (hb1.block _ (by omega)).trans k2
  obtain ⟨p0, p1, p2, p3, p4, p5⟩ : (w1.cell? ⟨w.heap.size, 0, none⟩ = some (.int .i64 xc)) ∧ (w1.cell? ⟨w.heap.size, 1, none⟩ = some (.int .i64 xr)) ∧ (w1.cell? ⟨w.heap.size, 2, none⟩ = some (.float .f32 xs)) ∧ (w1.cell? ⟨w.heap.size, 3, none⟩ = some (.float .f32 xl)) ∧ (w1.cell? ⟨w.heap.size, 4, none⟩ = some (.float .f32 xt)) ∧ (w1.cell? ⟨w.heap.size, 5, none⟩ = some (.slice a ls.length c)) := by
    refine ⟨?_, ?_, ?_, ?_, ?_, ?_⟩ <;> simp [World.cell?, k1, Nat.add_assoc]
  obtain ⟨t0, t1, t2, t3, t4, t5⟩ : w1.frozen? ⟨w.heap.size, 0, none⟩ = false ∧ w1.frozen? ⟨w.heap.size, 1, none⟩ = false ∧ w1.frozen? ⟨w.heap.size, 2, none⟩ = false ∧ w1.frozen? ⟨w.heap.size, 3, none⟩ = false ∧ w1.frozen? ⟨w.heap.size, 4, none⟩ = false ∧ w1.frozen? ⟨w.heap.size, 5, none⟩ = false := by
    refine ⟨?_, ?_, ?_, ?_, ?_, ?_⟩ <;> simp [World.frozen?, k1, Nat.add_assoc]
  obtain ⟨r0, r1, r2, r3, r4, r5⟩ : (w1.cell? ⟨w.heap.size + 1, 0, none⟩ = some (.int .i64 0)) ∧ (w1.cell? ⟨w.heap.size + 1, 1, none⟩ = some (.int .i64 0)) ∧ (w1.cell? ⟨w.heap.size + 1, 2, none⟩ = some (.float .f32 0)) ∧ (w1.cell? ⟨w.heap.size + 1, 3, none⟩ = some (.float .f32 0)) ∧ (w1.cell? ⟨w.heap.size + 1, 4, none⟩ = some (.float .f32 0)) ∧ (w1.cell? ⟨w.heap.size + 1, 5, none⟩ = some (.slice none 0 0)) := by
    refine ⟨?_, ?_, ?_, ?_, ?_, ?_⟩ <;> simp [World.cell?, k2, Nat.add_assoc]
  obtain ⟨s0, s1, s2, s3, s4, s5⟩ : w1.frozen? ⟨w.heap.size + 1, 0, none⟩ = false ∧ w1.frozen? ⟨w.heap.size + 1, 1, none⟩ = false ∧ w1.frozen? ⟨w.heap.size + 1, 2, none⟩ = false ∧ w1.frozen? ⟨w.heap.size + 1, 3, none⟩ = false ∧ w1.frozen? ⟨w.heap.size + 1, 4, none⟩ = false ∧ w1.frozen? ⟨w.heap.size + 1, 5, none⟩ = false := by
    refine ⟨?_, ?_, ?_, ?_, ?_, ?_⟩ <;> simp [World.frozen?, k2, Nat.add_assoc]
  have hbw : Below w.heap.size w w1 := below_trans hbl hb1 hbl.size
  clear k1 k2
  go_wp2
  refine bodyPost_ret (v := .tuple #[.agg #[.int .i64 xc, .int .i64 xr, .float .f32 xs, .float .f32 y, .float .f32 xt, .slice a ls.length c], .bool b]) ?_ rfl ⟨rfl, ?_⟩
  · simp [results, Tryd.results98, go_sem, r0, r1, r2, r3, r4, r5]
  · exact (((((((hbw.setCell (p := ⟨_, _, none⟩) (by simp) _).setCell (p := ⟨_, _, none⟩) (by simp) _).setCell (p := ⟨_, _, none⟩) (by simp) _).setCell (p := ⟨_, _, none⟩) (by simp) _).setCell (p := ⟨_, _, none⟩) (by simp) _).setCell (p := ⟨_, _, none⟩) (by simp) _).setCell (p := ⟨_, _, none⟩) (by simp) _)
/-- A set with another t. -/
def SetC.t' (x : SetC) (y : Nat) : SetC := { x with t := y }
set_option maxRecDepth 100000 in
set_option maxHeartbeats 2000000 in
theorem withSat_any (x : SetC) (v u : Value) (ls vs : List (List UInt8)) (w : World) (h : TRow w v ls) (h' : TRow w u vs) (hs : Short vs) :
    Calls Tryd.prog 99 #[x.val v, u] w fun e w' => e = .returned (.tuple #[(x.t' (numR vs).1).val v, .bool (numR vs).2]) ∧ Below w.heap.size w w' := by
  have HT := fun W hr => Lib.hid (parsedSingle_any u vs W hr hs)
  have HR := Lib.hid h'
  obtain ⟨a, c, rfl⟩ := h.lenv
  obtain ⟨a2, c2, rfl⟩ := h'.lenv
  obtain ⟨xc, xr, xs, xl, xt⟩ := x
  obtain ⟨k1, k2, hsz, hbl⟩ := alloc2 w (.cells #[.int .i64 xc, .int .i64 xr, .float .f32 xs, .float .f32 xl, .float .f32 xt, .slice a ls.length c] 27) (.cells #[.int .i64 0, .int .i64 0, .float .f32 0, .float .f32 0, .float .f32 0, .slice none 0 0] 27)
  simp only [SetC.val, SetC.cells, SetC.t'] at *
  clear h h'
  generalize (numR vs).1 = y at *
  generalize (numR vs).2 = b at *
  go_enter Tryd.func99, Tryd.ntmps99
  go_wp2_with fail
  generalize World.alloc (World.alloc w _) _ = X at *
  refine (HT X (HR.out.below hbl)).out.mono ?_
  rintro e w1 ⟨rfl, hb1⟩
  replace k1 := (hb1.block _ (by omega)).trans k1
  replace k2 := (hb1.block _ (by omega)).trans k2
  obtain ⟨p0, p1, p2, p3, p4, p5⟩ : (w1.cell? ⟨w.heap.size, 0, none⟩ = some (.int .i64 xc)) ∧ (w1.cell? ⟨w.heap.size, 1, none⟩ = some (.int .i64 xr)) ∧ (w1.cell? ⟨w.heap.size, 2, none⟩ = some (.float .f32 xs)) ∧ (w1.cell? ⟨w.heap.size, 3, none⟩ = some (.float .f32 xl)) ∧ (w1.cell? ⟨w.heap.size, 4, none⟩ = some (.float .f32 xt)) ∧ (w1.cell? ⟨w.heap.size, 5, none⟩ = some (.slice a ls.length c)) := by
    refine ⟨?_, ?_, ?_, ?_, ?_, ?_⟩ <;> simp [World.cell?, k1, Nat.add_assoc]
  obtain ⟨t0, t1, t2, t3, t4, t5⟩ : w1.frozen? ⟨w.heap.size, 0, none⟩ = false ∧ w1.frozen? ⟨w.heap.size, 1, none⟩ = false ∧ w1.frozen? ⟨w.heap.size, 2, none⟩ = false ∧ w1.frozen? ⟨w.heap.size, 3, none⟩ = false ∧ w1.frozen? ⟨w.heap.size, 4, none⟩ = false ∧ w1.frozen? ⟨w.heap.size, 5, none⟩ = false := by
    refine ⟨?_, ?_, ?_, ?_, ?_, ?_⟩ <;> simp [World.frozen?, k1, Nat.add_assoc]
  obtain ⟨r0, r1, r2, r3, r4, r5⟩ : (w1.cell? ⟨w.heap.size + 1, 0, none⟩ = some (.int .i64 0)) ∧ (w1.cell? ⟨w.heap.size + 1, 1, none⟩ = some (.int .i64 0)) ∧ (w1.cell? ⟨w.heap.size + 1, 2, none⟩ = some (.float .f32 0)) ∧ (w1.cell? ⟨w.heap.size + 1, 3, none⟩ = some (.float .f32 0)) ∧ (w1.cell? ⟨w.heap.size + 1, 4, none⟩ = some (.float .f32 0)) ∧ (w1.cell? ⟨w.heap.size + 1, 5, none⟩ = some (.slice none 0 0)) := by
    refine ⟨?_, ?_, ?_, ?_, ?_, ?_⟩ <;> simp [World.cell?, k2, Nat.add_assoc]
  obtain ⟨s0, s1, s2, s3, s4, s5⟩ : w1.frozen? ⟨w.heap.size + 1, 0, none⟩ = false ∧ w1.frozen? ⟨w.heap.size + 1, 1, none⟩ = false ∧ w1.frozen? ⟨w.heap.size + 1, 2, none⟩ = false ∧ w1.frozen? ⟨w.heap.size + 1, 3, none⟩ = false ∧ w1.frozen? ⟨w.heap.size + 1, 4, none⟩ = false ∧ w1.frozen? ⟨w.heap.size + 1, 5, none⟩ = false := by
    refine ⟨?_, ?_, ?_, ?_, ?_, ?_⟩ <;> simp [World.frozen?, k2, Nat.add_assoc]
  have hbw : Below w.heap.size w w1 := below_trans hbl hb1 hbl.size
  clear k1 k2
  go_wp2
  refine bodyPost_ret (v := .tuple #[.agg #[.int .i64 xc, .int .i64 xr, .float .f32 xs, .float .f32 xl, .float .f32 y, .slice a ls.length c], .bool b]) ?_ rfl ⟨rfl, ?_⟩
  · simp [results, Tryd.results99, go_sem, r0, r1, r2, r3, r4, r5]
  · exact (((((((hbw.setCell (p := ⟨_, _, none⟩) (by simp) _).setCell (p := ⟨_, _, none⟩) (by simp) _).setCell (p := ⟨_, _, none⟩) (by simp) _).setCell (p := ⟨_, _, none⟩) (by simp) _).setCell (p := ⟨_, _, none⟩) (by simp) _).setCell (p := ⟨_, _, none⟩) (by simp) _).setCell (p := ⟨_, _, none⟩) (by simp) _)
end Go.Proofs.YtobpnoiienpipaaDoor

/-
  What is proved: the walk of the command size.
  Conditions: the values can be read; they have at most 1048576 bytes each.
-/
namespace Go.Proofs.YtobpnoiienpipaaDoor
set_option linter.unusedVariables false
open Go.RowKit
attribute [local go_sem] run_store_float run_store_complex unary_negf neg256

/-- What a command makes of a set: 0 slice, 1 killer, 2 saturation, 3 size. -/
def numF (vs : List (List UInt8)) (y : SetC) : Option SetC := if (numR vs).2 = true then some y else none
def sizeF (x : SetC) : List (List UInt8) → Option SetC
  | [a, b] => if (puB a && puB b) = true then some { x with c := (puV a : Int), r := (puV b : Int) } else none
  | _ => none
def cmdF (k : Nat) (x : SetC) (vs : List (List UInt8)) : Option SetC :=
  if k = 0 then numF vs (x.s' (numR vs).1) else if k = 1 then numF vs (x.l' (numR vs).1) else if k = 2 then numF vs (x.t' (numR vs).1) else sizeF x vs
def CmdPost (k : Nat) (x : SetC) (v : Value) (vs : List (List UInt8)) (w : World) (e : Ending) (w' : World) : Prop :=
  ∃ y v' b, e = .returned (.tuple #[SetC.val y v', .bool b]) ∧ (v' = v ∨ v' = .slice none 0 0) ∧ (b = true → v' = v ∧ cmdF k x vs = some y) ∧ (b = false → cmdF k x vs = none) ∧ Below w.heap.size w w'
theorem sizeF_no {x : SetC} {vs : List (List UInt8)} (h : vs.length ≠ 2) : sizeF x vs = none := by
  match vs, h with
  | [], _ => rfl
  | [_], _ => rfl
  | [_, _], h => exact absurd rfl h
  | _ :: _ :: _ :: _, _ => rfl
theorem num_post {k : Nat} {x y : SetC} {v : Value} {vs : List (List UInt8)} {w w' : World} (hc : cmdF k x vs = numF vs y) (hb : Below w.heap.size w w') : CmdPost k x v vs w (.returned (.tuple #[y.val v, .bool (numR vs).2])) w' :=
  ⟨y, v, _, rfl, .inl rfl, fun h => ⟨rfl, by rw [hc]; unfold numF; rw [if_pos h]⟩, fun h => by rw [hc]; unfold numF; rw [if_neg (by rw [h]; decide)], hb⟩
theorem froz6 {W : World} {b : Nat} {cs : Array Value} {t : TypeId} (h : W.heap[b]? = some (.cells cs t (0, 0))) : W.frozen? ⟨b, 0, none⟩ = false ∧ W.frozen? ⟨b, 1, none⟩ = false ∧ W.frozen? ⟨b, 2, none⟩ = false ∧ W.frozen? ⟨b, 3, none⟩ = false ∧ W.frozen? ⟨b, 4, none⟩ = false ∧ W.frozen? ⟨b, 5, none⟩ = false := by
  refine ⟨?_, ?_, ?_, ?_, ?_, ?_⟩ <;> simp [World.frozen?, h]
set_option maxRecDepth 100000 in
set_option maxHeartbeats 2000000 in
theorem withSize_any (x : SetC) (v u : Value) (ls vs : List (List UInt8)) (w : World) (h : TRow w v ls) (h' : TRow w u vs) (hs : Short vs) :
    Calls Tryd.prog 100 #[x.val v, u] w fun e w' => CmdPost 3 x v vs w e w' := by
  obtain ⟨hl, hsh⟩ := hs
  obtain ⟨a, c, rfl⟩ := h.lenv
  obtain ⟨k1, k2, hsz, hbl⟩ := alloc2 w (.cells (x.cells (.slice a ls.length c)) 27) (.cells #[.int .i64 0, .int .i64 0, .float .f32 0, .float .f32 0, .float .f32 0, .slice none 0 0] 27)
  have hbw := hbl
  by_cases h2 : vs.length = 2
  · obtain ⟨l, m, rfl⟩ : ∃ l m, vs = [l, m] := by
      match vs, h2 with
      | [l, m], _ => exact ⟨l, m, rfl⟩
    obtain ⟨a2, c2, rfl, hcell⟩ := h'.any
    obtain ⟨g, o, rfl, hc, hcc⟩ := hcell 0 (by simp)
    obtain ⟨g', o', e', _, hcc'⟩ := hcell 1 (by simp)
    cases e'
    have hz1 := hsh l (by simp)
    have hz2 := hsh m (by simp)
    have HP := fun W => Lib.hid (parseUint_any ⟨l.toArray⟩ W (by simpa [ByteArray.size] using hz1))
    have HP2 := fun W => Lib.hid (parseUint_any ⟨m.toArray⟩ W (by simpa [ByteArray.size] using hz2))
    have hf : sizeF x [l, m] = if (puB l && puB m) = true then some { x with c := (puV l : Int), r := (puV m : Int) } else none := rfl
    have HFF := Lib.hid (show cmdF 3 x [l, m] = _ from hf)
    unfold UintPost at HP HP2
    obtain ⟨xc, xr, xs, xl, xt⟩ := x
    have hg : ¬ g = w.heap.size := by
      intro e
      subst e
      simp [World.cell?] at hcc
    have hg' : ¬ w.heap.size = g := fun e => hg e.symm
    have hd0 := (below_grown hbl).cell hcc (by simp)
    have hd1 := (below_grown hbl).cell hcc' (by simp)
    simp only [SetC.val, SetC.cells, List.length_cons, List.length_nil, List.getElem_cons_zero, List.getElem_cons_succ, strV, Nat.add_zero, Nat.zero_add, Nat.reduceAdd] at *
    generalize hp1 : puB l = b1 at *
    generalize hp2 : puB m = b2 at *
    generalize hn1 : puV l = n1 at *
    generalize hn2 : puV m = n2 at *
    generalize (⟨l.toArray⟩ : ByteArray) = s1 at *
    generalize (⟨m.toArray⟩ : ByteArray) = s2 at *
    clear h h' hcc hcc' hcell hf h2 hp1 hp2 hn1 hn2 hz1 hz2 hsh hl
    go_enter Tryd.func100, Tryd.ntmps100
    go_wp2_with fail
    generalize World.alloc (World.alloc w _) _ = X at *
    refine (HP X).out.mono ?_
    rintro e w1 ⟨rfl, rfl⟩
    obtain ⟨p0, p1, p2, p3, p4, p5⟩ : (X.cell? ⟨w.heap.size, 0, none⟩ = some (.int .i64 xc)) ∧ (X.cell? ⟨w.heap.size, 1, none⟩ = some (.int .i64 xr)) ∧ (X.cell? ⟨w.heap.size, 2, none⟩ = some (.float .f32 xs)) ∧ (X.cell? ⟨w.heap.size, 3, none⟩ = some (.float .f32 xl)) ∧ (X.cell? ⟨w.heap.size, 4, none⟩ = some (.float .f32 xt)) ∧ (X.cell? ⟨w.heap.size, 5, none⟩ = some (.slice a ls.length c)) := by
      refine ⟨?_, ?_, ?_, ?_, ?_, ?_⟩ <;> simp [World.cell?, k1, Nat.add_assoc]
    obtain ⟨t0, t1, t2, t3, t4, t5⟩ : X.frozen? ⟨w.heap.size, 0, none⟩ = false ∧ X.frozen? ⟨w.heap.size, 1, none⟩ = false ∧ X.frozen? ⟨w.heap.size, 2, none⟩ = false ∧ X.frozen? ⟨w.heap.size, 3, none⟩ = false ∧ X.frozen? ⟨w.heap.size, 4, none⟩ = false ∧ X.frozen? ⟨w.heap.size, 5, none⟩ = false := by
      refine ⟨?_, ?_, ?_, ?_, ?_, ?_⟩ <;> simp [World.frozen?, k1, Nat.add_assoc]
    obtain ⟨r0, r1, r2, r3, r4, r5⟩ : (X.cell? ⟨w.heap.size + 1, 0, none⟩ = some (.int .i64 0)) ∧ (X.cell? ⟨w.heap.size + 1, 1, none⟩ = some (.int .i64 0)) ∧ (X.cell? ⟨w.heap.size + 1, 2, none⟩ = some (.float .f32 0)) ∧ (X.cell? ⟨w.heap.size + 1, 3, none⟩ = some (.float .f32 0)) ∧ (X.cell? ⟨w.heap.size + 1, 4, none⟩ = some (.float .f32 0)) ∧ (X.cell? ⟨w.heap.size + 1, 5, none⟩ = some (.slice none 0 0)) := by
      refine ⟨?_, ?_, ?_, ?_, ?_, ?_⟩ <;> simp [World.cell?, k2, Nat.add_assoc]
    obtain ⟨s0, s1, s2, s3, s4, s5⟩ : X.frozen? ⟨w.heap.size + 1, 0, none⟩ = false ∧ X.frozen? ⟨w.heap.size + 1, 1, none⟩ = false ∧ X.frozen? ⟨w.heap.size + 1, 2, none⟩ = false ∧ X.frozen? ⟨w.heap.size + 1, 3, none⟩ = false ∧ X.frozen? ⟨w.heap.size + 1, 4, none⟩ = false ∧ X.frozen? ⟨w.heap.size + 1, 5, none⟩ = false := by
      refine ⟨?_, ?_, ?_, ?_, ?_, ?_⟩ <;> simp [World.frozen?, k2, Nat.add_assoc]
    clear k1 k2
    go_wp2_with fail
    refine (HP2 _).out.mono ?_
    rintro e w1 ⟨rfl, rfl⟩
    have hfin : ∀ W, Below w.heap.size w W → CmdPost 3 ⟨xc, xr, xs, xl, xt⟩ (.slice a ls.length c) [l, m] w (.returned (.tuple #[.agg #[.int .i64 (n1 : Int), .int .i64 (n2 : Int), .float .f32 xs, .float .f32 xl, .float .f32 xt, .slice a ls.length c], .bool (b1 && b2)])) W := fun W hW =>
      ⟨⟨(n1 : Int), (n2 : Int), xs, xl, xt⟩, _, _, rfl, .inl rfl, fun h => ⟨rfl, by rw [HFF.out, if_pos h]⟩, fun h => by rw [HFF.out, if_neg (by rw [h]; decide)], hW⟩
    have HFIN := Lib.hid hfin
    clear hfin HFF
    cases b1
    · go_wp2
      refine bodyPost_ret (v := .tuple #[.agg #[.int .i64 (n1 : Int), .int .i64 (n2 : Int), .float .f32 xs, .float .f32 xl, .float .f32 xt, .slice a ls.length c], .bool false]) ?_ rfl ?_
      · simp [results, Tryd.results100, go_sem, r0, r1, r2, r3, r4, r5]
      · refine HFIN.out _ ?_
        exact ((((((((hbl.setCell (p := ⟨_, _, none⟩) (by simp) _).setCell (p := ⟨_, _, none⟩) (by simp) _).setCell (p := ⟨_, _, none⟩) (by simp) _).setCell (p := ⟨_, _, none⟩) (by simp) _).setCell (p := ⟨_, _, none⟩) (by simp) _).setCell (p := ⟨_, _, none⟩) (by simp) _).setCell (p := ⟨_, _, none⟩) (by simp) _).setCell (p := ⟨_, _, none⟩) (by simp) _)
    · go_wp2
      refine bodyPost_ret (v := .tuple #[.agg #[.int .i64 (n1 : Int), .int .i64 (n2 : Int), .float .f32 xs, .float .f32 xl, .float .f32 xt, .slice a ls.length c], .bool b2]) ?_ rfl ?_
      · simp [results, Tryd.results100, go_sem, r0, r1, r2, r3, r4, r5]
      · refine HFIN.out _ ?_
        exact ((((((((hbl.setCell (p := ⟨_, _, none⟩) (by simp) _).setCell (p := ⟨_, _, none⟩) (by simp) _).setCell (p := ⟨_, _, none⟩) (by simp) _).setCell (p := ⟨_, _, none⟩) (by simp) _).setCell (p := ⟨_, _, none⟩) (by simp) _).setCell (p := ⟨_, _, none⟩) (by simp) _).setCell (p := ⟨_, _, none⟩) (by simp) _).setCell (p := ⟨_, _, none⟩) (by simp) _)
  · have h3 : ¬ (vs.length : Int) = 2 := by omega
    obtain ⟨a2, c2, rfl⟩ := h'.lenv
    have HN := Lib.hid (show cmdF 3 x vs = none from sizeF_no h2)
    obtain ⟨xc, xr, xs, xl, xt⟩ := x
    simp only [SetC.val, SetC.cells] at *
    clear h h' h2 hsh
    go_enter Tryd.func100, Tryd.ntmps100
    obtain ⟨r0, r1, r2, r3, r4, r5⟩ := SetAt.of (x := zeroC) (v := .slice none 0 0) k2
    obtain ⟨s0, s1, s2, s3, s4, s5⟩ := froz6 k2
    simp only [zeroC] at r0 r1 r2 r3 r4
    clear k1 k2
    go_wp2_with fail
    generalize World.alloc (World.alloc w _) _ = X at *
    refine bodyPost_ret (v := .tuple #[.agg #[.int .i64 0, .int .i64 0, .float .f32 0, .float .f32 0, .float .f32 0, .slice none 0 0], .bool false]) ?_ rfl ⟨zeroC, .slice none 0 0, false, rfl, .inr rfl, (fun h => by cases h), fun _ => HN.out, ?_⟩
    · simp [results, Tryd.results100, go_sem, r0, r1, r2, r3, r4, r5]
    · exact hbl
end Go.Proofs.YtobpnoiienpipaaDoor

/-
  What is proved: the walk of commands; what a look-up in the map that it answers gives.
  Conditions: none.
-/
namespace Go.Proofs.YtobpnoiienpipaaDoor
set_option linter.unusedVariables false
open Go.RowKit Go.ChangeMaps
attribute [local go_sem] run_store_float run_store_complex unary_negf neg256

def cmdKeys : List ByteArray := [⟨#[115, 108, 105, 99, 101]⟩, ⟨#[107, 105, 108, 108, 101, 114]⟩, ⟨#[115, 97, 116, 117, 114, 97, 116, 105, 111, 110]⟩, ⟨#[115, 105, 122, 101]⟩]
def ent (s : ByteArray) (f c : Nat) : MapEntry := ⟨.string s, .func (.func f) #[] #[], c⟩
/-- The map of commands. -/
def cmdMap : Array MapEntry := #[ent ⟨#[115, 108, 105, 99, 101]⟩ 97 0, ent ⟨#[107, 105, 108, 108, 101, 114]⟩ 98 1, ent ⟨#[115, 97, 116, 117, 114, 97, 116, 105, 111, 110]⟩ 99 2, ent ⟨#[115, 105, 122, 101]⟩ 100 3]
theorem hd_str : Tryd.prog.underlying 9 = some .string := Tryd.underlying9
theorem put_new {W : World} {r : Nat} {es : Array MapEntry} {clock : Nat} (hb : W.heap[r]? = some (.map es clock)) (s : ByteArray) (v : Value) (hf : Instr.findNow .string (.string s) es.toList 0 = some none) :
    (Instr.mapUpdate 90 (.map (some r)) (.string s) v).run Tryd.prog W = .ok () (setBlock W r (.map (es.push ⟨.string s, v, clock⟩) (clock + 1))) := by
  simp [Instr.mapUpdate, run_underlying Tryd.underlying90, MapKept.run_getObj_map hb, MapKept.run_checkKey hd_str (show MapKept.IsKey .string (.string s) by simp [MapKept.IsKey]), MapKept.run_findKey hd_str hf, MapKept.run_setObj_map _ hb, Result.andThen, setBlock]
theorem put_heap {W : World} {r : Nat} {o : Obj} (o' : Obj) (hb : W.heap[r]? = some o) : (setBlock W r o').heap[r]? = some o' := (MapKept.heap_set hb).1
theorem put_below {B : Nat} {w W : World} {r : Nat} (h : Below B w W) (hr : B ≤ r) (o : Obj) : Below B w (setBlock W r o) :=
  ⟨h.os, h.tape, h.output, by simpa [setBlock] using h.size, fun k hk => by
    have : r ≠ k := by omega
    simp [setBlock, this]
    exact h.block k hk⟩
theorem get_none {W : World} {r : Nat} {es : Array MapEntry} {clock : Nat} (hb : W.heap[r]? = some (.map es clock)) (s : ByteArray) (hf : Instr.findNow .string (.string s) es.toList 0 = some none) :
    (Instr.lookup 90 (.map (some r)) (.string s) true).run Tryd.prog W = .ok (.tuple #[.nilFunc, .bool false]) W := by
  have hz := Tryd.zeroValue88 W
  simp [Instr.lookup, run_underlying Tryd.underlying90, MapKept.run_getObj_map hb, MapKept.run_checkKey hd_str (show MapKept.IsKey .string (.string s) by simp [MapKept.IsKey]), MapKept.run_findKey hd_str hf, hz, Result.andThen]
theorem get_some {W : World} {r j : Nat} {v : Value} {es : Array MapEntry} {clock : Nat} (hb : W.heap[r]? = some (.map es clock)) (s : ByteArray) (hf : Instr.findNow .string (.string s) es.toList 0 = some (some (j, v))) :
    (Instr.lookup 90 (.map (some r)) (.string s) true).run Tryd.prog W = .ok (.tuple #[v, .bool true]) W := by
  simp [Instr.lookup, run_underlying Tryd.underlying90, MapKept.run_getObj_map hb, MapKept.run_checkKey hd_str (show MapKept.IsKey .string (.string s) by simp [MapKept.IsKey]), MapKept.run_findKey hd_str hf, Result.andThen]
theorem make_map (W : World) : (Instr.makeMap 90 none).run Tryd.prog W = .ok (.map (some W.heap.size)) (W.alloc (.map #[] 0)) := rfl
set_option maxRecDepth 100000 in
theorem commands_any (w : World) :
    Calls Tryd.prog 74 #[] w fun e w' => e = .returned (.map (some w.heap.size)) ∧ w'.heap[w.heap.size]? = some (.map cmdMap 4) ∧ Below w.heap.size w w' := by
  have h0 := make_map w
  have b0 : (w.alloc (.map #[] 0)).heap[w.heap.size]? = some (.map #[] 0) := heap_alloc_new w _
  have g0 : Below w.heap.size w (w.alloc (.map #[] 0)) := (Below.refl _ _).alloc (Nat.le_refl _) _
  generalize w.alloc (.map #[] 0) = W0 at *
  have h1 := put_new b0 ⟨#[115, 108, 105, 99, 101]⟩ (.func (.func 97) #[] #[]) rfl
  have b1 := put_heap (.map ((#[]).push ⟨.string ⟨#[115, 108, 105, 99, 101]⟩, (.func (.func 97) #[] #[]), 0⟩) (0 + 1)) b0
  have g1 := put_below g0 (Nat.le_refl _) (.map ((#[]).push ⟨.string ⟨#[115, 108, 105, 99, 101]⟩, (.func (.func 97) #[] #[]), 0⟩) (0 + 1))
  generalize setBlock W0 _ _ = W1 at *
  have h2 := put_new b1 ⟨#[107, 105, 108, 108, 101, 114]⟩ (.func (.func 98) #[] #[]) rfl
  have b2 := put_heap (.map (((#[]).push ⟨.string ⟨#[115, 108, 105, 99, 101]⟩, (.func (.func 97) #[] #[]), 0⟩).push ⟨.string ⟨#[107, 105, 108, 108, 101, 114]⟩, (.func (.func 98) #[] #[]), 1⟩) (1 + 1)) b1
  have g2 := put_below g1 (Nat.le_refl _) (.map (((#[]).push ⟨.string ⟨#[115, 108, 105, 99, 101]⟩, (.func (.func 97) #[] #[]), 0⟩).push ⟨.string ⟨#[107, 105, 108, 108, 101, 114]⟩, (.func (.func 98) #[] #[]), 1⟩) (1 + 1))
  generalize setBlock W1 _ _ = W2 at *
  have h3 := put_new b2 ⟨#[115, 97, 116, 117, 114, 97, 116, 105, 111, 110]⟩ (.func (.func 99) #[] #[]) rfl
  have b3 := put_heap (.map ((((#[]).push ⟨.string ⟨#[115, 108, 105, 99, 101]⟩, (.func (.func 97) #[] #[]), 0⟩).push ⟨.string ⟨#[107, 105, 108, 108, 101, 114]⟩, (.func (.func 98) #[] #[]), 1⟩).push ⟨.string ⟨#[115, 97, 116, 117, 114, 97, 116, 105, 111, 110]⟩, (.func (.func 99) #[] #[]), 2⟩) (2 + 1)) b2
  have g3 := put_below g2 (Nat.le_refl _) (.map ((((#[]).push ⟨.string ⟨#[115, 108, 105, 99, 101]⟩, (.func (.func 97) #[] #[]), 0⟩).push ⟨.string ⟨#[107, 105, 108, 108, 101, 114]⟩, (.func (.func 98) #[] #[]), 1⟩).push ⟨.string ⟨#[115, 97, 116, 117, 114, 97, 116, 105, 111, 110]⟩, (.func (.func 99) #[] #[]), 2⟩) (2 + 1))
  generalize setBlock W2 _ _ = W3 at *
  have h4 := put_new b3 ⟨#[115, 105, 122, 101]⟩ (.func (.func 100) #[] #[]) rfl
  have b4 := put_heap (.map (((((#[]).push ⟨.string ⟨#[115, 108, 105, 99, 101]⟩, (.func (.func 97) #[] #[]), 0⟩).push ⟨.string ⟨#[107, 105, 108, 108, 101, 114]⟩, (.func (.func 98) #[] #[]), 1⟩).push ⟨.string ⟨#[115, 97, 116, 117, 114, 97, 116, 105, 111, 110]⟩, (.func (.func 99) #[] #[]), 2⟩).push ⟨.string ⟨#[115, 105, 122, 101]⟩, (.func (.func 100) #[] #[]), 3⟩) (3 + 1)) b3
  have g4 := put_below g3 (Nat.le_refl _) (.map (((((#[]).push ⟨.string ⟨#[115, 108, 105, 99, 101]⟩, (.func (.func 97) #[] #[]), 0⟩).push ⟨.string ⟨#[107, 105, 108, 108, 101, 114]⟩, (.func (.func 98) #[] #[]), 1⟩).push ⟨.string ⟨#[115, 97, 116, 117, 114, 97, 116, 105, 111, 110]⟩, (.func (.func 99) #[] #[]), 2⟩).push ⟨.string ⟨#[115, 105, 122, 101]⟩, (.func (.func 100) #[] #[]), 3⟩) (3 + 1))
  generalize setBlock W3 _ _ = W4 at *
  go_enter Tryd.func74, Tryd.ntmps74
  go_wp2
  go_ret
  exact ⟨rfl, b4, g4⟩
end Go.Proofs.YtobpnoiienpipaaDoor
