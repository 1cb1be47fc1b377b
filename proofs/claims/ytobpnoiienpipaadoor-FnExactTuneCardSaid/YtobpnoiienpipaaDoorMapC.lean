/-
  What is proved: the walk of commands; what a look-up in the map that it answers gives.
  Conditions: none.
-/
import Derived.Test.YtobpnoiienpipaaDoorSize
import Derived.MapKept
import Derived.ChangeMaps4
namespace Go.Proofs.YtobpnoiienpipaaDoor
set_option linter.unusedVariables false
open Go.RowKit Go.ChangeMaps
attribute [local go_sem] run_store_float run_store_complex unary_negf neg256

def cmdKeys : List ByteArray := [⟨#[115, 108, 105, 99, 101]⟩, ⟨#[107, 105, 108, 108, 101, 114]⟩, ⟨#[115, 97, 116, 117, 114, 97, 116, 105, 111, 110]⟩, ⟨#[115, 105, 122, 101]⟩]
def ent (s : ByteArray) (f c : Nat) : MapEntry := ⟨.string s, .func (.func f) #[] #[], c⟩
/-- The map of commands. -/
def cmdMap : Array MapEntry := #[ent ⟨#[115, 108, 105, 99, 101]⟩ 97 0, ent ⟨#[107, 105, 108, 108, 101, 114]⟩ 98 1, ent ⟨#[115, 97, 116, 117, 114, 97, 116, 105, 111, 110]⟩ 99 2, ent ⟨#[115, 105, 122, 101]⟩ 100 3]
theorem hd_str : Tryd.prog.underlying 9 = some .string := Tryd.underlying9
theorem put_new {W : World} {r : Nat} {es : Array MapEntry} {clock : Nat} (hb : W.heap[r]? = some (.map es clock)) (s : ByteArray) (v : Value) (hf : Instr.findNow .string (.string s) es.toList 0 = some none) :
    (Instr.mapUpdate 90 (.map (some r)) (.string s) v).run Tryd.prog W = .ok () (setBlock W r (.map (es.push ⟨.string s, v, clock⟩) (clock + 1))) := by
  simp [Instr.mapUpdate, run_underlying Tryd.underlying90, MapKept.run_getObj_map hb, MapKept.run_checkKey hd_str (show MapKept.IsKey .string (.string s) by simp [MapKept.IsKey]), MapKept.run_findKey hd_str hf, MapKept.run_setObj_map _ hb, Result.andThen, setBlock]
theorem put_heap {W : World} {r : Nat} {o : Obj} (o' : Obj) (hb : W.heap[r]? = some o) : (setBlock W r o').heap[r]? = some o' := (MapKept.heap_set hb).1
theorem put_below {B : Nat} {w W : World} {r : Nat} (h : Below B w W) (hr : B ≤ r) (o : Obj) : Below B w (setBlock W r o) :=
  ⟨h.os, h.tape, h.output, by simpa [setBlock] using h.size, fun k hk => by
    have : r ≠ k := by omega
    simp [setBlock, this]
    exact h.block k hk⟩
theorem get_none {W : World} {r : Nat} {es : Array MapEntry} {clock : Nat} (hb : W.heap[r]? = some (.map es clock)) (s : ByteArray) (hf : Instr.findNow .string (.string s) es.toList 0 = some none) :
    (Instr.lookup 90 (.map (some r)) (.string s) true).run Tryd.prog W = .ok (.tuple #[.nilFunc, .bool false]) W := by
  have hz := Tryd.zeroValue88 W
  simp [Instr.lookup, run_underlying Tryd.underlying90, MapKept.run_getObj_map hb, MapKept.run_checkKey hd_str (show MapKept.IsKey .string (.string s) by simp [MapKept.IsKey]), MapKept.run_findKey hd_str hf, hz, Result.andThen]
theorem get_some {W : World} {r j : Nat} {v : Value} {es : Array MapEntry} {clock : Nat} (hb : W.heap[r]? = some (.map es clock)) (s : ByteArray) (hf : Instr.findNow .string (.string s) es.toList 0 = some (some (j, v))) :
    (Instr.lookup 90 (.map (some r)) (.string s) true).run Tryd.prog W = .ok (.tuple #[v, .bool true]) W := by
  simp [Instr.lookup, run_underlying Tryd.underlying90, MapKept.run_getObj_map hb, MapKept.run_checkKey hd_str (show MapKept.IsKey .string (.string s) by simp [MapKept.IsKey]), MapKept.run_findKey hd_str hf, Result.andThen]
theorem make_map (W : World) : (Instr.makeMap 90 none).run Tryd.prog W = .ok (.map (some W.heap.size)) (W.alloc (.map #[] 0)) := rfl
set_option maxRecDepth 100000 in
theorem commands_any (w : World) :
    Calls Tryd.prog 74 #[] w fun e w' => e = .returned (.map (some w.heap.size)) ∧ w'.heap[w.heap.size]? = some (.map cmdMap 4) ∧ Below w.heap.size w w' := by
  have h0 := make_map w
  have b0 : (w.alloc (.map #[] 0)).heap[w.heap.size]? = some (.map #[] 0) := heap_alloc_new w _
  have g0 : Below w.heap.size w (w.alloc (.map #[] 0)) := (Below.refl _ _).alloc (Nat.le_refl _) _
  generalize w.alloc (.map #[] 0) = W0 at *
  have h1 := put_new b0 ⟨#[115, 108, 105, 99, 101]⟩ (.func (.func 97) #[] #[]) rfl
  have b1 := put_heap (.map ((#[]).push ⟨.string ⟨#[115, 108, 105, 99, 101]⟩, (.func (.func 97) #[] #[]), 0⟩) (0 + 1)) b0
  have g1 := put_below g0 (Nat.le_refl _) (.map ((#[]).push ⟨.string ⟨#[115, 108, 105, 99, 101]⟩, (.func (.func 97) #[] #[]), 0⟩) (0 + 1))
  generalize setBlock W0 _ _ = W1 at *
  have h2 := put_new b1 ⟨#[107, 105, 108, 108, 101, 114]⟩ (.func (.func 98) #[] #[]) rfl
  have b2 := put_heap (.map (((#[]).push ⟨.string ⟨#[115, 108, 105, 99, 101]⟩, (.func (.func 97) #[] #[]), 0⟩).push ⟨.string ⟨#[107, 105, 108, 108, 101, 114]⟩, (.func (.func 98) #[] #[]), 1⟩) (1 + 1)) b1
  have g2 := put_below g1 (Nat.le_refl _) (.map (((#[]).push ⟨.string ⟨#[115, 108, 105, 99, 101]⟩, (.func (.func 97) #[] #[]), 0⟩).push ⟨.string ⟨#[107, 105, 108, 108, 101, 114]⟩, (.func (.func 98) #[] #[]), 1⟩) (1 + 1))
  generalize setBlock W1 _ _ = W2 at *
  have h3 := put_new b2 ⟨#[115, 97, 116, 117, 114, 97, 116, 105, 111, 110]⟩ (.func (.func 99) #[] #[]) rfl
  have b3 := put_heap (.map ((((#[]).push ⟨.string ⟨#[115, 108, 105, 99, 101]⟩, (.func (.func 97) #[] #[]), 0⟩).push ⟨.string ⟨#[107, 105, 108, 108, 101, 114]⟩, (.func (.func 98) #[] #[]), 1⟩).push ⟨.string ⟨#[115, 97, 116, 117, 114, 97, 116, 105, 111, 110]⟩, (.func (.func 99) #[] #[]), 2⟩) (2 + 1)) b2
  have g3 := put_below g2 (Nat.le_refl _) (.map ((((#[]).push ⟨.string ⟨#[115, 108, 105, 99, 101]⟩, (.func (.func 97) #[] #[]), 0⟩).push ⟨.string ⟨#[107, 105, 108, 108, 101, 114]⟩, (.func (.func 98) #[] #[]), 1⟩).push ⟨.string ⟨#[115, 97, 116, 117, 114, 97, 116, 105, 111, 110]⟩, (.func (.func 99) #[] #[]), 2⟩) (2 + 1))
  generalize setBlock W2 _ _ = W3 at *
  have h4 := put_new b3 ⟨#[115, 105, 122, 101]⟩ (.func (.func 100) #[] #[]) rfl
  have b4 := put_heap (.map (((((#[]).push ⟨.string ⟨#[115, 108, 105, 99, 101]⟩, (.func (.func 97) #[] #[]), 0⟩).push ⟨.string ⟨#[107, 105, 108, 108, 101, 114]⟩, (.func (.func 98) #[] #[]), 1⟩).push ⟨.string ⟨#[115, 97, 116, 117, 114, 97, 116, 105, 111, 110]⟩, (.func (.func 99) #[] #[]), 2⟩).push ⟨.string ⟨#[115, 105, 122, 101]⟩, (.func (.func 100) #[] #[]), 3⟩) (3 + 1)) b3
  have g4 := put_below g3 (Nat.le_refl _) (.map (((((#[]).push ⟨.string ⟨#[115, 108, 105, 99, 101]⟩, (.func (.func 97) #[] #[]), 0⟩).push ⟨.string ⟨#[107, 105, 108, 108, 101, 114]⟩, (.func (.func 98) #[] #[]), 1⟩).push ⟨.string ⟨#[115, 97, 116, 117, 114, 97, 116, 105, 111, 110]⟩, (.func (.func 99) #[] #[]), 2⟩).push ⟨.string ⟨#[115, 105, 122, 101]⟩, (.func (.func 100) #[] #[]), 3⟩) (3 + 1))
  generalize setBlock W3 _ _ = W4 at *
  go_enter Tryd.func74, Tryd.ntmps74
  go_wp2
  go_ret
  exact ⟨rfl, b4, g4⟩
end Go.Proofs.YtobpnoiienpipaaDoor
