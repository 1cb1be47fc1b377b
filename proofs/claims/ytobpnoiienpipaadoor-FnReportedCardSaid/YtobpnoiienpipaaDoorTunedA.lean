/-
  What is proved: the walk of tuned.
  Conditions: the log can be read; its texts and the line have at most 1048576 bytes each; the library's table of spaces holds what its initialiser lays.
-/
import Derived.Test.YtobpnoiienpipaaDoorTunedC
namespace Go.Proofs.YtobpnoiienpipaaDoor
set_option linter.unusedVariables false
open Go.RowKit
attribute [local go_sem] run_store_float run_store_complex unary_negf neg256

theorem find_0 {n : List UInt8} (h : keyIx n = 0) : Instr.findNow .string (.string ⟨n.toArray⟩) cmdMap.toList 0 = some (some (0, .func (.func 97) #[] #[])) := by
  have e : n = [115, 108, 105, 99, 101] := by
    unfold keyIx at h
    split at h
    · assumption
    split at h
    · cases h
    split at h
    · cases h
    split at h
    · cases h
    · cases h
  subst e
  rfl
theorem find_1 {n : List UInt8} (h : keyIx n = 1) : Instr.findNow .string (.string ⟨n.toArray⟩) cmdMap.toList 0 = some (some (1, .func (.func 98) #[] #[])) := by
  have e : n = [107, 105, 108, 108, 101, 114] := by
    unfold keyIx at h
    split at h
    · cases h
    split at h
    · assumption
    split at h
    · cases h
    split at h
    · cases h
    · cases h
  subst e
  rfl
theorem find_2 {n : List UInt8} (h : keyIx n = 2) : Instr.findNow .string (.string ⟨n.toArray⟩) cmdMap.toList 0 = some (some (2, .func (.func 99) #[] #[])) := by
  have e : n = [115, 97, 116, 117, 114, 97, 116, 105, 111, 110] := by
    unfold keyIx at h
    split at h
    · cases h
    split at h
    · cases h
    split at h
    · assumption
    split at h
    · cases h
    · cases h
  subst e
  rfl
theorem find_3 {n : List UInt8} (h : keyIx n = 3) : Instr.findNow .string (.string ⟨n.toArray⟩) cmdMap.toList 0 = some (some (3, .func (.func 100) #[] #[])) := by
  have e : n = [115, 105, 122, 101] := by
    unfold keyIx at h
    split at h
    · cases h
    split at h
    · cases h
    split at h
    · cases h
    split at h
    · assumption
    · cases h
  subst e
  rfl
theorem tuned_any (x : SetC) (v : Value) (ls : List (List UInt8)) (s : ByteArray) (w : World) (hx : x.ok) (h : TRow w v ls) (hs : Short ls) (hsz : s.size ≤ 1048576) (ht : TabS w) :
    Calls Tryd.prog 46 #[x.val v, .string s] w fun e w' => TunedPost x ls s.data.toList w e w' := by
  by_cases h1 : splB s.data.toList = false
  · exact tuned_early x v ls s w hx h hs hsz ht (.inl h1)
  by_cases h2 : setB x ls.length = false
  · exact tuned_early x v ls s w hx h hs hsz ht (.inr (.inr h2))
  have h1' : splB s.data.toList = true := by simpa using h1
  have h2' : setB x ls.length = true := by simpa using h2
  have hsm := (spl_small h1').1
  have hsl := (spl_small h1').2
  cases h3 : spl s.data.toList with
  | nil => exact tuned_early x v ls s w hx h hs hsz ht (.inr (.inl h3))
  | cons n vs =>
    rw [h3] at hsm hsl
    have hsv : Short vs := ⟨by simp at hsl; omega, fun l hl => by have := hsm l (by simp [hl]); omega⟩
    by_cases hk : keyIx n < 4
    · have hk4 : keyIx n = 0 ∨ keyIx n = 1 ∨ keyIx n = 2 ∨ keyIx n = 3 := by omega
      rcases hk4 with e | e | e | e
      · exact tuned_cmd 97 0 (by decide) x v ls s w hx h hs hsz ht n vs h1' h3 h2' e (find_0 e) (enters_of Tryd.func97 (by kernel_rfl) rfl) (fun a0 n0 c0 u W hr hu => (withSlice_any x (.slice a0 n0 c0) u ls vs W hr hu hsv).mono (fun e w' ⟨he, hb⟩ => by subst he; exact num_post rfl hb))
      · exact tuned_cmd 98 1 (by decide) x v ls s w hx h hs hsz ht n vs h1' h3 h2' e (find_1 e) (enters_of Tryd.func98 (by kernel_rfl) rfl) (fun a0 n0 c0 u W hr hu => (withLeast_any x (.slice a0 n0 c0) u ls vs W hr hu hsv).mono (fun e w' ⟨he, hb⟩ => by subst he; exact num_post rfl hb))
      · exact tuned_cmd 99 2 (by decide) x v ls s w hx h hs hsz ht n vs h1' h3 h2' e (find_2 e) (enters_of Tryd.func99 (by kernel_rfl) rfl) (fun a0 n0 c0 u W hr hu => (withSat_any x (.slice a0 n0 c0) u ls vs W hr hu hsv).mono (fun e w' ⟨he, hb⟩ => by subst he; exact num_post rfl hb))
      · exact tuned_cmd 100 3 (by decide) x v ls s w hx h hs hsz ht n vs h1' h3 h2' e (find_3 e) (enters_of Tryd.func100 (by kernel_rfl) rfl) (fun a0 n0 c0 u W hr hu => withSize_any x (.slice a0 n0 c0) u ls vs W hr hu hsv)
    · exact tuned_none x v ls s w hx h hs hsz ht n vs h1' h3 h2' hk
end Go.Proofs.YtobpnoiienpipaaDoor
