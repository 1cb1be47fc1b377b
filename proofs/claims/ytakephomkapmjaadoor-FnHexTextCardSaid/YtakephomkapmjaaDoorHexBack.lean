/-
  What is proved: plain facts: what is decoded of an encoding.
  Conditions: none.
-/
import Derived.Test.YtakephomkapmjaaDoorHex
import Derived.Test.YtakephomkapmjaaDoorUnhex
namespace Go.Proofs.YtakephomkapmjaaDoor
set_option linter.unusedVariables false

theorem hv_fig : ∀ x : Fin 16, hv (UInt8.ofNat (fig x.val)) = some x.val := by decide +kernel
theorem hv_fig' {x : Nat} (h : x ≤ 15) : hv (UInt8.ofNat (fig x)) = some x := hv_fig ⟨x, by omega⟩
theorem hexOf_append (a b : List UInt8) : hexOf (a ++ b) = hexOf a ++ hexOf b := by simp [hexOf]
theorem hexOf_at (l : List UInt8) (k : Nat) (h : k < l.length) : (hexOf l).getD (2 * k) 0 = UInt8.ofNat (fig (l[k].toNat / 16)) ∧ (hexOf l).getD (2 * k + 1) 0 = UInt8.ofNat (fig (l[k].toNat % 16)) := by
  have e : hexOf l = hexOf (l.take k) ++ (UInt8.ofNat (fig (l[k].toNat / 16)) :: UInt8.ofNat (fig (l[k].toNat % 16)) :: hexOf (l.drop (k + 1))) := by
    have e1 : l = l.take k ++ (l[k] :: l.drop (k + 1)) := by simp
    have e2 : hexOf (l[k] :: l.drop (k + 1)) = UInt8.ofNat (fig (l[k].toNat / 16)) :: UInt8.ofNat (fig (l[k].toNat % 16)) :: hexOf (l.drop (k + 1)) := rfl
    rw [← e2, ← hexOf_append, ← e1]
  have hl : (hexOf (l.take k)).length = 2 * k := by rw [hexOf_len, List.length_take]; omega
  rw [e]
  constructor
  · rw [List.getD, List.getElem?_append_right (by omega), hl, Nat.sub_self]; rfl
  · rw [List.getD, List.getElem?_append_right (by omega), hl, show 2 * k + 1 - 2 * k = 1 by omega]; rfl
theorem unhexTo_hex (l : List UInt8) : ∀ k, k ≤ l.length → unhexTo (hexOf l) k = some (l.take k)
  | 0, _ => rfl
  | k + 1, h => by
    have hlt : k < l.length := by omega
    obtain ⟨h1, h2⟩ := hexOf_at l k hlt
    have hb := l[k].toNat_lt
    have := unhexTo_step (unhexTo_hex l k (by omega)) (by rw [h1]; exact hv_fig' (x := l[k].toNat / 16) (by omega)) (by rw [h2]; exact hv_fig' (x := l[k].toNat % 16) (by omega))
    rw [this, List.take_succ_eq_append_getElem hlt]
    congr 3
    rw [show 16 * (l[k].toNat / 16) + l[k].toNat % 16 = l[k].toNat by omega]
    simp
/-- WHAT WAS ENCODED IS DECODED. -/
theorem decHex_hex (l : List UInt8) (h : l.length ≤ 20000) : decHex (hexOf l) = some l := by
  unfold decHex
  rw [hexOf_len, if_neg (by omega), show 2 * l.length / 2 = l.length by omega, unhexTo_hex l _ (Nat.le_refl _), List.take_length]
end Go.Proofs.YtakephomkapmjaaDoor
