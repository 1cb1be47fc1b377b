/-
  What is proved: the walk of the model's EncodeHex.
  Conditions: the argument is a string of at most 1048576 bytes.
-/
import Derived.Test.YtakephomkapmjaaHex
namespace Go.Proofs.Ytakephomkapmjaa
open Go.RowKit

theorem w8 (c : UInt8) : IntKind.i64.wrap (c.toNat : Int) = (c.toNat : Int) := IntWalk.i64_in _ (by have := c.toNat_lt; omega)
theorem d16 (c : UInt8) : (c.toNat : Int).tdiv 16 = (c.toNat : Int) / 16 := Int.tdiv_eq_ediv_of_nonneg (by omega)
theorem m16 (c : UInt8) : (c.toNat : Int).tmod 16 = (c.toNat : Int) % 16 := Int.tmod_eq_emod_of_nonneg (by omega)
theorem wd16 (c : UInt8) : IntKind.i64.wrap ((c.toNat : Int) / 16) = (c.toNat : Int) / 16 := IntWalk.i64_in _ (by have := c.toNat_lt; omega)
theorem wm16 (c : UInt8) : IntKind.i64.wrap ((c.toNat : Int) % 16) = (c.toNat : Int) % 16 := IntWalk.i64_in _ (by have := c.toNat_lt; omega)

set_option maxHeartbeats 1000000 in
theorem specEncodeHex_any (s : ByteArray) (w : World) (hs : s.size ≤ 1048576) :
    Calls Try.prog 18 #[.string s] w fun e w' => HexPost s.data.toList w e w' := by
  by_cases hbig : 20000 < s.size
  · go_enter Try.func18, Try.ntmps18
    go_wp2
    go_ret2
    exact HexPost.no hbig (Below.refl _ _)
  · have hst : HexAt s.data.toList w.heap.size 0 (.slice (some ⟨w.heap.size, 0, none⟩) 0 0) w (w.alloc (.cells #[] 5)) := ⟨by simpa [hexOf] using OwnB.made0 w, (Below.refl _ _).alloc (Nat.le_refl _) _, by simp⟩
    go_enter Try.func18, Try.ntmps18
    go_wp2
    go_loopw [4, 5] (fun v i wr => ∃ k : Nat, k ≤ s.size ∧ i = .int .i64 k ∧ HexAt s.data.toList w.heap.size k v w wr) (fun _ i _ => s.size - (intOf i).toNat)
    case atStart => exact ⟨0, Nat.zero_le _, rfl, hst⟩
    case round =>
      obtain ⟨k, hk, rfl, hat⟩ := hrel
      by_cases hlt : k < s.size
      · have hl : s[k].toNat ≤ 255 := by have := s[k].toNat_lt; omega
        go_wp2
        obtain ⟨hown, hbel, hB⟩ := hat
        have HO := Lib.hid hown
        clear hown
        have hf1 := fig_le (x := (↑s[k].toNat / 16 : Int).toNat) (by omega)
        have hf2 := fig_le (x := (↑s[k].toNat % 16 : Int).toNat) (by omega)
        have hlen : (hexOf (s.data.toList.take k)).length ≤ 1099511627000 := by rw [hexOf_len, List.length_take]; omega
        have e1 := w8 s[k]
        have e2 := d16 s[k]
        have e3 := m16 s[k]
        have e4 := wd16 s[k]
        have e5 := wm16 s[k]
        go_region_law (first | (go_simp; go_at_call 39; refine (l01Figure_hex _ _ (by omega) (by omega)).mono ?_; rintro e w' ⟨rfl, rfl⟩) | (refine step_two rfl (.tmp 16) (.tmp 29) rfl w.heap.size _ _ rfl HO.out _ _ _ rfl hf1 hf2 hlen hB ?_; intro v' w2 ho hg))
        all_goals
          have hfin := HexAt.step (s := s) ⟨HO.out, hbel, hB⟩ hlt ((Below.refl _ _).alloc hB _).drew (by simp; omega) ho hg
          clear ho hg e1 e2 e3 e4 e5
          go_wp2
          go_roundw
          case rel => exact ⟨k + 1, by omega, by go_num, hfin⟩
          case measure => simp [intOf]; omega
      · have hconv := hat.1.conv
        have hpost := hat.2.1
        have hkk : List.take k s.data.toList = s.data.toList := List.take_of_length_le (by simp; omega)
        rw [hkk] at hconv
        clear hat hkk
        go_wp2
        go_ret2
        exact HexPost.yes hbig hpost

set_option linter.unusedVariables false
set_option maxHeartbeats 400000 in
theorem walk_FnExactEncodeHex (s : ByteArray) (w : World) (ws : s.size ≤ maxLen) :
    Calls Try.prog 5 #[.string s] w fun e w' => e = .returned (.bool true) ∧ Below w.heap.size w w' := by
  unfold maxLen at ws
  by_cases hs : 1048576 < s.size
  · go_enter Try.func5, Try.ntmps5
    go_wp2
    go_ret
    exact ⟨rfl, Below.refl _ _⟩
  · go_enter Try.func5, Try.ntmps5
    go_wp2_with fail
    refine (specEncodeHex_any s _ (by omega)).mono ?_
    rintro e w1 ⟨rfl, hb⟩
    generalize ho : (if 20000 < s.data.toList.length then [] else hexOf s.data.toList) = out
    generalize hk : (!decide (20000 < s.data.toList.length)) = ok
    have HO := Lib.hid ho
    have HK := Lib.hid hk
    clear ho hk
    go_wp2_with fail
    refine (encodeHex_any s _ (by omega)).mono ?_
    rintro e w2 ⟨he2, hb2⟩
    rw [HO.out, HK.out] at he2
    subst he2
    go_wp2
    go_ret
    exact ⟨rfl, hb.trans (hb2.mono hb.size)⟩
end Go.Proofs.Ytakephomkapmjaa
