/-
  What is proved: the walk of the model's DecodeHex, and that of the law FnExactDecodeHex.
  Conditions: the argument is a string of at most 1048576 bytes (the law: none).
-/
import Derived.Test.YtakephomkapmjaaUnhex
namespace Go.Proofs.Ytakephomkapmjaa
open Go.RowKit

theorem l01Value_yes (c : UInt8) (x : Nat) (w : World) (h : hv c = some x) :
    Calls Try.prog 41 #[.int .u8 c.toNat] w fun e w' => e = .returned (.int .i64 x) ∧ w = w' := by
  have hc := c.toNat_lt
  rcases hv_some h with ⟨h1, h2, rfl⟩ | ⟨h1, h2, rfl⟩
  · go_enter Try.func41, Try.ntmps41
    go_wp2
    go_ret
    exact ⟨ret_int (by omega), rfl⟩
  · go_enter Try.func41, Try.ntmps41
    go_wp2
    go_ret
    exact ⟨ret_int (by omega), rfl⟩
theorem l01Value_no (c : UInt8) (w : World) (h : hv c = none) :
    Calls Try.prog 41 #[.int .u8 c.toNat] w fun e w' => e = .returned (.int .i64 (-1)) ∧ w = w' := by
  have hc := c.toNat_lt
  obtain ⟨h1, h2⟩ := hv_none h
  go_enter Try.func41, Try.ntmps41
  go_wp2
  all_goals first | (go_ret; exact ⟨rfl, rfl⟩) | (exfalso; omega)

set_option maxHeartbeats 1000000 in
theorem specDecodeHex_any (s : ByteArray) (w : World) (hs : s.size ≤ 1048576) :
    Calls Try.prog 20 #[.string s] w fun e w' => DecPost s.data.toList w e w' := by
  have hsz : s.data.toList.length = s.size := by simp
  by_cases hbig : 40000 < s.size
  · have H : decHex s.data.toList = none := by unfold decHex; rw [hsz, if_pos (.inr hbig)]
    clear hsz
    go_enter Try.func20, Try.ntmps20
    go_wp2
    go_ret2
    exact DecPost.no H (Below.refl _ _)
  · by_cases hodd : s.size % 2 = 0
    · have hst : UnhexAt s.data.toList w.heap.size 0 (.slice (some ⟨w.heap.size, 0, none⟩) 0 0) w (w.alloc (.cells #[] 5)) := ⟨[], rfl, OwnB.made0 w, (Below.refl _ _).alloc (Nat.le_refl _) _, by simp⟩
      have HS := Lib.hid hsz
      have hev : (s.size : Int) % 2 = 0 := by omega
      clear hsz
      go_enter Try.func20, Try.ntmps20
      go_wp2
      go_loopw [4, 5] (fun v i wr => ∃ k : Nat, 2 * k ≤ s.size ∧ i = .int .i64 (2 * k : Nat) ∧ UnhexAt s.data.toList w.heap.size k v w wr) (fun _ i _ => s.size - (intOf i).toNat)
      case atStart => exact ⟨0, Nat.zero_le _, rfl, hst⟩
      case round =>
        obtain ⟨k, hk, rfl, out, hun, hown, hbel, hB⟩ := hrel
        by_cases hlt : 2 * k < s.size
        · have hlt2 : 2 * k + 1 < s.size := by omega
          have ex := congrArg hv (getD_byte s _ hlt)
          have ey := congrArg hv (getD_byte s _ hlt2)
          cases hx : hv s[2 * k] with
          | none =>
            have H := decHex_none (unhexTo_bad (k := k) (.inl (ex.trans hx))) (by rw [HS.out]; exact hlt2)
            clear hev ex ey hun
            go_wp2_with fail
            refine (l01Value_no s[2 * k] _ hx).mono ?_
            rintro e w' ⟨rfl, rfl⟩
            go_wp2_with fail
            cases hy : hv s[2 * k + 1] with
            | none =>
              refine (l01Value_no s[2 * k + 1] _ hy).mono ?_
              rintro e w' ⟨rfl, rfl⟩
              go_wp2
              go_ret2
              exact DecPost.no H hbel
            | some y =>
              refine (l01Value_yes s[2 * k + 1] y _ hy).mono ?_
              rintro e w' ⟨rfl, rfl⟩
              go_wp2
              go_ret2
              exact DecPost.no H hbel
          | some x =>
            cases hy : hv s[2 * k + 1] with
            | none =>
              have H := decHex_none (unhexTo_bad (k := k) (.inr (ey.trans hy))) (by rw [HS.out]; exact hlt2)
              clear hev ex ey hun
              go_wp2_with fail
              refine (l01Value_yes s[2 * k] x _ hx).mono ?_
              rintro e w' ⟨rfl, rfl⟩
              go_wp2_with fail
              refine (l01Value_no s[2 * k + 1] _ hy).mono ?_
              rintro e w' ⟨rfl, rfl⟩
              go_wp2
              go_ret2
              exact DecPost.no H hbel
            | some y =>
              have hst2 := unhexTo_step hun (ex.trans hx) (ey.trans hy)
              have hx15 := hv_le hx
              have hy15 := hv_le hy
              have hlen := unhexTo_len hun
              have hlen' : out.length ≤ 1099511627000 := by omega
              obtain ⟨z, hz, hor⟩ : ∃ z : Nat, z = 16 * x + y ∧ 16 * (x : Int) + (y : Int) = (z : Int) := ⟨16 * x + y, rfl, by omega⟩
              have hz255 : z ≤ 255 := by omega
              rw [← hz] at hst2
              clear hz
              have HW := Lib.hid hown
              clear hev ex ey hun hlen hown
              go_wp2_with fail
              refine (l01Value_yes s[2 * k] x _ hx).mono ?_
              rintro e w' ⟨rfl, rfl⟩
              go_wp2_with fail
              refine (l01Value_yes s[2 * k + 1] y _ hy).mono ?_
              rintro e w' ⟨rfl, rfl⟩
              go_wp2_with (at_builtin; refine list_one rfl (.tmp 39) (.tmp 45) rfl w.heap.size _ _ rfl HW.out _ _ rfl hz255 hlen' hB ?_; intro v' w2 ho hg)
              go_roundw
              case rel => exact ⟨k + 1, by omega, by go_num, _, hst2, ho, (hbel.alloc hB _).grown hg (by simp; omega) (fun j hj => (HW.out.lt j hj).1), Nat.le_trans (by simp; omega) hg.size⟩
              case measure => simp [intOf]; omega
        · have hkk : k = s.data.toList.length / 2 := by rw [HS.out]; omega
          have H : decHex s.data.toList = some out := by unfold decHex; rw [if_neg (by rw [HS.out]; omega), ← hkk]; exact hun
          have hconv := hown.conv
          clear hkk hun hown
          go_wp2
          go_ret2
          exact DecPost.yes H hbel
    · have H : decHex s.data.toList = none := by unfold decHex; rw [hsz, if_pos (.inl (by omega))]
      have hob : ((s.size : Int) % 2 != 0) = true := by simp; omega
      clear hsz
      go_enter Try.func20, Try.ntmps20
      go_wp2
      go_ret2
      exact DecPost.no H (Below.refl _ _)

set_option linter.unusedVariables false
set_option maxHeartbeats 400000 in
theorem walk_FnExactDecodeHex (s : ByteArray) (w : World) (ws : s.size ≤ maxLen) :
    Calls Try.prog 6 #[.string s] w fun e w' => e = .returned (.bool true) ∧ Below w.heap.size w w' := by
  unfold maxLen at ws
  by_cases hs : 1048576 < s.size
  · go_enter Try.func6, Try.ntmps6
    go_wp2
    go_ret
    exact ⟨rfl, Below.refl _ _⟩
  · go_enter Try.func6, Try.ntmps6
    go_wp2_with fail
    refine (specDecodeHex_any s _ (by omega)).mono ?_
    rintro e w1 ⟨rfl, hb⟩
    generalize ho : (decHex s.data.toList).getD [] = out
    generalize hk : (decHex s.data.toList).isSome = ok
    have HO := Lib.hid ho
    have HK := Lib.hid hk
    clear ho hk
    go_wp2_with fail
    refine (decodeHex_any s _ (by omega)).mono ?_
    rintro e w2 ⟨he2, hb2⟩
    rw [HO.out, HK.out] at he2
    subst he2
    go_wp2
    go_ret
    exact ⟨rfl, hb.trans (hb2.mono hb.size)⟩
end Go.Proofs.Ytakephomkapmjaa
