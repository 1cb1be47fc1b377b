/-
  What is proved: the walk of DecodeHex.
  Conditions: the argument is a string of at most 1048576 bytes.
-/
import Derived.Test.YtakephomkapmjaaDoorHex
namespace Go.Proofs.YtakephomkapmjaaDoor
set_option linter.unusedVariables false
open Go.RowKit

/-- The value of a hexadecimal digit. -/
def hv (c : UInt8) : Option Nat := if 48 ≤ c.toNat ∧ c.toNat ≤ 57 then some (c.toNat - 48) else if 97 ≤ c.toNat ∧ c.toNat ≤ 102 then some (c.toNat - 87) else none
theorem hv_le {c : UInt8} {x : Nat} (h : hv c = some x) : x ≤ 15 := by
  unfold hv at h
  split at h
  · cases h; omega
  · split at h
    · cases h; omega
    · cases h
theorem hv_none {c : UInt8} (h : hv c = none) : (c.toNat < 48 ∨ 57 < c.toNat) ∧ (c.toNat < 97 ∨ 102 < c.toNat) := by
  unfold hv at h
  split at h
  · cases h
  · split at h
    · cases h
    · omega
theorem hv_some {c : UInt8} {x : Nat} (h : hv c = some x) : (48 ≤ c.toNat ∧ c.toNat ≤ 57 ∧ x = c.toNat - 48) ∨ (97 ≤ c.toNat ∧ c.toNat ≤ 102 ∧ x = c.toNat - 87) := by
  unfold hv at h
  split at h
  · cases h; omega
  · split at h
    · cases h; omega
    · cases h
/-- What the first 2k digits stand for. -/
def unhexTo (l : List UInt8) : Nat → Option (List UInt8)
  | 0 => some []
  | k + 1 => (unhexTo l k).bind fun out => (hv (l.getD (2 * k) 0)).bind fun x => (hv (l.getD (2 * k + 1) 0)).map fun y => out ++ [UInt8.ofNat (16 * x + y)]
theorem unhexTo_step {l out : List UInt8} {k x y : Nat} (h : unhexTo l k = some out) (hx : hv (l.getD (2 * k) 0) = some x) (hy : hv (l.getD (2 * k + 1) 0) = some y) : unhexTo l (k + 1) = some (out ++ [UInt8.ofNat (16 * x + y)]) := by
  simp only [unhexTo, h, hx, hy, Option.bind_some, Option.map_some]
theorem unhexTo_bad {l : List UInt8} {k : Nat} (h : hv (l.getD (2 * k) 0) = none ∨ hv (l.getD (2 * k + 1) 0) = none) : unhexTo l (k + 1) = none := by
  simp only [unhexTo]
  cases unhexTo l k with
  | none => rfl
  | some out =>
    rcases h with h | h
    · rw [h]; rfl
    · rw [h]; simp
theorem unhexTo_none {l : List UInt8} {k : Nat} (h : unhexTo l k = none) : ∀ j, unhexTo l (k + j) = none
  | 0 => h
  | j + 1 => by
    show (unhexTo l (k + j)).bind _ = none
    rw [unhexTo_none h j]; rfl
theorem unhexTo_len {l : List UInt8} : ∀ {k : Nat} {out : List UInt8}, unhexTo l k = some out → out.length = k
  | 0, out, h => by simp only [unhexTo, Option.some.injEq] at h; subst h; rfl
  | k + 1, out, h => by
    simp only [unhexTo] at h
    cases hk : unhexTo l k with
    | none => rw [hk] at h; simp at h
    | some o =>
      rw [hk] at h
      cases hx : hv (l.getD (2 * k) 0) with
      | none => rw [hx] at h; simp at h
      | some x =>
        rw [hx] at h
        cases hy : hv (l.getD (2 * k + 1) 0) with
        | none => rw [hy] at h; simp at h
        | some y =>
          rw [hy] at h
          simp only [Option.bind_some, Option.map_some, Option.some.injEq] at h
          subst h
          simp [unhexTo_len hk]
def decHex (l : List UInt8) : Option (List UInt8) := if l.length % 2 ≠ 0 ∨ 40000 < l.length then none else unhexTo l (l.length / 2)
def DecPost (l : List UInt8) (w : World) (e : Ending) (w' : World) : Prop := e = .returned (.tuple #[.string ⟨((decHex l).getD []).toArray⟩, .bool (decHex l).isSome]) ∧ Below w.heap.size w w'
theorem DecPost.no {l : List UInt8} {w w' : World} (h : decHex l = none) (hb : Below w.heap.size w w') : DecPost l w (.returned (.tuple #[.string ⟨#[]⟩, .bool false])) w' := ⟨by rw [h]; rfl, hb⟩
theorem DecPost.yes {l out : List UInt8} {w w' : World} (h : decHex l = some out) (hb : Below w.heap.size w w') : DecPost l w (.returned (.tuple #[.string ⟨out.toArray⟩, .bool true])) w' := ⟨by rw [h]; rfl, hb⟩
theorem decHex_none {l : List UInt8} {k : Nat} (h : unhexTo l (k + 1) = none) (hk : 2 * k + 1 < l.length) : decHex l = none := by
  unfold decHex
  split
  · rfl
  · have := unhexTo_none h (l.length / 2 - (k + 1))
    rw [show k + 1 + (l.length / 2 - (k + 1)) = l.length / 2 by omega] at this
    exact this
/-- The loop's state. -/
def UnhexAt (l : List UInt8) (base k : Nat) (v : Value) (w0 w : World) : Prop := ∃ out, unhexTo l k = some out ∧ OwnB w base v out ∧ Below base w0 w ∧ base ≤ w.heap.size

theorem ret_ib {k : IntKind} {a b : Int} {t : Bool} (h : a = b) : Ending.returned (.tuple #[.int k a, .bool t]) = .returned (.tuple #[.int k b, .bool t]) := by rw [h]
theorem hexValue_yes (c : UInt8) (x : Nat) (w : World) (h : hv c = some x) :
    Calls Tryd.prog 38 #[.int .u8 c.toNat] w fun e w' => e = .returned (.tuple #[.int .u8 x, .bool true]) ∧ w = w' := by
  have hc := c.toNat_lt
  rcases hv_some h with ⟨h1, h2, rfl⟩ | ⟨h1, h2, rfl⟩
  · go_enter Tryd.func38, Tryd.ntmps38
    go_wp2
    go_ret2
    exact ⟨ret_ib (by omega), rfl⟩
  · go_enter Tryd.func38, Tryd.ntmps38
    go_wp2
    go_ret2
    exact ⟨ret_ib (by omega), rfl⟩
theorem hexValue_no (c : UInt8) (w : World) (h : hv c = none) :
    Calls Tryd.prog 38 #[.int .u8 c.toNat] w fun e w' => e = .returned (.tuple #[.int .u8 0, .bool false]) ∧ w = w' := by
  have hc := c.toNat_lt
  obtain ⟨h1, h2⟩ := hv_none h
  go_enter Tryd.func38, Tryd.ntmps38
  go_wp2
  all_goals first | (go_ret2; exact ⟨rfl, rfl⟩) | (exfalso; omega)

theorem or4_fin : ∀ x : Fin 16, ∀ y : Fin 16, bits BinOp.or IntKind.u8 ((x.val * 16 : Nat) : Int) (y.val : Int) = ((16 * x.val + y.val : Nat) : Int) := by decide +kernel
theorem getD_byte (s : ByteArray) (k : Nat) (h : k < s.size) : s.data.toList.getD k 0 = s[k] := by
  rw [byte_at' s k h, List.getD, List.getElem?_eq_getElem (by simpa using h)]; rfl

set_option maxHeartbeats 1000000 in
set_option maxRecDepth 100000 in
theorem decodeHex_any (s : ByteArray) (w : World) (hs : s.size ≤ 1048576) :
    Calls Tryd.prog 15 #[.string s] w fun e w' => DecPost s.data.toList w e w' := by
  have hsz : s.data.toList.length = s.size := by simp
  by_cases hodd : s.size % 2 = 0
  · by_cases hbig : 40000 < s.size
    · have H : decHex s.data.toList = none := by unfold decHex; rw [hsz, if_pos (.inr hbig)]
      clear hsz
      go_enter Tryd.func15, Tryd.ntmps15
      go_wp2
      go_ret2
      exact DecPost.no H (Below.refl _ _)
    · obtain ⟨w1, hmk, hown, hgr, hsz1⟩ := run_make_bytes w w.heap.size (s.size / 2) .i64 (by omega) (Nat.le_refl _)
      have ec : ((s.size / 2 : Nat) : Int) = (s.size : Int) / 2 := by omega
      rw [ec] at hmk
      have hst : UnhexAt s.data.toList w.heap.size 0 (.slice (some ⟨w.heap.size, 0, none⟩) 0 (s.size / 2)) w w1 := ⟨[], rfl, hown, (Below.refl _ _).grown hgr (Nat.le_refl _) (fun _ h => by cases h), by omega⟩
      have HS := Lib.hid hsz
      have hev : (s.size : Int) % 2 = 0 := by omega
      clear hown hgr ec hsz
      go_enter Tryd.func15, Tryd.ntmps15
      go_wp2
      clear hmk hsz1
      go_loopw [4, 5] (fun v i wr => ∃ k : Nat, 2 * k ≤ s.size ∧ i = .int .i64 (2 * k : Nat) ∧ UnhexAt s.data.toList w.heap.size k v w wr) (fun _ i _ => s.size - (intOf i).toNat)
      case atStart => exact ⟨0, Nat.zero_le _, rfl, hst⟩
      case round =>
        obtain ⟨k, hk, rfl, out, hun, hown, hbel, hB⟩ := hrel
        by_cases hlt : 2 * k < s.size
        · have hlt2 : 2 * k + 1 < s.size := by omega
          have ex := congrArg hv (getD_byte s _ hlt)
          have ey := congrArg hv (getD_byte s _ hlt2)
          cases hx : hv s[2 * k] with
          | none =>
            have H := decHex_none (unhexTo_bad (k := k) (.inl (ex.trans hx))) (by rw [HS.out]; exact hlt2)
            clear hev ex ey hun
            go_wp2_with fail
            refine (hexValue_no s[2 * k] _ hx).mono ?_
            rintro e w' ⟨rfl, rfl⟩
            go_wp2_with fail
            cases hy : hv s[2 * k + 1] with
            | none =>
              refine (hexValue_no s[2 * k + 1] _ hy).mono ?_
              rintro e w' ⟨rfl, rfl⟩
              go_wp2
              go_ret2
              exact DecPost.no H hbel
            | some y =>
              refine (hexValue_yes s[2 * k + 1] y _ hy).mono ?_
              rintro e w' ⟨rfl, rfl⟩
              go_wp2
              go_ret2
              exact DecPost.no H hbel
          | some x =>
            cases hy : hv s[2 * k + 1] with
            | none =>
              have H := decHex_none (unhexTo_bad (k := k) (.inr (ey.trans hy))) (by rw [HS.out]; exact hlt2)
              clear hev ex ey hun
              go_wp2_with fail
              refine (hexValue_yes s[2 * k] x _ hx).mono ?_
              rintro e w' ⟨rfl, rfl⟩
              go_wp2_with fail
              refine (hexValue_no s[2 * k + 1] _ hy).mono ?_
              rintro e w' ⟨rfl, rfl⟩
              go_wp2
              go_ret2
              exact DecPost.no H hbel
            | some y =>
              have hst2 := unhexTo_step hun (ex.trans hx) (ey.trans hy)
              have hx15 := hv_le hx
              have hy15 := hv_le hy
              obtain ⟨z, hz, hor⟩ : ∃ z : Nat, z = 16 * x + y ∧ bits BinOp.or IntKind.u8 ((x : Int) * 16) (y : Int) = (z : Int) := ⟨16 * x + y, rfl, by
                have := or4_fin ⟨x, by omega⟩ ⟨y, by omega⟩
                simpa using this⟩
              have hz255 : z ≤ 255 := by omega
              rw [← hz] at hst2
              clear hz
              have hlen := unhexTo_len hun
              have hlen' : out.length ≤ 1099511627000 := by omega
              have HW := Lib.hid hown
              clear hev ex ey hun hlen hown
              go_wp2_with fail
              refine (hexValue_yes s[2 * k] x _ hx).mono ?_
              rintro e w' ⟨rfl, rfl⟩
              go_wp2_with fail
              refine (hexValue_yes s[2 * k + 1] y _ hy).mono ?_
              rintro e w' ⟨rfl, rfl⟩
              go_wp2_with (at_builtin; refine list_one rfl (.tmp 50) (.tmp 55) rfl w.heap.size _ _ rfl HW.out _ _ rfl hz255 hlen' hB ?_; intro v' w2 ho hg)
              go_roundw
              case rel => exact ⟨k + 1, by omega, by go_num, _, hst2, ho, (hbel.alloc hB _).grown hg (by simp; omega) (fun j hj => (HW.out.lt j hj).1), Nat.le_trans (by simp; omega) hg.size⟩
              case measure => simp [intOf]; omega
        · have hkk : k = s.data.toList.length / 2 := by rw [HS.out]; omega
          have H : decHex s.data.toList = some out := by unfold decHex; rw [if_neg (by rw [HS.out]; omega), ← hkk]; exact hun
          have hconv := hown.conv
          clear hkk hun hown
          go_wp2
          go_ret2
          exact DecPost.yes H hbel
  · have H : decHex s.data.toList = none := by unfold decHex; rw [hsz, if_pos (.inl (by omega))]
    clear hsz
    go_enter Tryd.func15, Tryd.ntmps15
    go_wp2
    go_ret2
    exact DecPost.no H (Below.refl _ _)
end Go.Proofs.YtakephomkapmjaaDoor
