/-
  What is proved: the walks of the functions of chapter 1 that write and read hexadecimal text.
  Conditions: the argument is a string of at most 1048576 bytes.
-/
import Derived.Test.YtakephomkapmjaaDoorNum
import Derived.Test.YtakephomkapmjaaDoorBytes
import Derived.StillTailTactics
import Derived.Deep.RegionLaw
import Derived.Deep.RegionLawGrows
import Derived.BigQuiet
namespace Go.Proofs.YtakephomkapmjaaDoor
set_option linter.unusedVariables false
open Go.RowKit

def fig (x : Nat) : Nat := if x < 10 then 48 + x else 87 + x
theorem fig_lo {x : Nat} (h : x < 10) : fig x = 48 + x := by simp [fig, h]
theorem fig_hi {x : Nat} (h : ¬ x < 10) : fig x = 87 + x := by simp [fig, h]

theorem hexDigit_any (z : Int) (w : World) (h0 : 0 ≤ z) (hz : z ≤ 15) :
    Calls Tryd.prog 36 #[.int .u8 z] w fun e w' => e = .returned (.int .u8 (fig z.toNat)) ∧ w = w' := by
  obtain ⟨x, rfl⟩ := Int.eq_ofNat_of_zero_le h0
  rw [Int.toNat_natCast]
  have h1 : x ≤ 15 := by omega
  clear h0 hz
  by_cases hx : x < 10
  · go_enter Tryd.func36, Tryd.ntmps36
    go_wp2
    go_ret
    exact ⟨ret_int (by rw [fig_lo hx]; simp [IntKind.wrap]), rfl⟩
  · go_enter Tryd.func36, Tryd.ntmps36
    go_wp2
    go_ret
    exact ⟨ret_int (by rw [fig_hi hx]; simp [IntKind.wrap]; omega), rfl⟩


/-- The hexadecimal text of a list of bytes. -/
def hexOf (l : List UInt8) : List UInt8 := l.flatMap fun b => [UInt8.ofNat (fig (b.toNat / 16)), UInt8.ofNat (fig (b.toNat % 16))]
theorem fig_le {x : Nat} (h : x ≤ 15) : fig x ≤ 255 := by unfold fig; split <;> omega
theorem hexOf_snoc (l : List UInt8) (b : UInt8) : hexOf (l ++ [b]) = hexOf l ++ [UInt8.ofNat (fig (b.toNat / 16)), UInt8.ofNat (fig (b.toNat % 16))] := by simp [hexOf]
theorem hexOf_len (l : List UInt8) : (hexOf l).length = 2 * l.length := by
  induction l with
  | nil => rfl
  | cons c r ih => rw [show c :: r = [c] ++ r from rfl, hexOf, List.flatMap_append, List.length_append, List.length_append]; rw [← hexOf, ← hexOf, ih]; simp [hexOf]; omega
/-- What EncodeHex answers. -/
def HexPost (l : List UInt8) (w : World) (e : Ending) (w' : World) : Prop :=
  e = .returned (.tuple #[.string ⟨(if 20000 < l.length then [] else hexOf l).toArray⟩, .bool (!decide (20000 < l.length))]) ∧ Below w.heap.size w w'
theorem HexPost.no {s : ByteArray} {w w' : World} (h : 20000 < s.size) (hb : Below w.heap.size w w') : HexPost s.data.toList w (.returned (.tuple #[.string ⟨#[]⟩, .bool false])) w' := by
  refine ⟨?_, hb⟩
  have e : s.data.toList.length = s.size := by simp
  rw [e, if_pos h, decide_eq_true h]; rfl
theorem HexPost.yes {s : ByteArray} {w w' : World} (h : ¬ 20000 < s.size) (hb : Below w.heap.size w w') : HexPost s.data.toList w (.returned (.tuple #[.string ⟨(hexOf s.data.toList).toArray⟩, .bool true])) w' := by
  refine ⟨?_, hb⟩
  have e : s.data.toList.length = s.size := by simp
  rw [e, if_neg h, decide_eq_false h]; rfl
/-- The loop's state. -/
def HexAt (l : List UInt8) (base k : Nat) (v : Value) (w0 w : World) : Prop := OwnB w base v (hexOf (l.take k)) ∧ Below base w0 w ∧ base ≤ w.heap.size
theorem HexAt.step {s : ByteArray} {base k : Nat} {v v' : Value} {w0 w w1 w' : World} (h : HexAt s.data.toList base k v w0 w) (hk : k < s.size) (h1 : Below base w w1) (h2 : base ≤ w1.heap.size)
    (ho : OwnB w' base v' (hexOf (s.data.toList.take k) ++ bts [(fig (s[k].toNat / 16) : Int), (fig (s[k].toNat % 16) : Int)])) (hg : w1.grownBy w' v.ownBlock) : HexAt s.data.toList base (k + 1) v' w0 w' := by
  have hlt : k < s.data.toList.length := by simpa using hk
  refine ⟨?_, (h.2.1.trans h1).grown hg h2 (fun j hj => (h.1.lt j hj).1), Nat.le_trans h2 hg.size⟩
  rw [List.take_succ_eq_append_getElem hlt, hexOf_snoc]
  exact ho

theorem and15_fin : ∀ x : Fin 256, bits BinOp.and IntKind.u8 (x.val : Int) 15 = ((x.val % 16 : Nat) : Int) := by decide +kernel
theorem and15 (c : UInt8) : bits BinOp.and IntKind.u8 (c.toNat : Int) 15 = ((c.toNat % 16 : Nat) : Int) := and15_fin ⟨c.toNat, c.toNat_lt⟩
set_option maxHeartbeats 1000000 in
set_option maxRecDepth 100000 in
theorem encodeHex_any (s : ByteArray) (w : World) (hs : s.size ≤ 1048576) :
    Calls Tryd.prog 13 #[.string s] w fun e w' => HexPost s.data.toList w e w' := by
  by_cases hbig : 20000 < s.size
  · go_enter Tryd.func13, Tryd.ntmps13
    go_wp2
    go_ret2
    exact HexPost.no hbig (Below.refl _ _)
  · obtain ⟨w1, hmk, hown, hgr, hsz⟩ := run_make_bytes w w.heap.size (2 * s.size) .i64 (by omega) (Nat.le_refl _)
    have ec : ((2 * s.size : Nat) : Int) = 2 * (s.size : Int) := by omega
    rw [ec] at hmk
    have hst : HexAt s.data.toList w.heap.size 0 (.slice (some ⟨w.heap.size, 0, none⟩) 0 (2 * s.size)) w w1 := ⟨by simpa [hexOf] using hown, (Below.refl _ _).grown hgr (Nat.le_refl _) (fun _ h => by cases h), by omega⟩
    clear hown hgr ec
    go_enter Tryd.func13, Tryd.ntmps13
    go_wp2
    clear hmk hsz
    go_loopw [4, 15] (fun v i wr => ∃ k : Nat, k ≤ s.size ∧ i = .int .i64 k ∧ HexAt s.data.toList w.heap.size k v w wr) (fun _ i _ => s.size - (intOf i).toNat)
    case atStart => exact ⟨0, Nat.zero_le _, rfl, hst⟩
    case round =>
      obtain ⟨k, hk, rfl, hat⟩ := hrel
      by_cases hlt : k < s.size
      · have hl : s[k].toNat ≤ 255 := by have := s[k].toNat_lt; omega
        go_wp2
        obtain ⟨hown, hbel, hB⟩ := hat
        have ha := and15 s[k]
        have HO := Lib.hid hown
        clear hown
        have hf1 := fig_le (x := (↑s[k].toNat / 16 : Int).toNat) (by omega)
        have hf2 := fig_le (x := (↑s[k].toNat % 16 : Int).toNat) (by omega)
        have hlen : (hexOf (s.data.toList.take k)).length ≤ 1099511627000 := by rw [hexOf_len, List.length_take]; omega
        go_region_law (first | (go_simp; go_at_call 36; refine (hexDigit_any _ _ (by omega) (by omega)).mono ?_; rintro e w' ⟨rfl, rfl⟩) | (refine step_two rfl (.tmp 18) (.tmp 29) rfl w.heap.size _ _ rfl HO.out _ _ _ rfl hf1 hf2 hlen hB ?_; intro v' w2 ho hg))
        all_goals
          have hfin := HexAt.step (s := s) ⟨HO.out, hbel, hB⟩ hlt ((Below.refl _ _).alloc hB _).drew (by simp; omega) ho hg
          clear ho hg
          go_wp2
          go_roundw
          case rel => exact ⟨k + 1, by omega, by go_num, hfin⟩
          case measure => simp [intOf]; omega
      · have hconv := hat.1.conv
        have hpost := hat.2.1
        have hkk : List.take k s.data.toList = s.data.toList := List.take_of_length_le (by simp; omega)
        rw [hkk] at hconv
        clear hat hkk
        go_wp2
        go_ret2
        exact HexPost.yes hbig hpost
end Go.Proofs.YtakephomkapmjaaDoor
