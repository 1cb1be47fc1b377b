/-
  What is proved: the walk of the law FnHexText.
  Conditions: the library's table of powers of ten holds what its initialiser lays.
-/
import Derived.Test.YtakephomkapmjaaDoorDrawS
import Derived.Test.YtakephomkapmjaaDoorItoa
import Derived.Test.YtakephomkapmjaaDoorHexBack
namespace Go.Proofs.YtakephomkapmjaaDoor
set_option linter.unusedVariables false
open Go.RowKit

theorem ba_eq' {a : List UInt8} {s : ByteArray} (h : a = s.data.toList) : (a == s.toList) = true := by rw [ByteArray.toList_eq]; simpa using h
theorem itoa_10 : Lib.itoa 10 = [49, 48] := by decide +kernel

set_option maxHeartbeats 1000000 in
theorem walk_FnHexText (a0 : Option Addr) (len0 cap0 : Nat) (z0 : List Int) (w : World) (w0 : IsRow .u8 w a0 len0 cap0 z0) (ht : Tab w) :
    Calls Tryd.prog 3 #[.slice a0 len0 cap0] w fun e w' => e = .returned (.bool true) ∧ Below w.heap.size w w' := by
  by_cases hbig : 1048576 < len0
  · have hbb : decide ((1048576 : Int) < len0) = true := by simp; omega
    have HB := Lib.hid (big_any a0 len0 cap0 w)
    rw [hbb] at HB
    clear hbb
    go_enter Tryd.func3, Tryd.ntmps3
    go_wp2_with fail
    refine HB.out.mono ?_
    rintro e w1 ⟨rfl, rfl⟩
    go_wp2
    go_ret
    exact ⟨rfl, Below.refl _ _⟩
  · have hbb : decide ((1048576 : Int) < len0) = false := by simp; omega
    have HB := Lib.hid (big_any a0 len0 cap0 w)
    rw [hbb] at HB
    have HD := Lib.hid (drawEncodeHex_any a0 len0 cap0 w (w0.src (by omega)))
    clear hbb w0
    go_enter Tryd.func3, Tryd.ntmps3
    go_wp2_with fail
    refine HB.out.mono ?_
    rintro e w1 ⟨rfl, rfl⟩
    go_wp2_with fail
    refine HD.out.mono ?_
    rintro e w1 ⟨s, hss, rfl, hbel⟩
    have he1 := encodeHex_any s w1 (by omega)
    unfold HexPost at he1
    have hsl : s.data.toList.length = s.size := by simp
    rw [hsl] at he1
    by_cases hlong : 20000 < s.size
    · rw [if_pos hlong, decide_eq_true hlong] at he1
      have HE := Lib.hid he1
      clear he1 hsl
      go_wp2_with fail
      refine HE.out.mono ?_
      clear HE
      rintro e w2 ⟨rfl, hb2⟩
      have hbz := hbel.trans (hb2.mono hbel.size)
      have h10 := formatInt_any 10 w2 (by decide) (by decide) (ht.below hbz)
      rw [itoa_10] at h10
      have H10 := Lib.hid h10
      clear h10 hbel hb2
      go_wp2_with fail
      refine H10.out.mono ?_
      rintro e w3 ⟨rfl, hb3⟩
      go_wp2
      go_ret
      exact ⟨rfl, hbz.trans (hb3.mono hbz.size)⟩
    · rw [if_neg hlong, decide_eq_false hlong] at he1
      have HE := Lib.hid he1
      have hlen := hexOf_len s.data.toList
      have hdec := decHex_hex s.data.toList (by omega)
      rw [hsl] at hlen
      have HPP := Lib.hid (fun W => decodeHex_any ⟨(hexOf s.data.toList).toArray⟩ W)
      clear he1 hsl
      generalize hexOf s.data.toList = t at *
      go_wp2_with fail
      refine HE.out.mono ?_
      clear HE
      rintro e w2 ⟨rfl, hb2⟩
      have hbz := hbel.trans (hb2.mono hbel.size)
      have hd : Calls Tryd.prog 15 #[.string ⟨t.toArray⟩] w2 fun e w' => DecPost t w2 e w' := HPP.out w2 (by show t.toArray.size ≤ _; simp; omega)
      unfold DecPost at hd
      rw [hdec] at hd
      simp only [Option.getD_some, Option.isSome_some] at hd
      have HL := Lib.hid hlen
      have hxe := ba_eq' (s := s) rfl
      generalize s.data.toList = u at hd hxe hdec
      have HD2 := Lib.hid hd
      have hsz : (t.length : Int) = 2 * (s.size : Int) := by have := HL.out; omega
      clear hd HPP hdec hlen hbel hb2
      go_wp2_with fail
      refine HD2.out.mono ?_
      rintro e w3 ⟨rfl, hb3⟩
      go_wp2
      go_ret
      exact ⟨rfl, hbz.trans (hb3.mono hbz.size)⟩
end Go.Proofs.YtakephomkapmjaaDoor
