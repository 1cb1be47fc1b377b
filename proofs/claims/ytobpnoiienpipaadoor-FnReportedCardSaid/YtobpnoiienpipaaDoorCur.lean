/-
  What is proved: the cursor that the laws draw their arguments with: what its functions answer, and that they write into its own block alone.
  Conditions: the cursor's block holds a cursor.
-/
import Derived.Test.YtobpnoiienpipaaDoorRows
import Derived.WalkKit
import Derived.WalkSpells
import Derived.Below
import Derived.Lib.Hide
import Derived.Laws.AppendOwn
import Derived.Lib.BufferWrite
import Derived.Lib.BufferOwn
import Derived.RegionTactic
import Derived.Deep.QuietTactic
import Derived.BigQuiet
namespace Go.Proofs.YtobpnoiienpipaaDoor
set_option linter.unusedVariables false
open Go.RowKit

/-- The bytes that a cursor reads can be read. -/
def Src (w : World) (b : Nat) (a : Option Addr) (len cap : Nat) : Prop :=
  len ≤ 1099511627776 ∧ ∀ i, i < len → ∃ g off z : Nat, a = some ⟨g, off, none⟩ ∧ g < b ∧ z ≤ 255 ∧ w.cell? ⟨g, off + i, none⟩ = some (.int .u8 (z : Int))
/-- Block b holds a cursor. -/
def Cur (w : World) (b : Nat) : Prop :=
  ∃ (a : Option Addr) (len cap i : Nat) (h : Int), Src w b a len cap ∧ i ≤ len ∧ -9223372036854775808 ≤ h ∧ h ≤ 9223372036854775807 ∧
    w.heap[b]? = some (.cells #[.slice a len cap, .int .i64 (i : Int), .int .i64 h] 84 (0, 0))


theorem heap_set {w : World} {b i : Nat} {c : Array Value} {t : TypeId} {v : Value} (h : w.heap[b]? = some (.cells c t (0, 0))) : (w.setCell ⟨b, i, none⟩ v).heap[b]? = some (.cells (c.setIfInBounds i v) t (0, 0)) := by
  simp [World.setCell, Array.getElem?_modify, h]
theorem Src.grown {w w' : World} {b : Nat} {a : Option Addr} {len cap : Nat} (h : Src w b a len cap) (hg : w.grownBy w' (some b)) : Src w' b a len cap := by
  refine ⟨h.1, fun i hi => ?_⟩
  obtain ⟨g, off, z, h1, h2, h4, h5⟩ := h.2 i hi
  exact ⟨g, off, z, h1, h2, h4, hg.cell h5 (by simp; omega)⟩
/-- What stands in the cursor's block. -/
structure CurF (w : World) (b : Nat) (a : Option Addr) (len cap : Nat) (i : Nat) (h : Int) : Prop where
  c0 : w.cell? ⟨b, 0, none⟩ = some (.slice a len cap)
  c1 : w.cell? ⟨b, 1, none⟩ = some (.int .i64 (i : Int))
  c2 : w.cell? ⟨b, 2, none⟩ = some (.int .i64 h)
  f1 : w.frozen? ⟨b, 1, none⟩ = false
  f2 : w.frozen? ⟨b, 2, none⟩ = false
theorem curF {w : World} {b : Nat} {a : Option Addr} {len cap i : Nat} {h : Int} {t : TypeId} (hb : w.heap[b]? = some (.cells #[.slice a len cap, .int .i64 (i : Int), .int .i64 h] t (0, 0))) : CurF w b a len cap i h :=
  ⟨by simp [World.cell?, hb], by simp [World.cell?, hb], by simp [World.cell?, hb], by simp [World.frozen?, hb], by simp [World.frozen?, hb]⟩
theorem wrap_rng (x : Int) : -9223372036854775808 ≤ wrap64 x ∧ wrap64 x ≤ 9223372036854775807 := by unfold wrap64; omega

theorem and_mask (x : Int) (m : Nat) (hm : m ≤ 1099511627776) : ∃ n : Nat, n ≤ m ∧ bits .and .i64 x (m : Int) = (n : Int) := by
  have h2 : (BitVec.ofInt 64 (m : Int)).toNat = m := by
    rw [BitVec.ofInt_natCast, BitVec.toNat_ofNat]; exact Nat.mod_eq_of_lt (by omega)
  have h3 : (BitVec.ofInt 64 x &&& BitVec.ofInt 64 (m : Int)).toNat ≤ m := by
    rw [BitVec.toNat_and, h2]; exact Nat.and_le_right
  refine ⟨_, h3, ?_⟩
  show IntKind.i64.wrap ((BitVec.ofInt 64 x &&& BitVec.ofInt 64 (m : Int)).toNat : Int) = _
  exact IntWalk.i64_in _ (by omega)
theorem grownN {w w' : World} {row : Option Nat} (h : w.grownBy w' row) (n : Nat) : w.grownBy (w'.drewN n) row := ⟨h.os, h.tape, h.output, h.size, h.block⟩

def BytePost (b : Nat) (w : World) (e : Ending) (w' : World) : Prop :=
  ∃ x : Nat, x ≤ 255 ∧ e = .returned (.int .i64 (x : Int)) ∧ Cur w' b ∧ w.grownBy w' (some b)
theorem BytePost.mk {b : Nat} {w w' : World} {x : Nat} (hx : x ≤ 255) (hc : Cur w' b) (hg : w.grownBy w' (some b)) : BytePost b w (.returned (.int .i64 (x : Int))) w' := ⟨x, hx, rfl, hc, hg⟩
theorem Cur.next {w1 : World} {b : Nat} {a : Option Addr} {len cap i : Nat} {v h : Int} (hs : Src w1 b a len cap) (hil : i < len) (h0 : -9223372036854775808 ≤ v) (h1 : v ≤ 9223372036854775807)
    (hb : w1.heap[b]? = some (.cells (#[Value.slice a len cap, .int .i64 (i : Int), .int .i64 h].setIfInBounds 2 (.int .i64 v)) 84 (0, 0))) (n : Nat) :
    Cur ((w1.drewN n).setCell ⟨b, 1, none⟩ (.int .i64 ((i : Int) + 1))) b := by
  have hg : w1.grownBy ((w1.drewN n).setCell ⟨b, 1, none⟩ (.int .i64 ((i : Int) + 1))) (some b) := (grownN (World.grownBy.refl w1 (some b)) n).trans (Lib.grownBy_setCell _ _ _ _)
  exact ⟨a, len, cap, i + 1, v, hs.grown hg, hil, h0, h1, heap_set (w := w1.drewN n) hb⟩
theorem Cur.drewN {w : World} {b : Nat} (h : Cur w b) (n : Nat) : Cur (w.drewN n) b := h

set_option maxHeartbeats 1000000 in
theorem l01Byte_any (b : Nat) (w : World) (hc : Cur w b) :
    Calls Tryd.prog 70 #[.pointer (some ⟨b, 0, none⟩)] w fun e w' => BytePost b w e w' := by
  obtain ⟨a, len, cap, i, h, hsrc, hi, h0, h1, hblk⟩ := hc
  obtain ⟨c0, c1, c2, f1, f2⟩ := curF hblk
  have HB := Lib.hid hblk
  clear hblk
  have HS := Lib.hid hsrc
  clear hsrc
  go_enter Tryd.func70, Tryd.ntmps70
  go_wp2
  generalize hv : wrap64 (wrap64 (h * 6364136223846793005) + 1442695040888963407) = v
  have hvr := wrap_rng (wrap64 (h * 6364136223846793005) + 1442695040888963407)
  rw [hv] at hvr
  have hb1 := heap_set (i := 2) (v := .int .i64 v) HB.out
  have hg1 := Lib.grownBy_setCell w b 2 (.int .i64 v)
  generalize w.setCell ⟨b, 2, none⟩ (.int .i64 v) = w1 at *
  generalize wrap64 (h * 6364136223846793005) = hm at *
  clear hv c0 c1 c2 f1 f2
  obtain ⟨c0, c1, c2, f1, f2⟩ := curF (i := i) (h := v) (a := a) (len := len) (cap := cap) hb1
  have HB1 := Lib.hid hb1
  clear hb1
  go_quiet (fail)
  generalize bits .xor .i64 (v / 8589934592) (v / 35184372088832) = y
  obtain ⟨x, hx, hxe⟩ := and_mask y 255 (by decide)
  simp only [Int.cast_ofNat_Int] at hxe
  rw [hxe]
  clear hxe
  have HS1 := Lib.hid (HS.out.grown hg1)
  have HG := Lib.hid hg1
  clear hg1 HS HB
  by_cases hil : i < len
  · have hlen := HS1.out.1
    obtain ⟨g, off, z, rfl, hgb, hz, hcz⟩ := HS1.out.2 i hil
    · go_wp2
      go_quiet (fail)
      go_wp2
      go_quiet (fail)
      obtain ⟨x2, hx2, hxe2⟩ := and_mask (x + z : Int) 255 (by decide)
      simp only [Int.cast_ofNat_Int] at hxe2
      rw [hxe2]
      clear hxe2
      go_wp2
      go_ret
      exact BytePost.mk hx2 (Cur.next HS1.out hil hvr.1 hvr.2 HB1.out _) (HG.out.trans ((grownN (World.grownBy.refl w1 (some b)) _).trans (Lib.grownBy_setCell _ _ _ _)))
  · go_wp2
    go_quiet (fail)
    go_wp2
    go_ret
    exact BytePost.mk hx ⟨_, _, _, i, v, HS1.out, hi, hvr.1, hvr.2, HB1.out⟩ (grownN (grownN HG.out _) _)

theorem sum_cast (x y z u m : Nat) : ((x : Int) * 16777216 + (y : Int) * 65536 + (z : Int) * 256 + (u : Int)) % (m : Int) = (((x * 16777216 + y * 65536 + z * 256 + u) % m : Nat) : Int) := by
  rw [Int.natCast_emod]
  congr 1
def BelowPost (b : Nat) (n : Int) (w : World) (e : Ending) (w' : World) : Prop :=
  ∃ x : Nat, (0 < n → (x : Int) < n) ∧ (n ≤ 0 → x = 0) ∧ e = .returned (.int .i64 (x : Int)) ∧ Cur w' b ∧ w.grownBy w' (some b)
theorem BelowPost.mk {b : Nat} {n v : Int} {w w' : World} (x : Nat) (hv : v = (x : Int)) (h1 : 0 < n → (x : Int) < n) (h2 : n ≤ 0 → x = 0) (hc : Cur w' b) (hg : w.grownBy w' (some b)) : BelowPost b n w (.returned (.int .i64 v)) w' := ⟨x, h1, h2, by rw [hv], hc, hg⟩

set_option maxHeartbeats 1000000 in
theorem l01Below_any (b : Nat) (n : Int) (w : World) (hc : Cur w b) (h0 : -9223372036854775808 ≤ n) (h1 : n ≤ 9223372036854775807) :
    Calls Tryd.prog 43 #[.pointer (some ⟨b, 0, none⟩), .int .i64 n] w fun e w' => BelowPost b n w e w' := by
  by_cases hn : n ≤ 0
  · go_enter Tryd.func43, Tryd.ntmps43
    go_wp2
    go_ret
    exact BelowPost.mk 0 rfl (fun h => by omega) (fun _ => rfl) hc (World.grownBy.refl _ _)
  · obtain ⟨m, rfl⟩ := Int.eq_ofNat_of_zero_le (show 0 ≤ n by omega)
    by_cases h256 : m ≤ 256
    · have HB := Lib.hid (l01Byte_any b w hc)
      go_enter Tryd.func43, Tryd.ntmps43
      go_wp2_with fail
      refine HB.out.mono ?_
      rintro e w1 ⟨x, hx, rfl, hc1, hg1⟩
      go_wp2
      go_ret
      exact BelowPost.mk (x % m) (Int.natCast_emod _ _).symm (fun _ => by have := Nat.mod_lt x (show 0 < m by omega); omega) (fun h => by omega) hc1 hg1
    · go_enter Tryd.func43, Tryd.ntmps43
      go_wp2_with fail
      refine (l01Byte_any b _ hc).mono ?_
      rintro e w1 ⟨x, hx, rfl, hc1, hg1⟩
      go_wp2_with fail
      refine (l01Byte_any b _ hc1).mono ?_
      rintro e w2 ⟨y, hy, rfl, hc2, hg2⟩
      go_wp2_with fail
      refine (l01Byte_any b _ hc2).mono ?_
      rintro e w3 ⟨z, hz, rfl, hc3, hg3⟩
      go_wp2_with fail
      refine (l01Byte_any b _ hc3).mono ?_
      rintro e w4 ⟨u, hu, rfl, hc4, hg4⟩
      go_wp2
      go_ret
      exact BelowPost.mk ((x * 16777216 + y * 65536 + z * 256 + u) % m) (sum_cast x y z u m) (fun _ => by have := Nat.mod_lt (x * 16777216 + y * 65536 + z * 256 + u) (show 0 < m by omega); omega) (fun h => by omega) hc4 (((hg1.trans hg2).trans hg3).trans hg4)

def OncePost (b : Nat) (w : World) (e : Ending) (w' : World) : Prop :=
  ∃ t : Bool, e = .returned (.bool t) ∧ Cur w' b ∧ w.grownBy w' (some b)
theorem OncePost.mk {b : Nat} {w w' : World} {t : Bool} (hc : Cur w' b) (hg : w.grownBy w' (some b)) : OncePost b w (.returned (.bool t)) w' := ⟨t, rfl, hc, hg⟩
theorem l01Once_any (b : Nat) (n : Int) (w : World) (hc : Cur w b) (h0 : -9223372036854775808 ≤ n) (h1 : n ≤ 9223372036854775807) :
    Calls Tryd.prog 102 #[.pointer (some ⟨b, 0, none⟩), .int .i64 n] w fun e w' => OncePost b w e w' := by
  have HB := Lib.hid (l01Below_any b n w hc h0 h1)
  clear h0 h1
  go_enter Tryd.func102, Tryd.ntmps102
  go_wp2_with fail
  refine HB.out.mono ?_
  rintro e w1 ⟨x, _, _, rfl, hc1, hg1⟩
  go_wp2
  go_ret
  exact OncePost.mk hc1 hg1

/-- A number of 64 bits with the property P. -/
def NumPost (P : Int → Prop) (b : Nat) (w : World) (e : Ending) (w' : World) : Prop :=
  ∃ x : Int, P x ∧ e = .returned (.int .i64 x) ∧ Cur w' b ∧ w.grownBy w' (some b)
theorem NumPost.mk {P : Int → Prop} {b : Nat} {w w' : World} {x : Int} (h : P x) (hc : Cur w' b) (hg : w.grownBy w' (some b)) : NumPost P b w (.returned (.int .i64 x)) w' := ⟨x, h, rfl, hc, hg⟩
/-- Block g holds n numbers with the property P. -/
def Nums (P : Int → Prop) (w : World) (g n : Nat) : Prop := ∀ j, j < n → ∃ z : Int, P z ∧ w.cell? ⟨g, j, none⟩ = some (.int .i64 z)
theorem Nums.lit {P : Int → Prop} (w : World) (t : TypeId) (zs : List Int) (h : ∀ z ∈ zs, P z) : Nums P (w.alloc (.cells (zs.map (Value.int .i64)).toArray t)) w.heap.size zs.length := by
  intro j hj
  refine ⟨zs[j], h _ (List.getElem_mem hj), ?_⟩
  rw [World.cell?_alloc_at (hn := rfl)]
  simp [hj]
theorem Cur.lt {w : World} {b : Nat} (h : Cur w b) : b < w.heap.size := by
  obtain ⟨_, _, _, _, _, _, _, _, _, hb⟩ := h
  exact (Array.getElem?_eq_some_iff.1 hb).1
theorem Cur.grown {w w' : World} {b : Nat} {row : Option Nat} (h : Cur w b) (hg : w.grownBy w' row) (hr : ∀ r, row = some r → b < r) : Cur w' b := by
  have hlt := h.lt
  obtain ⟨a, len, cap, i, v, hs, hi, h0, h1, hb⟩ := h
  have key : ∀ k, k ≤ b → w'.heap[k]? = w.heap[k]? := fun k hk => hg.block k (by omega) (fun e => by have := hr k e.symm; omega)
  refine ⟨a, len, cap, i, v, ⟨hs.1, fun j hj => ?_⟩, hi, h0, h1, by rw [key b (Nat.le_refl _)]; exact hb⟩
  obtain ⟨g, off, z, h1, h2, h4, h5⟩ := hs.2 j hj
  exact ⟨g, off, z, h1, h2, h4, by rw [World.cell?_of_block (key g (by show g ≤ b; omega))]; exact h5⟩
theorem Cur.alloc {w : World} {b : Nat} (h : Cur w b) (o : Obj) : Cur (w.alloc o) b := h.grown (World.grownBy_alloc w o none) (fun _ h => by cases h)

set_option maxHeartbeats 1000000 in
theorem l01PickInt_any (P : Int → Prop) (b g n cap : Nat) (w : World) (hc : Cur w b) (hn : 0 < n) (hn2 : n ≤ 1000) (hgb : g ≠ b) (hcap : n ≤ cap) (hl : Nums P w g n) :
    Calls Tryd.prog 101 #[.pointer (some ⟨b, 0, none⟩), .slice (some ⟨g, 0, none⟩) n cap] w fun e w' => NumPost P b w e w' := by
  have HL := Lib.hid hl
  clear hl
  go_enter Tryd.func101, Tryd.ntmps101
  go_wp2_with fail
  refine (l01Below_any b _ _ hc (by omega) (by omega)).mono ?_
  rintro e w1 ⟨x, hx, _, rfl, hc1, hg1⟩
  have hxn : x < n := by have := hx (by omega); omega
  obtain ⟨z, hz, hcz⟩ := HL.out x hxn
  have hcz1 := hg1.cell hcz (by simpa using hgb)
  clear hcz hx
  go_wp2
  go_ret
  exact NumPost.mk hz hc1 hg1
def I64 (x : Int) : Prop := -9223372036854775808 ≤ x ∧ x ≤ 9223372036854775807

set_option maxHeartbeats 1000000 in
theorem l01Number_any (b : Nat) (w : World) (hc : Cur w b) :
    Calls Tryd.prog 77 #[.pointer (some ⟨b, 0, none⟩)] w fun e w' => NumPost I64 b w e w' := by
  go_enter Tryd.func77, Tryd.ntmps77
  go_wp2_with fail
  refine (l01Below_any b _ _ hc (by omega) (by omega)).mono ?_
  rintro e w1 ⟨x, hx, _, rfl, hc1, hg1⟩
  by_cases h0 : x = 0
  · subst h0
    have HN := Lib.hid (Nums.lit (P := I64) w1 3 [-1, 0, 127, 128, 16383, 16384, 1000000000, 1000000001, 9223372036854775807, -9223372036854775808] (by unfold I64; decide))
    go_wp2_with fail
    refine (l01PickInt_any I64 b _ 10 10 _ (hc1.alloc _) (by decide) (by decide) (by have := hc1.lt; omega) (by decide) HN.out).mono ?_
    rintro e w2 ⟨z, hz, rfl, hc2, hg2⟩
    go_wp2
    go_ret
    exact NumPost.mk hz hc2 (hg1.trans ((World.grownBy_alloc w1 _ _).trans hg2))
  · by_cases h1 : x = 1
    · subst h1
      go_wp2_with fail
      refine (l01Below_any b _ _ hc1 (by omega) (by omega)).mono ?_
      rintro e w2 ⟨z, hz, _, rfl, hc2, hg2⟩
      have HZ : Hid (I64 (z : Int)) := Lib.hid ⟨by omega, by have := hz (by decide); omega⟩
      clear hz
      go_wp2
      go_ret
      exact NumPost.mk HZ.out hc2 (hg1.trans hg2)
    · have hb0 : ((x : Int) == 0) = false := by simp; omega
      have hb1 : ((x : Int) == 1) = false := by simp; omega
      clear h0 h1
      go_wp2_with fail
      refine (l01Below_any b _ _ hc1 (by omega) (by omega)).mono ?_
      rintro e w2 ⟨z, hz, _, rfl, hc2, hg2⟩
      have HZ : Hid (I64 (z : Int)) := Lib.hid ⟨by omega, by have := hz (by decide); omega⟩
      clear hz
      go_wp2
      go_ret
      exact NumPost.mk HZ.out hc2 (hg1.trans hg2)

/-- WHAT THE WALK IS TOLD OF A SLICE OF INTEGERS THAT CAME IN. -/
def IsRow (k : IntKind) (w : World) (a : Option Addr) (len cap : Nat) (zs : List Int) : Prop :=
  (a = none ∧ len = 0 ∧ cap = 0 ∧ zs = []) ∨
  ∃ x, a = some x ∧ len ≤ cap ∧ cap ≤ maxLen ∧ zs.length = cap ∧ (∀ i, i < zs.length → w.cell? (x.add i) = some (.int k (zs.getD i 0))) ∧ ∀ n ∈ zs, (Lit.int k n).wf = true
theorem IsRow.src {w : World} {a : Option Addr} {len cap : Nat} {zs : List Int} (h : IsRow .u8 w a len cap zs) (hl : len ≤ 1099511627776) : Src w w.heap.size a len cap := by
  refine ⟨hl, fun i hi => ?_⟩
  rcases h with ⟨rfl, rfl, rfl, rfl⟩ | ⟨⟨g, off, spot⟩, rfl, hl, hm, hz, hcell, hwf⟩
  · omega
  · have hc := hcell i (by omega)
    have hspot : spot = none := by simpa [Addr.add] using World.cell?_spot (hcell 0 (by omega))
    subst hspot
    have hadd : (⟨g, off, none⟩ : Addr).add i = ⟨g, off + i, none⟩ := by unfold Addr.add; split <;> simp_all
    rw [hadd] at hc
    have hlt := World.block_lt_of_cell? w _ hc
    have hg : g < w.heap.size := hlt
    have h2 := hwf (zs.getD i 0) (by rw [List.getD_eq_getElem?_getD, List.getElem?_eq_getElem (by omega)]; exact List.getElem_mem _)
    have h3 : 0 ≤ zs.getD i 0 ∧ zs.getD i 0 ≤ 255 := by
      generalize zs.getD i 0 = x at h2
      simpa [Lit.wf, IntKind.min, IntKind.max, IntKind.signed, IntKind.bits] using h2
    obtain ⟨z, hz⟩ := Int.eq_ofNat_of_zero_le h3.1
    exact ⟨g, off, z, rfl, hg, by omega, by rw [hc, hz]⟩

def NewPost (w : World) (e : Ending) (w' : World) : Prop := e = .returned (.pointer (some ⟨w.heap.size, 0, none⟩)) ∧ Cur w' w.heap.size ∧ w.grownBy w' none
theorem NewPost.mk {w : World} {a : Option Addr} {len cap : Nat} {v : Int} (hs : Src w w.heap.size a len cap) (h0 : -9223372036854775808 ≤ v) (h1 : v ≤ 9223372036854775807) :
    NewPost w (.returned (.pointer (some ⟨w.heap.size, 0, none⟩))) (w.alloc (.cells #[.slice a len cap, .int .i64 0, .int .i64 v] 84)) := by
  refine ⟨rfl, ⟨a, len, cap, 0, v, hs.grown (World.grownBy_alloc _ _ _), Nat.zero_le _, h0, h1, heap_alloc_new w _⟩, World.grownBy_alloc _ _ _⟩
set_option maxHeartbeats 1000000 in
set_option maxRecDepth 100000 in
theorem l01New_any (a : Option Addr) (len cap : Nat) (w : World) (hs : Src w w.heap.size a len cap) :
    Calls Tryd.prog 41 #[.slice a len cap] w fun e w' => NewPost w e w' := by
  have HS := Lib.hid hs
  have hlen := hs.1
  clear hs
  go_enter Tryd.func41, Tryd.ntmps41
  go_wp2
  go_loop [3, 4] (fun h i => ∃ (v : Int) (k : Nat), 0 ≤ v ∧ v ≤ 1099511700000 ∧ k ≤ len ∧ h = .int .i64 v ∧ i = .int .i64 k) (fun _ i => len - (intOf i).toNat)
  case atStart => exact ⟨_, 0, by omega, by omega, by omega, rfl, rfl⟩
  case round =>
    obtain ⟨v, k, h0, h1, hk, rfl, rfl⟩ := hrel
    by_cases hlt : k < len
    · by_cases h4 : k < 4000
      · obtain ⟨g, off, z, rfl, hgb, hz, hcz⟩ := HS.out.2 k hlt
        · go_wp2
          obtain ⟨m, hm, hme⟩ := and_mask (v * 131 + z + 7) 1073741823 (by decide)
          simp only [Int.cast_ofNat_Int] at hme
          rw [hme]
          clear hme
          exact ⟨⟨m, k + 1, by omega, by omega, by omega, rfl, by go_num⟩, by simp only [intOf]; omega⟩
      · have hk4 : decide ((k : Int) < 4000) = false := by simp; omega
        go_wp2
        go_ret
        exact NewPost.mk HS.out (by omega) (by omega)
    · go_wp2
      go_ret
      exact NewPost.mk HS.out (by omega) (by omega)
end Go.Proofs.YtobpnoiienpipaaDoor
