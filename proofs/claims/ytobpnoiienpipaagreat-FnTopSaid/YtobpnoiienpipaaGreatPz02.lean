/-
  What is proved: the cursor that the laws draw their arguments with: what its functions answer, and that they write into its own block alone.
  Conditions: the cursor's block holds a cursor.
-/
import Derived.Test.YtobpnoiienpipaaGreatRows
import Derived.WalkKit
import Derived.WalkSpells
import Derived.Below
import Derived.Lib.Hide
import Derived.Laws.AppendOwn
import Derived.Lib.BufferWrite
import Derived.Lib.BufferOwn
import Derived.RegionTactic
import Derived.Deep.QuietTactic
import Derived.BigQuiet
import Derived.Test.YtobpnoiienpipaaGreatPz01
import Derived.Deep.RegionWith
import Derived.Laws.MakeOwn
import Derived.Laws.Rows
namespace Go.Proofs.YtobpnoiienpipaaGreat
set_option linter.unusedVariables false
open Go.RowKit

/-- The bytes that a cursor reads can be read. -/
def Src (w : World) (b : Nat) (a : Option Addr) (len cap : Nat) : Prop :=
  len ≤ 1099511627776 ∧ ∀ i, i < len → ∃ g off z : Nat, a = some ⟨g, off, none⟩ ∧ g < b ∧ z ≤ 255 ∧ w.cell? ⟨g, off + i, none⟩ = some (.int .u8 (z : Int))
/-- Block b holds a cursor. -/
def Cur (w : World) (b : Nat) : Prop :=
  ∃ (a : Option Addr) (len cap i : Nat) (h : Int), Src w b a len cap ∧ i ≤ len ∧ -9223372036854775808 ≤ h ∧ h ≤ 9223372036854775807 ∧
    w.heap[b]? = some (.cells #[.slice a len cap, .int .i64 (i : Int), .int .i64 h] 84 (0, 0))


theorem heap_set {w : World} {b i : Nat} {c : Array Value} {t : TypeId} {v : Value} (h : w.heap[b]? = some (.cells c t (0, 0))) : (w.setCell ⟨b, i, none⟩ v).heap[b]? = some (.cells (c.setIfInBounds i v) t (0, 0)) := by
  simp [World.setCell, Array.getElem?_modify, h]
theorem Src.grown {w w' : World} {b : Nat} {a : Option Addr} {len cap : Nat} (h : Src w b a len cap) (hg : w.grownBy w' (some b)) : Src w' b a len cap := by
  refine ⟨h.1, fun i hi => ?_⟩
  obtain ⟨g, off, z, h1, h2, h4, h5⟩ := h.2 i hi
  exact ⟨g, off, z, h1, h2, h4, hg.cell h5 (by simp; omega)⟩
/-- What stands in the cursor's block. -/
structure CurF (w : World) (b : Nat) (a : Option Addr) (len cap : Nat) (i : Nat) (h : Int) : Prop where
  c0 : w.cell? ⟨b, 0, none⟩ = some (.slice a len cap)
  c1 : w.cell? ⟨b, 1, none⟩ = some (.int .i64 (i : Int))
  c2 : w.cell? ⟨b, 2, none⟩ = some (.int .i64 h)
  f1 : w.frozen? ⟨b, 1, none⟩ = false
  f2 : w.frozen? ⟨b, 2, none⟩ = false
theorem curF {w : World} {b : Nat} {a : Option Addr} {len cap i : Nat} {h : Int} {t : TypeId} (hb : w.heap[b]? = some (.cells #[.slice a len cap, .int .i64 (i : Int), .int .i64 h] t (0, 0))) : CurF w b a len cap i h :=
  ⟨by simp [World.cell?, hb], by simp [World.cell?, hb], by simp [World.cell?, hb], by simp [World.frozen?, hb], by simp [World.frozen?, hb]⟩
theorem wrap_rng (x : Int) : -9223372036854775808 ≤ wrap64 x ∧ wrap64 x ≤ 9223372036854775807 := by unfold wrap64; omega

theorem and_mask (x : Int) (m : Nat) (hm : m ≤ 1099511627776) : ∃ n : Nat, n ≤ m ∧ bits .and .i64 x (m : Int) = (n : Int) := by
  have h2 : (BitVec.ofInt 64 (m : Int)).toNat = m := by
    rw [BitVec.ofInt_natCast, BitVec.toNat_ofNat]; exact Nat.mod_eq_of_lt (by omega)
  have h3 : (BitVec.ofInt 64 x &&& BitVec.ofInt 64 (m : Int)).toNat ≤ m := by
    rw [BitVec.toNat_and, h2]; exact Nat.and_le_right
  refine ⟨_, h3, ?_⟩
  show IntKind.i64.wrap ((BitVec.ofInt 64 x &&& BitVec.ofInt 64 (m : Int)).toNat : Int) = _
  exact IntWalk.i64_in _ (by omega)
theorem grownN {w w' : World} {row : Option Nat} (h : w.grownBy w' row) (n : Nat) : w.grownBy (w'.drewN n) row := ⟨h.os, h.tape, h.output, h.size, h.block⟩

def BytePost (b : Nat) (w : World) (e : Ending) (w' : World) : Prop :=
  ∃ x : Nat, x ≤ 255 ∧ e = .returned (.int .i64 (x : Int)) ∧ Cur w' b ∧ w.grownBy w' (some b)
theorem BytePost.mk {b : Nat} {w w' : World} {x : Nat} (hx : x ≤ 255) (hc : Cur w' b) (hg : w.grownBy w' (some b)) : BytePost b w (.returned (.int .i64 (x : Int))) w' := ⟨x, hx, rfl, hc, hg⟩
theorem Cur.next {w1 : World} {b : Nat} {a : Option Addr} {len cap i : Nat} {v h : Int} (hs : Src w1 b a len cap) (hil : i < len) (h0 : -9223372036854775808 ≤ v) (h1 : v ≤ 9223372036854775807)
    (hb : w1.heap[b]? = some (.cells (#[Value.slice a len cap, .int .i64 (i : Int), .int .i64 h].setIfInBounds 2 (.int .i64 v)) 84 (0, 0))) (n : Nat) :
    Cur ((w1.drewN n).setCell ⟨b, 1, none⟩ (.int .i64 ((i : Int) + 1))) b := by
  have hg : w1.grownBy ((w1.drewN n).setCell ⟨b, 1, none⟩ (.int .i64 ((i : Int) + 1))) (some b) := (grownN (World.grownBy.refl w1 (some b)) n).trans (Lib.grownBy_setCell _ _ _ _)
  exact ⟨a, len, cap, i + 1, v, hs.grown hg, hil, h0, h1, heap_set (w := w1.drewN n) hb⟩
theorem Cur.drewN {w : World} {b : Nat} (h : Cur w b) (n : Nat) : Cur (w.drewN n) b := h

set_option maxHeartbeats 1000000 in
theorem l01Byte_any (b : Nat) (w : World) (hc : Cur w b) :
    Calls Tryz.prog 84 #[.pointer (some ⟨b, 0, none⟩)] w fun e w' => BytePost b w e w' := by
  obtain ⟨a, len, cap, i, h, hsrc, hi, h0, h1, hblk⟩ := hc
  obtain ⟨c0, c1, c2, f1, f2⟩ := curF hblk
  have HB := Lib.hid hblk
  clear hblk
  have HS := Lib.hid hsrc
  clear hsrc
  go_enter Tryz.func84, Tryz.ntmps84
  go_wp2
  generalize hv : wrap64 (wrap64 (h * 6364136223846793005) + 1442695040888963407) = v
  have hvr := wrap_rng (wrap64 (h * 6364136223846793005) + 1442695040888963407)
  rw [hv] at hvr
  have hb1 := heap_set (i := 2) (v := .int .i64 v) HB.out
  have hg1 := Lib.grownBy_setCell w b 2 (.int .i64 v)
  generalize w.setCell ⟨b, 2, none⟩ (.int .i64 v) = w1 at *
  generalize wrap64 (h * 6364136223846793005) = hm at *
  clear hv c0 c1 c2 f1 f2
  obtain ⟨c0, c1, c2, f1, f2⟩ := curF (i := i) (h := v) (a := a) (len := len) (cap := cap) hb1
  have HB1 := Lib.hid hb1
  clear hb1
  go_quiet (fail)
  generalize bits .xor .i64 (v / 8589934592) (v / 35184372088832) = y
  obtain ⟨x, hx, hxe⟩ := and_mask y 255 (by decide)
  simp only [Int.cast_ofNat_Int] at hxe
  rw [hxe]
  clear hxe
  have HS1 := Lib.hid (HS.out.grown hg1)
  have HG := Lib.hid hg1
  clear hg1 HS HB
  by_cases hil : i < len
  · have hlen := HS1.out.1
    obtain ⟨g, off, z, rfl, hgb, hz, hcz⟩ := HS1.out.2 i hil
    · go_wp2
      go_quiet (fail)
      go_wp2
      go_quiet (fail)
      obtain ⟨x2, hx2, hxe2⟩ := and_mask (x + z : Int) 255 (by decide)
      simp only [Int.cast_ofNat_Int] at hxe2
      rw [hxe2]
      clear hxe2
      go_wp2
      go_ret
      exact BytePost.mk hx2 (Cur.next HS1.out hil hvr.1 hvr.2 HB1.out _) (HG.out.trans ((grownN (World.grownBy.refl w1 (some b)) _).trans (Lib.grownBy_setCell _ _ _ _)))
  · go_wp2
    go_quiet (fail)
    go_wp2
    go_ret
    exact BytePost.mk hx ⟨_, _, _, i, v, HS1.out, hi, hvr.1, hvr.2, HB1.out⟩ (grownN (grownN HG.out _) _)

theorem sum_cast (x y z u m : Nat) : ((x : Int) * 16777216 + (y : Int) * 65536 + (z : Int) * 256 + (u : Int)) % (m : Int) = (((x * 16777216 + y * 65536 + z * 256 + u) % m : Nat) : Int) := by
  rw [Int.natCast_emod]
  congr 1
def BelowPost (b : Nat) (n : Int) (w : World) (e : Ending) (w' : World) : Prop :=
  ∃ x : Nat, (0 < n → (x : Int) < n) ∧ (n ≤ 0 → x = 0) ∧ e = .returned (.int .i64 (x : Int)) ∧ Cur w' b ∧ w.grownBy w' (some b)
theorem BelowPost.mk {b : Nat} {n v : Int} {w w' : World} (x : Nat) (hv : v = (x : Int)) (h1 : 0 < n → (x : Int) < n) (h2 : n ≤ 0 → x = 0) (hc : Cur w' b) (hg : w.grownBy w' (some b)) : BelowPost b n w (.returned (.int .i64 v)) w' := ⟨x, h1, h2, by rw [hv], hc, hg⟩

set_option maxHeartbeats 1000000 in
theorem l01Below_any (b : Nat) (n : Int) (w : World) (hc : Cur w b) (h0 : -9223372036854775808 ≤ n) (h1 : n ≤ 9223372036854775807) :
    Calls Tryz.prog 53 #[.pointer (some ⟨b, 0, none⟩), .int .i64 n] w fun e w' => BelowPost b n w e w' := by
  by_cases hn : n ≤ 0
  · go_enter Tryz.func53, Tryz.ntmps53
    go_wp2
    go_ret
    exact BelowPost.mk 0 rfl (fun h => by omega) (fun _ => rfl) hc (World.grownBy.refl _ _)
  · obtain ⟨m, rfl⟩ := Int.eq_ofNat_of_zero_le (show 0 ≤ n by omega)
    by_cases h256 : m ≤ 256
    · have HB := Lib.hid (l01Byte_any b w hc)
      go_enter Tryz.func53, Tryz.ntmps53
      go_wp2_with fail
      refine HB.out.mono ?_
      rintro e w1 ⟨x, hx, rfl, hc1, hg1⟩
      go_wp2
      go_ret
      exact BelowPost.mk (x % m) (Int.natCast_emod _ _).symm (fun _ => by have := Nat.mod_lt x (show 0 < m by omega); omega) (fun h => by omega) hc1 hg1
    · go_enter Tryz.func53, Tryz.ntmps53
      go_wp2_with fail
      refine (l01Byte_any b _ hc).mono ?_
      rintro e w1 ⟨x, hx, rfl, hc1, hg1⟩
      go_wp2_with fail
      refine (l01Byte_any b _ hc1).mono ?_
      rintro e w2 ⟨y, hy, rfl, hc2, hg2⟩
      go_wp2_with fail
      refine (l01Byte_any b _ hc2).mono ?_
      rintro e w3 ⟨z, hz, rfl, hc3, hg3⟩
      go_wp2_with fail
      refine (l01Byte_any b _ hc3).mono ?_
      rintro e w4 ⟨u, hu, rfl, hc4, hg4⟩
      go_wp2
      go_ret
      exact BelowPost.mk ((x * 16777216 + y * 65536 + z * 256 + u) % m) (sum_cast x y z u m) (fun _ => by have := Nat.mod_lt (x * 16777216 + y * 65536 + z * 256 + u) (show 0 < m by omega); omega) (fun h => by omega) hc4 (((hg1.trans hg2).trans hg3).trans hg4)

def OncePost (b : Nat) (w : World) (e : Ending) (w' : World) : Prop :=
  ∃ t : Bool, e = .returned (.bool t) ∧ Cur w' b ∧ w.grownBy w' (some b)
theorem OncePost.mk {b : Nat} {w w' : World} {t : Bool} (hc : Cur w' b) (hg : w.grownBy w' (some b)) : OncePost b w (.returned (.bool t)) w' := ⟨t, rfl, hc, hg⟩
/-- A number of 64 bits with the property P. -/
def NumPost (P : Int → Prop) (b : Nat) (w : World) (e : Ending) (w' : World) : Prop :=
  ∃ x : Int, P x ∧ e = .returned (.int .i64 x) ∧ Cur w' b ∧ w.grownBy w' (some b)
theorem NumPost.mk {P : Int → Prop} {b : Nat} {w w' : World} {x : Int} (h : P x) (hc : Cur w' b) (hg : w.grownBy w' (some b)) : NumPost P b w (.returned (.int .i64 x)) w' := ⟨x, h, rfl, hc, hg⟩
/-- Block g holds n numbers with the property P. -/
def Nums (P : Int → Prop) (w : World) (g n : Nat) : Prop := ∀ j, j < n → ∃ z : Int, P z ∧ w.cell? ⟨g, j, none⟩ = some (.int .i64 z)
theorem Nums.lit {P : Int → Prop} (w : World) (t : TypeId) (zs : List Int) (h : ∀ z ∈ zs, P z) : Nums P (w.alloc (.cells (zs.map (Value.int .i64)).toArray t)) w.heap.size zs.length := by
  intro j hj
  refine ⟨zs[j], h _ (List.getElem_mem hj), ?_⟩
  rw [World.cell?_alloc_at (hn := rfl)]
  simp [hj]
theorem Cur.lt {w : World} {b : Nat} (h : Cur w b) : b < w.heap.size := by
  obtain ⟨_, _, _, _, _, _, _, _, _, hb⟩ := h
  exact (Array.getElem?_eq_some_iff.1 hb).1
theorem Cur.grown {w w' : World} {b : Nat} {row : Option Nat} (h : Cur w b) (hg : w.grownBy w' row) (hr : ∀ r, row = some r → b < r) : Cur w' b := by
  have hlt := h.lt
  obtain ⟨a, len, cap, i, v, hs, hi, h0, h1, hb⟩ := h
  have key : ∀ k, k ≤ b → w'.heap[k]? = w.heap[k]? := fun k hk => hg.block k (by omega) (fun e => by have := hr k e.symm; omega)
  refine ⟨a, len, cap, i, v, ⟨hs.1, fun j hj => ?_⟩, hi, h0, h1, by rw [key b (Nat.le_refl _)]; exact hb⟩
  obtain ⟨g, off, z, h1, h2, h4, h5⟩ := hs.2 j hj
  exact ⟨g, off, z, h1, h2, h4, by rw [World.cell?_of_block (key g (by show g ≤ b; omega))]; exact h5⟩
theorem Cur.alloc {w : World} {b : Nat} (h : Cur w b) (o : Obj) : Cur (w.alloc o) b := h.grown (World.grownBy_alloc w o none) (fun _ h => by cases h)

set_option maxHeartbeats 1000000 in
theorem l01PickInt_any (P : Int → Prop) (b g n cap : Nat) (w : World) (hc : Cur w b) (hn : 0 < n) (hn2 : n ≤ 1000) (hgb : g ≠ b) (hcap : n ≤ cap) (hl : Nums P w g n) :
    Calls Tryz.prog 54 #[.pointer (some ⟨b, 0, none⟩), .slice (some ⟨g, 0, none⟩) n cap] w fun e w' => NumPost P b w e w' := by
  have HL := Lib.hid hl
  clear hl
  go_enter Tryz.func54, Tryz.ntmps54
  go_wp2_with fail
  refine (l01Below_any b _ _ hc (by omega) (by omega)).mono ?_
  rintro e w1 ⟨x, hx, _, rfl, hc1, hg1⟩
  have hxn : x < n := by have := hx (by omega); omega
  obtain ⟨z, hz, hcz⟩ := HL.out x hxn
  have hcz1 := hg1.cell hcz (by simpa using hgb)
  clear hcz hx
  go_wp2
  go_ret
  exact NumPost.mk hz hc1 hg1
def I64 (x : Int) : Prop := -9223372036854775808 ≤ x ∧ x ≤ 9223372036854775807

/-- WHAT THE WALK IS TOLD OF A SLICE OF INTEGERS THAT CAME IN. -/
def IsRow (k : IntKind) (w : World) (a : Option Addr) (len cap : Nat) (zs : List Int) : Prop :=
  (a = none ∧ len = 0 ∧ cap = 0 ∧ zs = []) ∨
  ∃ x, a = some x ∧ len ≤ cap ∧ cap ≤ maxLen ∧ zs.length = cap ∧ (∀ i, i < zs.length → w.cell? (x.add i) = some (.int k (zs.getD i 0))) ∧ ∀ n ∈ zs, (Lit.int k n).wf = true
theorem IsRow.src {w : World} {a : Option Addr} {len cap : Nat} {zs : List Int} (h : IsRow .u8 w a len cap zs) (hl : len ≤ 1099511627776) : Src w w.heap.size a len cap := by
  refine ⟨hl, fun i hi => ?_⟩
  rcases h with ⟨rfl, rfl, rfl, rfl⟩ | ⟨⟨g, off, spot⟩, rfl, hl, hm, hz, hcell, hwf⟩
  · omega
  · have hc := hcell i (by omega)
    have hspot : spot = none := by simpa [Addr.add] using World.cell?_spot (hcell 0 (by omega))
    subst hspot
    have hadd : (⟨g, off, none⟩ : Addr).add i = ⟨g, off + i, none⟩ := by unfold Addr.add; split <;> simp_all
    rw [hadd] at hc
    have hlt := World.block_lt_of_cell? w _ hc
    have hg : g < w.heap.size := hlt
    have h2 := hwf (zs.getD i 0) (by rw [List.getD_eq_getElem?_getD, List.getElem?_eq_getElem (by omega)]; exact List.getElem_mem _)
    have h3 : 0 ≤ zs.getD i 0 ∧ zs.getD i 0 ≤ 255 := by
      generalize zs.getD i 0 = x at h2
      simpa [Lit.wf, IntKind.min, IntKind.max, IntKind.signed, IntKind.bits] using h2
    obtain ⟨z, hz⟩ := Int.eq_ofNat_of_zero_le h3.1
    exact ⟨g, off, z, rfl, hg, by omega, by rw [hc, hz]⟩

def NewPost (w : World) (e : Ending) (w' : World) : Prop := e = .returned (.pointer (some ⟨w.heap.size, 0, none⟩)) ∧ Cur w' w.heap.size ∧ w.grownBy w' none
theorem NewPost.mk {w : World} {a : Option Addr} {len cap : Nat} {v : Int} (hs : Src w w.heap.size a len cap) (h0 : -9223372036854775808 ≤ v) (h1 : v ≤ 9223372036854775807) :
    NewPost w (.returned (.pointer (some ⟨w.heap.size, 0, none⟩))) (w.alloc (.cells #[.slice a len cap, .int .i64 0, .int .i64 v] 84)) := by
  refine ⟨rfl, ⟨a, len, cap, 0, v, hs.grown (World.grownBy_alloc _ _ _), Nat.zero_le _, h0, h1, heap_alloc_new w _⟩, World.grownBy_alloc _ _ _⟩
set_option maxHeartbeats 1000000 in
set_option maxRecDepth 100000 in
theorem l01New_any (a : Option Addr) (len cap : Nat) (w : World) (hs : Src w w.heap.size a len cap) :
    Calls Tryz.prog 23 #[.slice a len cap] w fun e w' => NewPost w e w' := by
  have HS := Lib.hid hs
  have hlen := hs.1
  clear hs
  go_enter Tryz.func23, Tryz.ntmps23
  go_wp2
  go_loop [3, 4] (fun h i => ∃ (v : Int) (k : Nat), 0 ≤ v ∧ v ≤ 1099511700000 ∧ k ≤ len ∧ h = .int .i64 v ∧ i = .int .i64 k) (fun _ i => len - (intOf i).toNat)
  case atStart => exact ⟨_, 0, by omega, by omega, by omega, rfl, rfl⟩
  case round =>
    obtain ⟨v, k, h0, h1, hk, rfl, rfl⟩ := hrel
    by_cases hlt : k < len
    · by_cases h4 : k < 4000
      · obtain ⟨g, off, z, rfl, hgb, hz, hcz⟩ := HS.out.2 k hlt
        · go_wp2
          obtain ⟨m, hm, hme⟩ := and_mask (v * 131 + z + 7) 1073741823 (by decide)
          simp only [Int.cast_ofNat_Int] at hme
          rw [hme]
          clear hme
          exact ⟨⟨m, k + 1, by omega, by omega, by omega, rfl, by go_num⟩, by simp only [intOf]; omega⟩
      · have hk4 : decide ((k : Int) < 4000) = false := by simp; omega
        go_wp2
        go_ret
        exact NewPost.mk HS.out (by omega) (by omega)
    · go_wp2
      go_ret
      exact NewPost.mk HS.out (by omega) (by omega)
end Go.Proofs.YtobpnoiienpipaaGreat

/-
  What is proved: the walks of the functions that make a cell of a cell (conjugated, scaled by 1), and of the generic function that makes a row of a row.
  Conditions: those that each fact names.
-/
namespace Go.Proofs.YtobpnoiienpipaaGreat
set_option linter.unusedVariables false
open Go.RowKit
attribute [local go_sem] run_store_float run_store_complex unary_negf neg256
theorem heap_put {w : World} {b i : Nat} {c : Array Value} {t : TypeId} {v : Value} (h : w.heap[b]? = some (.cells c t (0, 0))) : (w.setCell ⟨b, i, none⟩ v).heap[b]? = some (.cells (c.setIfInBounds i v) t (0, 0)) := by
  simp [World.setCell, Array.getElem?_modify, h]

theorem conjugate_any (u v : Nat) (w : World) :
    Calls Tryz.prog 166 #[.complex .f32 u v] w fun e w' => e = .returned (.complex .f32 u (Op.negFloat .f32 v)) ∧ w = w' := by
  go_enter Tryz.func166, Tryz.ntmps166
  go_wp2
  go_ret
  exact ⟨rfl, rfl⟩

theorem conjugated_any (y u v : Nat) (w : World) :
    Calls Tryz.prog 161 #[.agg #[.float .f32 y, .complex .f32 u v]] w fun e w' => e = .returned (.agg #[.float .f32 y, .complex .f32 u (Op.negFloat .f32 v)]) ∧ Below w.heap.size w w' := by
  go_enter Tryz.func161, Tryz.ntmps161
  go_wp2
  go_region_with (go_at_call 166; refine (conjugate_any _ _ _).mono ?_; rintro e w2 ⟨rfl, rfl⟩)
  all_goals go_wp2
  all_goals refine bodyPost_ret (v := .agg #[.float .f32 y, .complex .f32 u (Op.negFloat .f32 v)]) ?_ rfl ⟨rfl, ?_⟩
  all_goals first | (simp [results, Tryz.results161, go_sem]; done) | exact (((Below.refl _ _).alloc (Nat.le_refl _) _).alloc (by simp) _).drew

end Go.Proofs.YtobpnoiienpipaaGreat

/-
  What is proved: the walk of the generic function that makes a row of a row, over whatever function value makes a cell of a cell.
  Conditions: the row is not empty and has at most 64 cells; the function value answers a cell and writes into new memory alone.
-/
namespace Go.Proofs.YtobpnoiienpipaaGreat
set_option linter.unusedVariables false
open Go.RowKit
attribute [local go_sem] run_store_float run_store_complex unary_negf neg256

theorem info_cell : (Tryz.prog.info? 61).map (fun i => (i.zero, i.size, i.bytes)) = some (some (.agg #[.float .f32 0, .complex .f32 0 0]), 2, 12) := by kernel_rfl
theorem make_cells (n : Nat) (hn : n ≤ 1000000) (W : World) : (Instr.makeSlice 40 (.int .i64 (n : Int)) (.int .i64 (n : Int))).run Tryz.prog W = .ok (.slice (some ⟨W.heap.size, 0, none⟩) n n) (W.alloc (.cells (madeCells #[.float .f32 0, .complex .f32 0 0] (n * 2)) 61)) := by
  obtain ⟨i0, hi, hz0, hz1, hz2⟩ := info_parts info_cell
  have h := run_make (P := Tryz.prog) W 40 61 i0 _ Tryz.underlying40 hi hz0 .i64 .i64 n n (by omega) (by omega) (by rw [hz2]; omega) (by omega)
  rw [hz1] at h
  simpa [Value.cells] using h

/-- The block holds n cells; the first k are those of cs. -/
def Made (w : World) (b n k : Nat) (cs : List C3) : Prop :=
  ∃ cur : Array Value, w.heap[b]? = some (.cells cur 61 (0, 0)) ∧ cur.size = n * 2 ∧ ∀ i (h : i < cs.length), i < k → cur[i * 2]? = some (.float .f32 cs[i].1) ∧ cur[i * 2 + 1]? = some (.complex .f32 cs[i].2.1 cs[i].2.2)
theorem Made.start (w : World) (n : Nat) (cs : List C3) : Made (w.alloc (.cells (madeCells #[.float .f32 0, .complex .f32 0 0] (n * 2)) 61)) w.heap.size n 0 cs :=
  ⟨_, heap_alloc_new w _, size_madeCells _ _, fun i h hi => by omega⟩
theorem Made.kept {w w' : World} {b n k : Nat} {cs : List C3} (h : Made w b n k cs) (hb : w'.heap[b]? = w.heap[b]?) : Made w' b n k cs := by
  obtain ⟨cur, h1, h2⟩ := h
  exact ⟨cur, hb.trans h1, h2⟩
theorem Made.step {w : World} {b n k : Nat} {cs : List C3} (h : Made w b n k cs) (hn : k < cs.length) (hk : cs.length ≤ n) :
    Made ((w.setCell ⟨b, k * 2, none⟩ (.float .f32 cs[k].1)).setCell ⟨b, k * 2 + 1, none⟩ (.complex .f32 cs[k].2.1 cs[k].2.2)) b n (k + 1) cs := by
  obtain ⟨cur, h1, h2, h3⟩ := h
  refine ⟨(cur.setIfInBounds (k * 2) (.float .f32 cs[k].1)).setIfInBounds (k * 2 + 1) (.complex .f32 cs[k].2.1 cs[k].2.2), heap_put (heap_put h1), by simp [h2], fun i hi hik => ?_⟩
  by_cases e : i = k
  · subst e
    constructor
    · rw [Array.getElem?_setIfInBounds, if_neg (by omega), Array.getElem?_setIfInBounds, if_pos rfl, if_pos (by omega)]
    · rw [Array.getElem?_setIfInBounds, if_pos rfl, if_pos (by simp; omega)]
  · obtain ⟨g1, g2⟩ := h3 i hi (by omega)
    constructor
    · rw [Array.getElem?_setIfInBounds, if_neg (by omega), Array.getElem?_setIfInBounds, if_neg (by omega)]; exact g1
    · rw [Array.getElem?_setIfInBounds, if_neg (by omega), Array.getElem?_setIfInBounds, if_neg (by omega)]; exact g2
theorem Made.row {w : World} {b n : Nat} {cs : List C3} (h : Made w b n n cs) (hn : cs.length = n) : RowV w (.slice (some ⟨b, 0, none⟩) n n) cs := by
  obtain ⟨cur, h1, h2, h3⟩ := h
  subst hn
  refine .inr ⟨b, 0, cs.length, rfl, Nat.le_refl _, fun i hi => ?_⟩
  obtain ⟨g1, g2⟩ := h3 i hi hi
  exact ⟨by simp [World.cell?, h1, g1], by simp [World.cell?, h1, g2]⟩
theorem Made.at {w : World} {b n k : Nat} {cs : List C3} (h : Made w b n k cs) (i : Nat) (hi : i < n) : (∃ x, w.cell? ⟨b, i * 2, none⟩ = some x) ∧ (∃ x, w.cell? ⟨b, i * 2 + 1, none⟩ = some x) ∧ w.frozen? ⟨b, i * 2, none⟩ = false ∧ w.frozen? ⟨b, i * 2 + 1, none⟩ = false := by
  obtain ⟨cur, h1, h2, _⟩ := h
  refine ⟨⟨cur[i * 2]'(by omega), ?_⟩, ⟨cur[i * 2 + 1]'(by omega), ?_⟩, ?_, ?_⟩
  · simp [World.cell?, h1, Array.getElem?_eq_getElem (show i * 2 < cur.size by omega)]
  · simp [World.cell?, h1, Array.getElem?_eq_getElem (show i * 2 + 1 < cur.size by omega)]
  · simp [World.frozen?, h1]
  · simp [World.frozen?, h1]

def RowPost (cs : List C3) (w : World) (e : Ending) (w' : World) : Prop := ∃ v', e = .returned v' ∧ RowV w' v' cs ∧ Below w.heap.size w w'
theorem RowPost.mk {cs : List C3} {w w' : World} {v' : Value} (h : RowV w' v' cs) (hb : Below w.heap.size w w') : RowPost cs w (.returned v') w' := ⟨v', rfl, h, hb⟩
set_option maxHeartbeats 1000000 in
theorem changedConj_any (φ : C3 → C3) (v : Value) (cs : List C3) (w : World) (h : RowV w v cs) (hne : cs ≠ []) (hl : cs.length ≤ 1000000)
    (HX : ∀ c ∈ cs, ∀ W, Below w.heap.size w W → Calls Tryz.prog 161 #[.agg #[.float .f32 c.1, .complex .f32 c.2.1 c.2.2]] W fun e w' => e = .returned (.agg #[.float .f32 (φ c).1, .complex .f32 (φ c).2.1 (φ c).2.2]) ∧ Below W.heap.size W w') :
    Calls Tryz.prog 151 #[v, .func (.func 161) #[] #[]] w fun e w' => RowPost (cs.map φ) w e w' := by
  rcases h with ⟨_, h1⟩ | ⟨g, o, cap, rfl, hcap, hcell⟩
  · exact absurd h1 hne
  · have HC := Lib.hid hcell
    have HXX := Lib.hid HX
    have hmk := make_cells cs.length hl
    clear hcell HX hne
    go_enter Tryz.func151, Tryz.ntmps151
    go_wp2
    have hst := Made.start w cs.length (cs.map φ)
    have hbel : Below w.heap.size w (w.alloc (.cells (madeCells #[.float .f32 0, .complex .f32 0 0] (cs.length * 2)) 61)) := (Below.refl _ _).alloc (Nat.le_refl _) _
    have hsz : w.heap.size < (w.alloc (.cells (madeCells #[.float .f32 0, .complex .f32 0 0] (cs.length * 2)) 61)).heap.size := by simp
    clear hmk
    generalize w.alloc (.cells (madeCells #[.float .f32 0, .complex .f32 0 0] (cs.length * 2)) 61) = w1 at *
    go_loopw [13] (fun i wr => ∃ k : Nat, k ≤ cs.length ∧ i = .int .i64 (k : Int) ∧ Below w.heap.size w wr ∧ w.heap.size < wr.heap.size ∧ Made wr w.heap.size cs.length k (cs.map φ)) (fun i _ => cs.length - (intOf i).toNat)
    case atStart => exact ⟨0, Nat.zero_le _, rfl, hbel, hsz, hst⟩
    case round =>
      obtain ⟨k, hk, rfl, hb, hs, hm⟩ := hrel
      have HM := Lib.hid hm
      clear hm
      by_cases hlt : k < cs.length
      · obtain ⟨hc0, hc1⟩ := HC.out k hlt
        have hd0 := (grown_of hb).cell hc0 (by simp)
        have hd1 := (grown_of hb).cell hc1 (by simp)
        have HK := fun W hW => Lib.hid (HXX.out cs[k] (List.getElem_mem hlt) W hW)
        have hlm : k < (cs.map φ).length := by simpa using hlt
        have hmk := List.getElem_map φ (h := hlm)
        have HMK := Lib.hid hmk
        clear hc0 hc1 hmk
        generalize hck : cs[k] = c at *
        have HCK := Lib.hid hck
        clear hck
        go_wp2_with fail
        have hbA := hb.alloc hb.size (.cells #[.float .f32 c.1, .complex .f32 c.2.1 c.2.2] 61)
        refine (HK _ hbA).out.mono ?_
        rintro e w2 ⟨rfl, hb2⟩
        have hm2 : Made w2 w.heap.size cs.length k (cs.map φ) := HM.out.kept ((hb2.block _ (by simp; omega)).trans (Below.heap_alloc _ _ _ hs))
        have hbw : Below w.heap.size w w2 := hbA.trans (hb2.mono (by simp; omega))
        have hs2 : w.heap.size < w2.heap.size := Nat.lt_of_lt_of_le hs (Nat.le_trans (by simp) hb2.size)
        obtain ⟨⟨x0, hx0⟩, ⟨x1, hx1⟩, hf0, hf1⟩ := hm2.at k hlt
        have hm3 := hm2.step hlm (by simp)
        rw [HMK.out] at hm3
        have HM3 := Lib.hid hm3
        clear hm2 hm3 hb2 hbA hd0 hd1
        go_wp2
        go_roundw
        case rel => exact ⟨k + 1, by omega, by go_num, (hbw.setCell (Nat.le_refl _) _).setCell (Nat.le_refl _) _, by simpa [World.setCell] using hs2, HM3.out⟩
        case measure => simp [intOf]; omega
      · have hkk : k = cs.length := by omega
        subst hkk
        have hrow := HM.out.row (by simp)
        have HR := Lib.hid hrow
        clear hrow
        go_wp2
        go_ret
        exact RowPost.mk HR.out hb
end Go.Proofs.YtobpnoiienpipaaGreat

/-
  What is proved: what the functions that draw numbers, cells and rows of chapter 2 answer: numbers whose bits fit.
  Conditions: the cursor's block holds a cursor.
-/
namespace Go.Proofs.YtobpnoiienpipaaGreat
set_option linter.unusedVariables false
open Go.RowKit
attribute [local go_sem] run_store_float run_store_complex unary_negf neg256

def F64Post (b : Nat) (w : World) (e : Ending) (w' : World) : Prop := ∃ x, e = .returned (.float .f64 x) ∧ Cur w' b ∧ w.grownBy w' (some b)
theorem F64Post.mk {b x : Nat} {w w' : World} (hc : Cur w' b) (hg : w.grownBy w' (some b)) : F64Post b w (.returned (.float .f64 x)) w' := ⟨x, rfl, hc, hg⟩
def LvPost (b : Nat) (w : World) (e : Ending) (w' : World) : Prop := ∃ x, x < 2 ^ 32 ∧ e = .returned (.float .f32 x) ∧ Cur w' b ∧ w.grownBy w' (some b)
theorem LvPost.mk {b x : Nat} {w w' : World} (hx : x < 2 ^ 32) (hc : Cur w' b) (hg : w.grownBy w' (some b)) : LvPost b w (.returned (.float .f32 x)) w' := ⟨x, hx, rfl, hc, hg⟩
end Go.Proofs.YtobpnoiienpipaaGreat
