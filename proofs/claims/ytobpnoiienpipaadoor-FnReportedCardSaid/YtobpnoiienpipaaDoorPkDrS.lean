/-
  What is proved: what the drawing functions of chapter 1 answer.
  Conditions: the bytes that they draw from can be read.
-/
import Derived.Test.YtobpnoiienpipaaDoorCur
import Derived.Test.YtobpnoiienpipaaDoorPkDec
import Derived.Test.YtobpnoiienpipaaDoorRows
import Derived.WalkKit
import Derived.WalkSpells
import Derived.WalkLawsBesides
import Derived.Deep.AppendLies
import Derived.Laws.IdiomStrings
import Derived.Lib.BufferRead
namespace Go.Proofs.YtobpnoiienpipaaDoor
set_option linter.unusedVariables false
open Go.RowKit

/-- What a draw leaves of the world. -/
theorem drawn {w w1 w2 : World} (h1 : w.grownBy w1 none) (h2 : w1.grownBy w2 (some w.heap.size)) : Below w.heap.size w w2 :=
  ((Below.refl _ _).grown h1 (Nat.le_refl _) (fun _ h => by cases h)).grown h2 h1.size (fun k h => by cases h; exact Nat.le_refl _)
theorem I64.of {x : Int} (h0 : -1000000000000 ≤ x) (h1 : x ≤ 1000000000000) : I64 x := ⟨by omega, by omega⟩
/-- A drawn number. -/
def DrawI (w : World) (e : Ending) (w' : World) : Prop := ∃ n : Int, I64 n ∧ e = .returned (.int .i64 n) ∧ Below w.heap.size w w'
theorem DrawI.mk {w w' : World} {n : Int} (h : I64 n) (hb : Below w.heap.size w w') : DrawI w (.returned (.int .i64 n)) w' := ⟨n, h, rfl, hb⟩
/-- A drawn text. -/
def DrawS (N : Nat) (w : World) (e : Ending) (w' : World) : Prop := ∃ s : ByteArray, s.size ≤ N ∧ e = .returned (.string s) ∧ Below w.heap.size w w'
theorem DrawS.mk {N : Nat} {w w' : World} {s : ByteArray} (h : s.size ≤ N) (hb : Below w.heap.size w w') : DrawS N w (.returned (.string s)) w' := ⟨s, h, rfl, hb⟩
theorem big_any (a : Option Addr) (len cap : Nat) (w : World) :
    Calls Tryd.prog 10 #[.slice a len cap] w fun e w' => e = .returned (.bool (decide ((1048576 : Int) < len))) ∧ w = w' := by
  go_enter Tryd.func10, Tryd.ntmps10
  go_wp2
  go_ret
  exact ⟨rfl, rfl⟩

theorem prod_rng (x y : Nat) (hx : x < 1000000) (hy : y < 2000000) : -1000000000000 ≤ (x : Int) * ((y : Int) - 1000000) ∧ (x : Int) * ((y : Int) - 1000000) ≤ 1000000000000 := by
  have h1 : (x : Int) * ((y : Int) - 1000000) ≤ (x : Int) * 1000000 := Int.mul_le_mul_of_nonneg_left (by omega) (by omega)
  have h2 : (x : Int) * (-1000000) ≤ (x : Int) * ((y : Int) - 1000000) := Int.mul_le_mul_of_nonneg_left (by omega) (by omega)
  omega



end Go.Proofs.YtobpnoiienpipaaDoor

/-
  What is proved: small laws on byte slices that a call makes for itself: appending to them, making a string of them.
  Conditions: none.
-/
namespace Go.Proofs.YtobpnoiienpipaaDoor
set_option linter.unusedVariables false
open Go.RowKit

theorem info_u8 : (Tryd.prog.info? 5).map (fun i => (i.zero, i.size, i.bytes)) = some (some (.int .u8 0), 1, 1) := by kernel_rfl

theorem byte_at' (s : ByteArray) (k : Nat) (h : k < s.size) : s[k] = s.data.toList[k]'(by simpa using h) := rfl
/-- The byte slice v, owned from block base on, holds the bytes l. -/
def OwnB (w : World) (base : Nat) (v : Value) (l : List UInt8) : Prop := w.ownsRow base 5 1 v l.length (l.map fun b => Value.int .u8 (b.toNat : Int))
theorem OwnB.nil (w : World) (base : Nat) : OwnB w base (.slice none 0 0) [] := World.ownsRow_nil _ _ _ _
theorem OwnB.alloc {w : World} {base : Nat} {v : Value} {l : List UInt8} (h : OwnB w base v l) (o : Obj) : OwnB (w.alloc o) base v l := World.ownsRow.alloc h o
theorem OwnB.drew {w : World} {base : Nat} {v : Value} {l : List UInt8} (h : OwnB w base v l) : OwnB w.drew base v l := h
theorem OwnB.kept {w w' : World} {base : Nat} {v : Value} {l : List UInt8} {row : Option Nat} (h : OwnB w base v l) (hg : w.grownBy w' row) (hne : v.ownBlock = none ∨ v.ownBlock ≠ row) : OwnB w' base v l := World.ownsRow.kept h hg hne
theorem OwnB.lt {w : World} {base : Nat} {v : Value} {l : List UInt8} (h : OwnB w base v l) : ∀ k, v.ownBlock = some k → base ≤ k ∧ k < w.heap.size := World.ownsRow.lt h

/-- The empty slice of a literal. -/
theorem OwnB.made0 (w : World) : OwnB (w.alloc (.cells #[] 5)) w.heap.size (.slice (some ⟨w.heap.size, 0, none⟩) 0 0) [] := World.ownsRow_made w #[] 0 (Nat.le_refl _) (by unfold maxLen; omega) rfl
/-- A slice that make has laid. -/
theorem run_make_bytes (w : World) (base c : Nat) (k : IntKind) (hc : c ≤ 1099511627776) (hb : base ≤ w.heap.size) :
    ∃ w', (Instr.makeSlice 22 (.int k 0) (.int k (c : Int))).run Tryd.prog w = .ok (.slice (some ⟨w.heap.size, 0, none⟩) 0 c) w' ∧ OwnB w' base (.slice (some ⟨w.heap.size, 0, none⟩) 0 c) [] ∧ w.grownBy w' none ∧ w'.heap.size = w.heap.size + 1 := by
  obtain ⟨i0, hi, hz0, hz1, hz2⟩ := info_parts info_u8
  have hr := run_make (P := Tryd.prog) w 22 5 i0 (.int .u8 0) Tryd.underlying22 hi hz0 k k 0 c (by omega) (by omega) (by rw [hz2]; omega) (by omega)
  simp only [Int.toNat_zero, Int.toNat_natCast] at hr
  exact ⟨_, hr, World.ownsRow_made w _ c hb (by unfold maxLen; omega) (by rw [size_madeCells, hz1]), World.grownBy_alloc w _ none, by simp⟩

/-- The numbers of the new cells, as bytes. -/
def bts (ns : List Int) : List UInt8 := ns.map fun n => UInt8.ofNat n.toNat
theorem bts_map {ns : List Int} (h : ∀ z ∈ ns, 0 ≤ z ∧ z ≤ 255) : (bts ns).map (fun b => Value.int .u8 (b.toNat : Int)) = ns.map (Value.int .u8) := by
  unfold bts
  rw [List.map_map]
  refine List.map_congr_left fun z hz => ?_
  have := h z hz
  simp only [Function.comp, UInt8.toNat_ofNat']
  congr 1
  omega
theorem bts_len (ns : List Int) : (bts ns).length = ns.length := by simp [bts]

/-- append of cells that have just been made, at a step of a region that draws its order. -/
theorem step_bytes {ops : Array Oper} {o : Oper} {a : Act} {w : World} {K : Act → World → Prop} {Q : Exit → Act → World → Prop} {E : Prop} (hgd : o.guard = none) (s x : Operand)
    (ho : o.op = .call { callee := .builtin .append, args := #[s, x], argTypes := #[22, 22] })
    (base : Nat) (v : Value) (l : List UInt8) (hs : a.eval s = v) (hown : OwnB w base v l)
    (ad : Addr) (m c : Nat) (ns : List Int) (hx : a.eval x = .slice (some ad) m c) (hm : ns.length = m) (h0 : 0 < m)
    (hns : ∀ z ∈ ns, 0 ≤ z ∧ z ≤ 255) (hnews : ∀ j u, (ns.map (Value.int .u8))[j]? = some u → w.cell? (ad.add j) = some u)
    (hlen : l.length + m ≤ 1099511627776) (hbase : base ≤ w.heap.size)
    (h : ∀ v' w', OwnB w' base v' (l ++ bts ns) → w.grownBy w' v.ownBlock → K (a.put o.dst v') w') :
    if Region.wanted o (yielded ops a.tmps) = true then Oper.wp Tryd.prog o a w K Q else E := by
  obtain ⟨i0, hi, hz0, hz1, hz2⟩ := info_parts info_u8
  refine step_append_lies w hgd s x 22 ho base 5 i0 (.int .u8 0) 1 1 Tryd.underlying22 hi hz0 hz1 hz2 rfl (by decide) v l.length _ hs hown ad m c _ hx (by simpa using hm) hnews ?_ h0 (by unfold maxLen; omega) (by omega) hbase _ rfl ?_
  · intro u hu
    obtain ⟨z, _, rfl⟩ := List.mem_map.1 hu
    rfl
  · intro g cap w' h2 h3 _ _
    refine h _ w' ?_ h3
    unfold OwnB
    rw [List.map_append, bts_map hns, List.length_append, bts_len, hm]
    exact h2

/-- The same outside such a region. -/
theorem list_bytes {ops : Array Oper} {rest : List Oper} {o : Oper} {a : Act} {w : World} {Q : Exit → Act → World → Prop} (hgd : o.guard = none) (s x : Operand)
    (ho : o.op = .call { callee := .builtin .append, args := #[s, x], argTypes := #[22, 22] })
    (base : Nat) (v : Value) (l : List UInt8) (hs : a.eval s = v) (hown : OwnB w base v l)
    (ad : Addr) (m c : Nat) (ns : List Int) (hx : a.eval x = .slice (some ad) m c) (hm : ns.length = m)
    (hns : ∀ z ∈ ns, 0 ≤ z ∧ z ≤ 255) (hnews : ∀ j u, (ns.map (Value.int .u8))[j]? = some u → w.cell? (ad.add j) = some u)
    (hlen : l.length + m ≤ 1099511627776) (hbase : base ≤ w.heap.size)
    (h : ∀ v' w', OwnB w' base v' (l ++ bts ns) → w.grownBy w' v.ownBlock → wpList Tryd.prog ops Q rest (a.put o.dst v') w') :
    wpList Tryd.prog ops Q (o :: rest) a w := by
  obtain ⟨i0, hi, hz0, hz1, hz2⟩ := info_parts info_u8
  refine wpList_append_own w hgd s x 22 ho base 5 i0 (.int .u8 0) 1 1 Tryd.underlying22 hi hz0 hz1 hz2 rfl (by decide) v l.length _ hs hown ad m c _ hx (by simpa using hm) hnews ?_ (by unfold maxLen; omega) (by omega) hbase ?_
  · intro u hu
    obtain ⟨z, _, rfl⟩ := List.mem_map.1 hu
    rfl
  · intro v' w' h2 h3 _
    refine h v' w' ?_ h3
    unfold OwnB
    rw [List.map_append, bts_map hns, List.length_append, bts_len, hm]
    exact h2

/-- Two bytes that have just been laid, appended at a step of a region that draws its order. -/
theorem step_two {ops : Array Oper} {o : Oper} {a : Act} {w : World} {K : Act → World → Prop} {Q : Exit → Act → World → Prop} {E : Prop} (hgd : o.guard = none) (s x : Operand)
    (ho : o.op = .call { callee := .builtin .append, args := #[s, x], argTypes := #[22, 22] })
    (base : Nat) (v : Value) (l : List UInt8) (hs : a.eval s = v) (hown : OwnB w base v l) (c : Nat) (y z : Nat) (hx : a.eval x = .slice (some ⟨w.heap.size, 0, none⟩) 2 c)
    (hy : y ≤ 255) (hz : z ≤ 255) (hlen : l.length ≤ 1099511627000) (hbase : base ≤ w.heap.size)
    (h : ∀ v' w', OwnB w' base v' (l ++ [UInt8.ofNat y, UInt8.ofNat z]) → (w.drew.alloc (.cells #[.int .u8 (y : Int), .int .u8 (z : Int)] 5)).grownBy w' v.ownBlock → K (a.put o.dst v') w') :
    if Region.wanted o (yielded ops a.tmps) = true then Oper.wp Tryd.prog o a (w.alloc (.cells #[.int .u8 (y : Int), .int .u8 (z : Int)] 5)).drew K Q else E := by
  refine step_bytes hgd s x ho base v l hs (hown.alloc _).drew ⟨w.heap.size, 0, none⟩ 2 c [(y : Int), (z : Int)] hx rfl (by decide) ?_ (cell_two_new w _ _ _) (by omega) (by show base ≤ (w.heap.push _).size; rw [Array.size_push]; omega) ?_
  · intro t ht
    simp only [List.mem_cons, List.not_mem_nil, or_false] at ht
    rcases ht with rfl | rfl <;> omega
  · intro v' w' h1 h2
    exact h v' w' h1 h2
/-- One byte that has just been laid, appended. -/
theorem list_one {ops : Array Oper} {rest : List Oper} {o : Oper} {a : Act} {w : World} {Q : Exit → Act → World → Prop} (hgd : o.guard = none) (s x : Operand)
    (ho : o.op = .call { callee := .builtin .append, args := #[s, x], argTypes := #[22, 22] })
    (base : Nat) (v : Value) (l : List UInt8) (hs : a.eval s = v) (hown : OwnB w base v l) (c : Nat) (y : Nat) (hx : a.eval x = .slice (some ⟨w.heap.size, 0, none⟩) 1 c)
    (hy : y ≤ 255) (hlen : l.length ≤ 1099511627000) (hbase : base ≤ w.heap.size)
    (h : ∀ v' w', OwnB w' base v' (l ++ [UInt8.ofNat y]) → (w.alloc (.cells #[.int .u8 (y : Int)] 5)).grownBy w' v.ownBlock → wpList Tryd.prog ops Q rest (a.put o.dst v') w') :
    wpList Tryd.prog ops Q (o :: rest) a (w.alloc (.cells #[.int .u8 (y : Int)] 5)) := by
  refine list_bytes hgd s x ho base v l hs (hown.alloc _) ⟨w.heap.size, 0, none⟩ 1 c [(y : Int)] hx rfl ?_ (cell_one_new w _ _) (by omega) (by simp; omega) ?_
  · intro t ht
    simp only [List.mem_cons, List.not_mem_nil, or_false] at ht
    subst ht; omega
  · intro v' w' h1 h2
    exact h v' w' h1 h2
/-- A byte slice of one's own as a string. -/
theorem OwnB.conv {w : World} {base : Nat} {v : Value} {l : List UInt8} (h : OwnB w base v l) : (convert 22 9 v).run Tryd.prog w = .ok (.string ⟨l.toArray⟩) w := by
  rcases h.2 with ⟨rfl, hn⟩ | ⟨g, cap, cur, rfl, hb, hg, _⟩
  · obtain rfl : l = [] := List.eq_nil_of_length_eq_zero hn
    exact Lib.run_convert_nil_bytes w _ _ 5 0 Tryd.underlying22 Tryd.underlying5 Tryd.underlying9
  · exact run_convert_bytes_back w _ _ 5 _ cap l Tryd.underlying22 Tryd.underlying5 Tryd.underlying9 (fun j hj => World.ownsRow.cells h (g := g) rfl j _ (by simp [hj]))
end Go.Proofs.YtobpnoiienpipaaDoor

/-
  What is proved: what the drawing functions of chapter 1 that make texts answer.
  Conditions: the bytes that they draw from can be read.
-/
namespace Go.Proofs.YtobpnoiienpipaaDoor
set_option linter.unusedVariables false
open Go.RowKit

/-- A text with the property P. -/
def TextPost (P : ByteArray → Prop) (b : Nat) (w : World) (e : Ending) (w' : World) : Prop :=
  ∃ s : ByteArray, P s ∧ e = .returned (.string s) ∧ Cur w' b ∧ w.grownBy w' (some b)
theorem TextPost.mk {P : ByteArray → Prop} {b : Nat} {w w' : World} {s : ByteArray} (h : P s) (hc : Cur w' b) (hg : w.grownBy w' (some b)) : TextPost P b w (.returned (.string s)) w' := ⟨s, h, rfl, hc, hg⟩
/-- Block g holds n texts with the property P. -/
def Strs (P : ByteArray → Prop) (w : World) (g n : Nat) : Prop := ∀ j, j < n → ∃ z : ByteArray, P z ∧ w.cell? ⟨g, j, none⟩ = some (.string z)
theorem Strs.lit {P : ByteArray → Prop} (w : World) (t : TypeId) (zs : List ByteArray) (h : ∀ z ∈ zs, P z) : Strs P (w.alloc (.cells (zs.map Value.string).toArray t)) w.heap.size zs.length := by
  intro j hj
  refine ⟨zs[j], h _ (List.getElem_mem hj), ?_⟩
  rw [World.cell?_alloc_at (hn := rfl)]
  simp [hj]

set_option maxHeartbeats 1000000 in
theorem l01Pick_any (P : ByteArray → Prop) (b g n cap : Nat) (w : World) (hc : Cur w b) (hn : 0 < n) (hn2 : n ≤ 1000) (hgb : g ≠ b) (hcap : n ≤ cap) (hl : Strs P w g n) :
    Calls Tryd.prog 72 #[.pointer (some ⟨b, 0, none⟩), .slice (some ⟨g, 0, none⟩) n cap] w fun e w' => TextPost P b w e w' := by
  have HL := Lib.hid hl
  clear hl
  go_enter Tryd.func72, Tryd.ntmps72
  go_wp2_with fail
  refine (l01Below_any b _ _ hc (by omega) (by omega)).mono ?_
  rintro e w1 ⟨x, hx, _, rfl, hc1, hg1⟩
  have hxn : x < n := by have := hx (by omega); omega
  obtain ⟨z, hz, hcz⟩ := HL.out x hxn
  have hcz1 := hg1.cell hcz (by simpa using hgb)
  clear hcz hx
  go_wp2
  go_ret
  exact TextPost.mk hz hc1 hg1

/-- The text that is being drawn. -/
def TextAt (w : World) (b k : Nat) (v : Value) (wr : World) : Prop := ∃ l : List UInt8, l.length = k ∧ OwnB wr w.heap.size v l ∧ Cur wr b ∧ w.grownBy wr (some b)
theorem OwnB.ne {w : World} {base b : Nat} {v : Value} {l : List UInt8} (h : OwnB w base v l) (hb : b < base) : v.ownBlock = none ∨ v.ownBlock ≠ some b := by
  cases hv : v.ownBlock with
  | none => exact .inl rfl
  | some k => exact .inr (fun e => by have := (h.lt k hv).1; simp at e; omega)


/-- A slice of n bytes that make has laid. -/
theorem run_make_full (w : World) (n : Nat) (hn : n ≤ 1000000) :
    ∃ w', (Instr.makeSlice 22 (.int .i64 (n : Int)) (.int .i64 (n : Int))).run Tryd.prog w = .ok (.slice (some ⟨w.heap.size, 0, none⟩) n n) w' ∧ w.grownBy w' none ∧ w'.heap.size = w.heap.size + 1 ∧ OwnB w' w.heap.size (.slice (some ⟨w.heap.size, 0, none⟩) n n) (List.replicate n 0) := by
  obtain ⟨i0, hi, hz0, hz1, hz2⟩ := info_parts info_u8
  have hr := run_make (P := Tryd.prog) w 22 5 i0 (.int .u8 0) Tryd.underlying22 hi hz0 .i64 .i64 n n (by omega) (by omega) (by rw [hz2]; omega) (by omega)
  simp only [Int.toNat_natCast] at hr
  refine ⟨_, hr, World.grownBy_alloc w _ none, by simp, ?_⟩
  refine ⟨by simp, .inr ⟨w.heap.size, n, _, by rw [List.length_replicate], Nat.le_refl _, heap_alloc_new w _, by simp, by unfold maxLen; omega, by rw [size_madeCells, hz1], ?_⟩⟩
  rw [hz1, Nat.mul_one, List.length_replicate, Nat.mul_one]
  apply List.ext_getElem
  · simp [size_madeCells]
  · intro j h1 h2
    simp [madeCells, Value.cells, Nat.mod_one]
/-- A store into a byte slice of one's own. -/
theorem OwnB.store {w : World} {base g n : Nat} {l : List UInt8} (h : OwnB w base (.slice (some ⟨g, 0, none⟩) n n) l) (hl : l.length = n) (k : Nat) (hk : k < n) (y : UInt8) :
    OwnB (w.setCell ⟨g, k, none⟩ (.int .u8 (y.toNat : Int))) base (.slice (some ⟨g, 0, none⟩) n n) (l.set k y) := by
  obtain ⟨h1, h2⟩ := h
  rcases h2 with ⟨h2, _⟩ | ⟨g', cap, cur, hv, hb, hg, hn, hcap, hsz, htk⟩
  · cases h2
  · simp only [Value.slice.injEq, Option.some.injEq, Addr.mk.injEq] at hv
    obtain ⟨⟨rfl, _⟩, _, rfl⟩ := hv
    refine ⟨by simp, .inr ⟨g, n, cur.setIfInBounds k (.int .u8 (y.toNat : Int)), by rw [List.length_set, hl], hb, heap_set hg, by rw [List.length_set, hl]; exact Nat.le_refl _, hcap, by simpa using hsz, ?_⟩⟩
    rw [List.length_set, hl, Nat.mul_one] 
    rw [hl, Nat.mul_one] at htk
    rw [Array.toList_setIfInBounds, List.take_set, htk, List.map_set]
theorem OwnB.facts {w : World} {base g n : Nat} {l : List UInt8} (h : OwnB w base (.slice (some ⟨g, 0, none⟩) n n) l) (k : Nat) (hk : k < l.length) : (∃ u, w.cell? ⟨g, k, none⟩ = some u) ∧ w.frozen? ⟨g, k, none⟩ = false := by
  have hc := World.ownsRow.cells h (g := g) rfl k (.int .u8 (l[k].toNat : Int)) (by simp [hk])
  have hadd : (⟨g, 0, none⟩ : Addr).add k = ⟨g, k, none⟩ := by unfold Addr.add; split <;> simp_all
  rw [hadd] at hc
  refine ⟨⟨_, hc⟩, ?_⟩
  obtain ⟨h1, h2⟩ := h
  rcases h2 with ⟨h2, _⟩ | ⟨g', cap, cur, hv, hb, hg, hn, hcap, hsz, htk⟩
  · cases h2
  · simp only [Value.slice.injEq, Option.some.injEq, Addr.mk.injEq] at hv
    obtain ⟨⟨rfl, _⟩, _⟩ := hv
    simp [World.frozen?, hg]

/-- A text of n bytes in memory of its own. -/
def LongPost (n : Nat) (w : World) (e : Ending) (w' : World) : Prop := ∃ s : ByteArray, s.size = n ∧ e = .returned (.string s) ∧ w.grownBy w' none
theorem LongPost.mk {n : Nat} {w w' : World} {s : ByteArray} (h : s.size = n) (hg : w.grownBy w' none) : LongPost n w (.returned (.string s)) w' := ⟨s, h, rfl, hg⟩
def LongAt (w : World) (n : Nat) (wr : World) : Prop := ∃ l : List UInt8, l.length = n ∧ OwnB wr w.heap.size (.slice (some ⟨w.heap.size, 0, none⟩) n n) l ∧ w.grownBy wr none



end Go.Proofs.YtobpnoiienpipaaDoor
