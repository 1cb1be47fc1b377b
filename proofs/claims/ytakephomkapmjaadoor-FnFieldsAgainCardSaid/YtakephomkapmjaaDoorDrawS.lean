/-
  What is proved: what the drawing functions of chapter 1 that make texts answer.
  Conditions: the bytes that they draw from can be read.
-/
import Derived.Test.YtakephomkapmjaaDoorDraw
import Derived.Test.YtakephomkapmjaaDoorBytes
namespace Go.Proofs.YtakephomkapmjaaDoor
set_option linter.unusedVariables false
open Go.RowKit

/-- A text with the property P. -/
def TextPost (P : ByteArray → Prop) (b : Nat) (w : World) (e : Ending) (w' : World) : Prop :=
  ∃ s : ByteArray, P s ∧ e = .returned (.string s) ∧ Cur w' b ∧ w.grownBy w' (some b)
theorem TextPost.mk {P : ByteArray → Prop} {b : Nat} {w w' : World} {s : ByteArray} (h : P s) (hc : Cur w' b) (hg : w.grownBy w' (some b)) : TextPost P b w (.returned (.string s)) w' := ⟨s, h, rfl, hc, hg⟩
/-- Block g holds n texts with the property P. -/
def Strs (P : ByteArray → Prop) (w : World) (g n : Nat) : Prop := ∀ j, j < n → ∃ z : ByteArray, P z ∧ w.cell? ⟨g, j, none⟩ = some (.string z)
theorem Strs.lit {P : ByteArray → Prop} (w : World) (t : TypeId) (zs : List ByteArray) (h : ∀ z ∈ zs, P z) : Strs P (w.alloc (.cells (zs.map Value.string).toArray t)) w.heap.size zs.length := by
  intro j hj
  refine ⟨zs[j], h _ (List.getElem_mem hj), ?_⟩
  rw [World.cell?_alloc_at (hn := rfl)]
  simp [hj]

set_option maxHeartbeats 1000000 in
theorem l01Pick_any (P : ByteArray → Prop) (b g n cap : Nat) (w : World) (hc : Cur w b) (hn : 0 < n) (hn2 : n ≤ 1000) (hgb : g ≠ b) (hcap : n ≤ cap) (hl : Strs P w g n) :
    Calls Tryd.prog 41 #[.pointer (some ⟨b, 0, none⟩), .slice (some ⟨g, 0, none⟩) n cap] w fun e w' => TextPost P b w e w' := by
  have HL := Lib.hid hl
  clear hl
  go_enter Tryd.func41, Tryd.ntmps41
  go_wp2_with fail
  refine (l01Below_any b _ _ hc (by omega) (by omega)).mono ?_
  rintro e w1 ⟨x, hx, _, rfl, hc1, hg1⟩
  have hxn : x < n := by have := hx (by omega); omega
  obtain ⟨z, hz, hcz⟩ := HL.out x hxn
  have hcz1 := hg1.cell hcz (by simpa using hgb)
  clear hcz hx
  go_wp2
  go_ret
  exact TextPost.mk hz hc1 hg1

/-- The text that is being drawn. -/
def TextAt (w : World) (b k : Nat) (v : Value) (wr : World) : Prop := ∃ l : List UInt8, l.length = k ∧ OwnB wr w.heap.size v l ∧ Cur wr b ∧ w.grownBy wr (some b)
theorem OwnB.ne {w : World} {base b : Nat} {v : Value} {l : List UInt8} (h : OwnB w base v l) (hb : b < base) : v.ownBlock = none ∨ v.ownBlock ≠ some b := by
  cases hv : v.ownBlock with
  | none => exact .inl rfl
  | some k => exact .inr (fun e => by have := (h.lt k hv).1; simp at e; omega)

set_option maxHeartbeats 1000000 in
theorem l01Text_any (b n : Nat) (w : World) (hc : Cur w b) (hn : n ≤ 5000) :
    Calls Tryd.prog 35 #[.pointer (some ⟨b, 0, none⟩), .int .i64 (n : Int)] w fun e w' => TextPost (fun s => s.size = n) b w e w' := by
  have hlt := hc.lt
  have hst : TextAt w b 0 (.slice (some ⟨w.heap.size, 0, none⟩) 0 0) (w.alloc (.cells #[] 5)) := ⟨[], rfl, OwnB.made0 w, hc.alloc _, World.grownBy_alloc _ _ _⟩
  have HC := Lib.hid hc
  clear hc
  go_enter Tryd.func35, Tryd.ntmps35
  go_wp2
  go_loopw [5, 6] (fun v i wr => ∃ k : Nat, k ≤ n ∧ i = .int .i64 (k : Nat) ∧ TextAt w b k v wr) (fun _ i _ => n - (intOf i).toNat)
  case atStart => exact ⟨0, Nat.zero_le _, rfl, hst⟩
  case round =>
    obtain ⟨k, hk, rfl, l, hll, hown, hcr, hgr⟩ := hrel
    have HW := Lib.hid hown
    have HLL := Lib.hid hll
    clear hown hll
    by_cases hlt2 : k < n
    · go_wp2_with fail
      refine (l01Byte_any b _ hcr).mono ?_
      rintro e w1 ⟨x, hx, rfl, hc1, hg1⟩
      have hown1 := HW.out.kept hg1 (HW.out.ne hlt)
      have hsz1 := hg1.size
      have hszr := hgr.size
      have hlen' : l.length ≤ 1099511627000 := by rw [HLL.out]; omega
      have HW1 := Lib.hid hown1
      clear hown1
      go_wp2_with (at_builtin; refine list_one rfl (.tmp 15) (.tmp 19) rfl w.heap.size _ _ rfl HW1.out _ _ rfl hx hlen' (by omega) ?_; intro v' w2 ho hg)
      go_roundw
      case rel => exact ⟨k + 1, by omega, by go_num, _, by rw [List.length_append, HLL.out]; rfl, ho, (hc1.alloc _).grown hg (fun r hr => by have := (HW.out.lt r hr).1; omega), ((hgr.trans hg1).trans (World.grownBy_alloc _ _ _)).andThen hg (fun r hr => .inl (HW.out.lt r hr).1)⟩
      case measure => simp [intOf]; omega
    · have hkn : k = n := by omega
      have hconv := HW.out.conv
      go_wp2
      go_ret
      exact TextPost.mk (by show l.toArray.size = n; simp [HLL.out, hkn]) hcr hgr

/-- A slice of n bytes that make has laid. -/
theorem run_make_full (w : World) (n : Nat) (hn : n ≤ 1000000) :
    ∃ w', (Instr.makeSlice 22 (.int .i64 (n : Int)) (.int .i64 (n : Int))).run Tryd.prog w = .ok (.slice (some ⟨w.heap.size, 0, none⟩) n n) w' ∧ w.grownBy w' none ∧ w'.heap.size = w.heap.size + 1 ∧ OwnB w' w.heap.size (.slice (some ⟨w.heap.size, 0, none⟩) n n) (List.replicate n 0) := by
  obtain ⟨i0, hi, hz0, hz1, hz2⟩ := info_parts info_u8
  have hr := run_make (P := Tryd.prog) w 22 5 i0 (.int .u8 0) Tryd.underlying22 hi hz0 .i64 .i64 n n (by omega) (by omega) (by rw [hz2]; omega) (by omega)
  simp only [Int.toNat_natCast] at hr
  refine ⟨_, hr, World.grownBy_alloc w _ none, by simp, ?_⟩
  refine ⟨by simp, .inr ⟨w.heap.size, n, _, by rw [List.length_replicate], Nat.le_refl _, heap_alloc_new w _, by simp, by unfold maxLen; omega, by rw [size_madeCells, hz1], ?_⟩⟩
  rw [hz1, Nat.mul_one, List.length_replicate, Nat.mul_one]
  apply List.ext_getElem
  · simp [size_madeCells]
  · intro j h1 h2
    simp [madeCells, Value.cells, Nat.mod_one]
/-- A store into a byte slice of one's own. -/
theorem OwnB.store {w : World} {base g n : Nat} {l : List UInt8} (h : OwnB w base (.slice (some ⟨g, 0, none⟩) n n) l) (hl : l.length = n) (k : Nat) (hk : k < n) (y : UInt8) :
    OwnB (w.setCell ⟨g, k, none⟩ (.int .u8 (y.toNat : Int))) base (.slice (some ⟨g, 0, none⟩) n n) (l.set k y) := by
  obtain ⟨h1, h2⟩ := h
  rcases h2 with ⟨h2, _⟩ | ⟨g', cap, cur, hv, hb, hg, hn, hcap, hsz, htk⟩
  · cases h2
  · simp only [Value.slice.injEq, Option.some.injEq, Addr.mk.injEq] at hv
    obtain ⟨⟨rfl, _⟩, _, rfl⟩ := hv
    refine ⟨by simp, .inr ⟨g, n, cur.setIfInBounds k (.int .u8 (y.toNat : Int)), by rw [List.length_set, hl], hb, heap_set hg, by rw [List.length_set, hl]; exact Nat.le_refl _, hcap, by simpa using hsz, ?_⟩⟩
    rw [List.length_set, hl, Nat.mul_one] 
    rw [hl, Nat.mul_one] at htk
    rw [Array.toList_setIfInBounds, List.take_set, htk, List.map_set]
theorem OwnB.facts {w : World} {base g n : Nat} {l : List UInt8} (h : OwnB w base (.slice (some ⟨g, 0, none⟩) n n) l) (k : Nat) (hk : k < l.length) : (∃ u, w.cell? ⟨g, k, none⟩ = some u) ∧ w.frozen? ⟨g, k, none⟩ = false := by
  have hc := World.ownsRow.cells h (g := g) rfl k (.int .u8 (l[k].toNat : Int)) (by simp [hk])
  have hadd : (⟨g, 0, none⟩ : Addr).add k = ⟨g, k, none⟩ := by unfold Addr.add; split <;> simp_all
  rw [hadd] at hc
  refine ⟨⟨_, hc⟩, ?_⟩
  obtain ⟨h1, h2⟩ := h
  rcases h2 with ⟨h2, _⟩ | ⟨g', cap, cur, hv, hb, hg, hn, hcap, hsz, htk⟩
  · cases h2
  · simp only [Value.slice.injEq, Option.some.injEq, Addr.mk.injEq] at hv
    obtain ⟨⟨rfl, _⟩, _⟩ := hv
    simp [World.frozen?, hg]

/-- A text of n bytes in memory of its own. -/
def LongPost (n : Nat) (w : World) (e : Ending) (w' : World) : Prop := ∃ s : ByteArray, s.size = n ∧ e = .returned (.string s) ∧ w.grownBy w' none
theorem LongPost.mk {n : Nat} {w w' : World} {s : ByteArray} (h : s.size = n) (hg : w.grownBy w' none) : LongPost n w (.returned (.string s)) w' := ⟨s, h, rfl, hg⟩
def LongAt (w : World) (n : Nat) (wr : World) : Prop := ∃ l : List UInt8, l.length = n ∧ OwnB wr w.heap.size (.slice (some ⟨w.heap.size, 0, none⟩) n n) l ∧ w.grownBy wr none

set_option maxHeartbeats 1000000 in
theorem l01Long_any (n x : Nat) (w : World) (hn : n ≤ 1000000) (hx : x ≤ 255) :
    Calls Tryd.prog 33 #[.int .i64 (n : Int), .int .u8 (x : Int)] w fun e w' => LongPost n w e w' := by
  obtain ⟨w1, hmk, hg, hsz, hown⟩ := run_make_full w n hn
  have hst : LongAt w n w1 := ⟨_, by simp, hown, hg⟩
  clear hown hg
  go_enter Tryd.func33, Tryd.ntmps33
  go_wp2
  clear hmk hsz
  go_loopw [6] (fun i wr => ∃ k : Nat, k ≤ n ∧ i = .int .i64 (k : Nat) ∧ LongAt w n wr) (fun i _ => n - (intOf i).toNat)
  case atStart => exact ⟨0, Nat.zero_le _, rfl, hst⟩
  case round =>
    obtain ⟨k, hk, rfl, l, hll, hown, hgr⟩ := hrel
    by_cases hlt2 : k < n
    · obtain ⟨⟨u, hu⟩, hf⟩ := hown.facts k (by omega)
      have hst2 := hown.store hll k hlt2 (UInt8.ofNat x)
      rw [show (UInt8.ofNat x).toNat = x by rw [UInt8.toNat_ofNat']; omega] at hst2
      have HW := Lib.hid hst2
      have HLL := Lib.hid hll
      clear hown hll hst2
      go_wp2
      go_roundw
      case rel => exact ⟨k + 1, by omega, by go_num, _, by rw [List.length_set]; exact HLL.out, HW.out, hgr.andThen (Lib.grownBy_setCell _ _ _ _) (fun j hj => by cases hj; exact .inl (Nat.le_refl _))⟩
      case measure => simp [intOf]; omega
    · have hconv := hown.conv
      have HLL := Lib.hid hll
      clear hown hll
      go_wp2
      go_ret
      exact LongPost.mk (by show l.toArray.size = n; simp [HLL.out]) hgr

set_option maxHeartbeats 1000000 in
theorem drawEncodeHex_any (a : Option Addr) (len cap : Nat) (w : World) (hs : Src w w.heap.size a len cap) :
    Calls Tryd.prog 12 #[.slice a len cap] w fun e w' => DrawS 30000 w e w' := by
  have HN := Lib.hid (l01New_any a len cap w hs)
  clear hs
  go_enter Tryd.func12, Tryd.ntmps12
  go_wp2_with fail
  refine HN.out.mono ?_
  rintro e w1 ⟨rfl, hc1, hg1⟩
  go_wp2_with fail
  refine (l01Once_any _ _ _ hc1 (by decide) (by decide)).mono ?_
  rintro e w2 ⟨t, rfl, hc2, hg2⟩
  cases t
  · go_wp2_with fail
    refine (l01Below_any _ _ _ hc2 (by decide) (by decide)).mono ?_
    rintro e w3 ⟨x, hx, _, rfl, hc3, hg3⟩
    have hx := hx (by decide)
    go_wp2_with fail
    refine (l01Text_any _ x _ hc3 (by omega)).mono ?_
    rintro e w4 ⟨s, hss, rfl, hc4, hg4⟩
    have HSS := Lib.hid hss
    clear hss
    go_wp2
    go_ret
    exact DrawS.mk (by rw [HSS.out]; omega) (drawn hg1 ((hg2.trans hg3).trans hg4))
  · go_wp2_with fail
    refine (l01Below_any _ _ _ hc2 (by decide) (by decide)).mono ?_
    rintro e w3 ⟨x, hx, _, rfl, hc3, hg3⟩
    have hx := hx (by decide)
    go_wp2_with fail
    refine (l01Long_any (20000 + x) 200 _ (by omega) (by decide)).mono ?_
    rintro e w4 ⟨s, hss, rfl, hg4⟩
    have HSS := Lib.hid hss
    clear hss
    go_wp2
    go_ret
    exact DrawS.mk (by rw [HSS.out]; omega) (drawn hg1 ((hg2.trans hg3).trans (hg4.but _)))

set_option maxHeartbeats 1000000 in
theorem drawParseFixed_any (a : Option Addr) (len cap : Nat) (w : World) (hs : Src w w.heap.size a len cap) :
    Calls Tryd.prog 25 #[.slice a len cap] w fun e w' => DrawS 1000 w e w' := by
  have HN := Lib.hid (l01New_any a len cap w hs)
  clear hs
  go_enter Tryd.func25, Tryd.ntmps25
  go_wp2_with fail
  refine HN.out.mono ?_
  rintro e w1 ⟨rfl, hc1, hg1⟩
  go_wp2_with fail
  refine (l01Below_any _ _ _ hc1 (by decide) (by decide)).mono ?_
  rintro e w2 ⟨x, hx, _, rfl, hc2, hg2⟩
  have hx := hx (by decide)
  go_wp2_with fail
  have hl := ffx_len ((x : Int) - 2000000)
  refine (specFormatFixed_any _ _ (by omega) (by omega)).mono ?_
  rintro e w3 ⟨rfl, hb3⟩
  generalize ffx ((x : Int) - 2000000) = t at *
  have hc3 := hc2.grown (row := none) ⟨hb3.os, hb3.tape, hb3.output, hb3.size, fun k hk _ => hb3.block k hk⟩ (fun _ h => by cases h)
  have hg3 : w1.grownBy w3 (some w.heap.size) := hg2.trans ⟨hb3.os, hb3.tape, hb3.output, hb3.size, fun k hk _ => hb3.block k hk⟩
  have HL := Lib.hid hl
  clear hl hx hb3
  go_wp2_with fail
  refine (l01Below_any _ _ _ hc3 (by decide) (by decide)).mono ?_
  rintro e w4 ⟨y, hy, _, rfl, hc4, hg4⟩
  clear hy
  by_cases h0 : y = 0
  · subst h0
    have HS := Lib.hid (Strs.lit (P := fun z => z.size ≤ 200) w4 9 [⟨#[]⟩, ⟨#[45]⟩, ⟨#[48, 46, 48, 48]⟩, ⟨#[48, 46, 48, 48, 48, 48]⟩, ⟨#[45, 48, 46, 48, 48, 48]⟩, ⟨#[48, 48, 46, 48, 48, 48]⟩, ⟨#[49, 48, 48, 48, 48, 48, 48, 46, 48, 48, 48]⟩, ⟨#[49, 48, 48, 48, 48, 48, 48, 46, 48, 48, 49]⟩, ⟨#[45, 49, 48, 48, 48, 48, 48, 48, 46, 48, 48, 48]⟩, ⟨#[57, 57, 57, 57, 57, 57, 57, 46, 57, 57, 57]⟩, ⟨#[57, 57, 57, 57, 57, 57, 57, 57, 46, 57, 57, 57]⟩, ⟨#[49, 44, 48, 48, 48]⟩, ⟨#[43, 49, 46, 48, 48, 48]⟩, ⟨#[46, 53, 48, 48]⟩, ⟨#[48, 46, 53, 97, 48]⟩, ⟨#[49, 46, 48, 48, 48, 32]⟩] (by decide))
    go_wp2_with fail
    refine (l01Pick_any (fun z => z.size ≤ 200) _ _ 16 16 _ (hc4.alloc _) (by decide) (by decide) (by have := hc4.lt; omega) (by decide) HS.out).mono ?_
    rintro e w5 ⟨z, hz, rfl, hc5, hg5⟩
    go_wp2
    go_ret
    exact DrawS.mk (by omega) (drawn hg1 ((hg3.trans hg4).trans ((World.grownBy_alloc w4 _ _).trans hg5)))
  · have hb0 : ((y : Int) == 0) = false := by simp; omega
    by_cases h1 : y = 1
    · subst h1
      have hl := HL.out
      go_wp2
      go_ret
      exact DrawS.mk (by rw [ByteArray.size_append]; show t.toArray.size + 1 ≤ _; simp; omega) (drawn hg1 (hg3.trans hg4))
    · have hb1 : ((y : Int) == 1) = false := by simp; omega
      by_cases h2 : y = 2
      · subst h2
        have hl := HL.out
        go_wp2
        go_ret
        exact DrawS.mk (by rw [ByteArray.size_append]; show 1 + t.toArray.size ≤ _; simp; omega) (drawn hg1 (hg3.trans hg4))
      · have hb2 : ((y : Int) == 2) = false := by simp; omega
        clear h0 h1 h2
        go_wp2
        go_ret
        exact DrawS.mk (by show t.toArray.size ≤ _; have := HL.out; simp; omega) (drawn hg1 (hg3.trans hg4))
end Go.Proofs.YtakephomkapmjaaDoor
