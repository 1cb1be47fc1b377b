/-
  What is proved: the draw of FnTuned: a new set and a few short lines.
  Conditions: the bytes that are drawn from can be read.
-/
import Derived.Test.YtobpnoiienpipaaDoorLine8
import Derived.Test.YtobpnoiienpipaaDoorNewSet
import Derived.Test.YtobpnoiienpipaaDoorTuneF
namespace Go.Proofs.YtobpnoiienpipaaDoor
set_option linter.unusedVariables false
open Go.RowKit
attribute [local go_sem] run_store_float run_store_complex unary_negf neg256

theorem src_up {w : World} {a : Option Addr} {len cap : Nat} (h : Src w w.heap.size a len cap) (o : Obj) : Src (w.alloc o) (w.alloc o).heap.size a len cap := by
  have h1 := h.grown (World.grownBy_alloc w o (some w.heap.size))
  have hz : (w.alloc o).heap.size = w.heap.size + 1 := by simp
  refine ⟨h1.1, fun i hi => ?_⟩
  obtain ⟨g, off, z, e1, e2, e3, e4⟩ := h1.2 i hi
  exact ⟨g, off, z, e1, by omega, e3, e4⟩
/-- A new set, and a few short lines in memory of their own. -/
def DrawAllPost (w : World) (e : Ending) (w' : World) : Prop :=
  ∃ (c r : Int) (v : Value) (lines : List (List UInt8)), I64 c ∧ I64 r ∧ lines.length ≤ 6 ∧ (∀ l ∈ lines, l.length ≤ 400) ∧ e = .returned (.tuple #[(newR c r).val (.slice none 0 0), v]) ∧ OwnS w' w.heap.size v lines ∧ Below w.heap.size w w'
/-- A list of texts lies in no set's block. -/
theorem own_mark9 {W : World} {b base : Nat} {cs : Array Value} {v : Value} {ls : List (List UInt8)} (hb : W.heap[b]? = some (.cells cs 27 (0, 0))) (h : OwnS W base v ls) : some b ≠ v.ownBlock := by
  intro e
  rcases h.2 with ⟨rfl, _⟩ | ⟨g, cap, cur, rfl, _, hg, _⟩
  · cases e
  have e' : some b = some g := e
  injection e' with e'
  subst e'
  rw [hb] at hg
  injection hg with e
  injection e with _ e2
  exact absurd e2 (by decide)
/-- What lies where while lines are drawn. -/
structure LinesAt (w : World) (x : SetC) (b2 k : Nat) (d : Value) (wr : World) : Prop where
  cur : Cur wr (w.heap.size + 1)
  res : wr.heap[w.heap.size]? = some (.cells #[.int .i64 0, .int .i64 0, .float .f32 0, .float .f32 0, .float .f32 0, .slice none 0 0] 27 (0, 0))
  set : wr.heap[b2]? = some (.cells (x.cells (.slice none 0 0)) 27 (0, 0))
  own : ∃ lines, OwnS wr (w.heap.size + 2) d lines ∧ lines.length + k ≤ 6 ∧ ∀ l ∈ lines, l.length ≤ 400
  below : Below w.heap.size w wr
set_option maxRecDepth 100000 in
set_option maxHeartbeats 2000000 in
theorem drawTuneAll_any (a : Option Addr) (len cap : Nat) (w : World) (hs : Src w w.heap.size a len cap) :
    Calls Tryd.prog 11 #[.slice a len cap] w fun e w' => DrawAllPost w e w' := by
  have k1 := heap_alloc_new w (.cells #[.int .i64 0, .int .i64 0, .float .f32 0, .float .f32 0, .float .f32 0, .slice none 0 0] 27)
  have g0 : Below w.heap.size w (w.alloc (.cells #[.int .i64 0, .int .i64 0, .float .f32 0, .float .f32 0, .float .f32 0, .slice none 0 0] 27)) := (Below.refl _ _).alloc (Nat.le_refl _) _
  have hz0 : (w.alloc (.cells #[.int .i64 0, .int .i64 0, .float .f32 0, .float .f32 0, .float .f32 0, .slice none 0 0] 27)).heap.size = w.heap.size + 1 := by simp
  have HN := Lib.hid (l01New_any a len cap (w.alloc (.cells #[.int .i64 0, .int .i64 0, .float .f32 0, .float .f32 0, .float .f32 0, .slice none 0 0] 27)) (src_up hs (.cells #[.int .i64 0, .int .i64 0, .float .f32 0, .float .f32 0, .float .f32 0, .slice none 0 0] 27)))
  unfold NewPost at HN
  rw [hz0] at HN
  have HB := fun b W hc n h0 h1 => Lib.hid (l01Below_any b n W hc h0 h1)
  have HL := fun b W hc => Lib.hid (l08Line_any b W hc)
  have HW := fun c r W hc hr => Lib.hid (specNewSet_any c r W hc hr)
  clear hs
  go_enter Tryd.func11, Tryd.ntmps11
  go_wp2_with fail
  generalize World.alloc w _ = X at *
  refine HN.out.mono ?_
  rintro e w1 ⟨rfl, hc1, hg1⟩
  have hz1 := hg1.size
  replace k1 := (hg1.block w.heap.size (by omega) (by simp)).trans k1
  have g1 : Below w.heap.size w w1 := g0.grown hg1 g0.size (fun r h => by cases h)
  clear HN hg1
  go_wp2_with fail
  refine (HB _ w1 hc1 5 (by decide) (by decide)).out.mono ?_
  rintro e w2 ⟨x, hx, _, rfl, hc2, hg2⟩
  have hx := hx (by decide)
  have hz2 := hg2.size
  replace k1 := (hg2.block w.heap.size (by omega) (by simp)).trans k1
  have g2 : Below w.heap.size w w2 := g1.grown hg2 g1.size (fun r h => by cases h; omega)
  clear hc1 hg2
  go_wp2_with fail
  refine (HB _ w2 hc2 5 (by decide) (by decide)).out.mono ?_
  rintro e w3 ⟨y, hy, _, rfl, hc3, hg3⟩
  have hy := hy (by decide)
  have hz3 := hg3.size
  replace k1 := (hg3.block w.heap.size (by omega) (by simp)).trans k1
  have g3 : Below w.heap.size w w3 := g2.grown hg3 g2.size (fun r h => by cases h; omega)
  clear hc2 hg3
  have hcc : I64 (1 + (x : Int)) := ⟨by omega, by omega⟩
  have hrr : I64 (4 * (y : Int)) := ⟨by omega, by omega⟩
  go_wp2_with fail
  refine (HW (1 + (x : Int)) (4 * (y : Int)) w3 hcc hrr).out.mono ?_
  rintro e w4 ⟨rfl, hb4⟩
  have hz4 := hb4.size
  replace k1 := (hb4.block w.heap.size (by omega)).trans k1
  have g4 := below_trans g3 hb4 g3.size
  have hc4 := cur_below hc3 hb4
  generalize 1 + (x : Int) = c at *
  generalize 4 * (y : Int) = r at *
  have HPOST := fun (w' : World) v lines h1 h2 h3 h4 => Lib.hid (show DrawAllPost w (.returned (.tuple #[(newR c r).val (.slice none 0 0), v])) w' from ⟨c, r, v, lines, hcc, hrr, h1, h2, rfl, h3, h4⟩)
  generalize newR c r = nc at *
  obtain ⟨zc, zr, zs, zl, zt⟩ := nc
  simp only [SetC.val] at *
  clear hx hy hb4 hc3 hcc hrr HW
  have m1 := (alloc_keeps w4 (.cells #[.int .i64 zc, .int .i64 zr, .float .f32 zs, .float .f32 zl, .float .f32 zt, .slice none 0 0] 27) (show w.heap.size < w4.heap.size by omega)).trans k1
  have m3 := heap_alloc_new w4 (.cells #[.int .i64 zc, .int .i64 zr, .float .f32 zs, .float .f32 zl, .float .f32 zt, .slice none 0 0] 27)
  have g5 := g4.alloc g4.size (.cells #[.int .i64 zc, .int .i64 zr, .float .f32 zs, .float .f32 zl, .float .f32 zt, .slice none 0 0] 27)
  have hc5 : Cur (w4.alloc (.cells #[.int .i64 zc, .int .i64 zr, .float .f32 zs, .float .f32 zl, .float .f32 zt, .slice none 0 0] 27)) (w.heap.size + 1) := hc4.alloc _
  have hz5 : (w4.alloc (.cells #[.int .i64 zc, .int .i64 zr, .float .f32 zs, .float .f32 zl, .float .f32 zt, .slice none 0 0] 27)).heap.size = w4.heap.size + 1 := by simp
  have hD := OwnS.made0 (w4.alloc (.cells #[.int .i64 zc, .int .i64 zr, .float .f32 zs, .float .f32 zl, .float .f32 zt, .slice none 0 0] 27))
  replace m1 := (alloc_keeps (w4.alloc (.cells #[.int .i64 zc, .int .i64 zr, .float .f32 zs, .float .f32 zl, .float .f32 zt, .slice none 0 0] 27)) (.cells #[] 9) (by omega)).trans m1
  replace m3 := (alloc_keeps (w4.alloc (.cells #[.int .i64 zc, .int .i64 zr, .float .f32 zs, .float .f32 zl, .float .f32 zt, .slice none 0 0] 27)) (.cells #[] 9) (show w4.heap.size < _ by omega)).trans m3
  replace g5 := g5.alloc g5.size (.cells #[] 9)
  replace hc5 : Cur ((w4.alloc (.cells #[.int .i64 zc, .int .i64 zr, .float .f32 zs, .float .f32 zl, .float .f32 zt, .slice none 0 0] 27)).alloc (.cells #[] 9)) (w.heap.size + 1) := hc5.alloc _
  rw [hz5] at hD
  have hb4' : w.heap.size + 2 ≤ w4.heap.size := by have := hc4.lt; omega
  clear hc4 k1
  go_wp2_with fail
  refine (HB _ _ hc5 6 (by decide) (by decide)).out.mono ?_
  rintro e w6 ⟨n, hn, _, rfl, hc6, hg6⟩
  have hn := hn (by decide)
  have hsz : ((w4.alloc (.cells #[.int .i64 zc, .int .i64 zr, .float .f32 zs, .float .f32 zl, .float .f32 zt, .slice none 0 0] 27)).alloc (.cells #[] 9)).heap.size = w4.heap.size + 2 := by simp
  have hP : LinesAt w ⟨zc, zr, zs, zl, zt⟩ w4.heap.size n (.slice (some ⟨w4.heap.size + 1, 0, none⟩) 0 0) w6 := by
    refine ⟨hc6, (hg6.block _ (by omega) (by simp)).trans m1, (hg6.block _ (by omega) (fun e => by injection e; omega)).trans m3, ⟨[], ?_, by simp; omega, by simp⟩, g5.grown hg6 g5.size (fun r h => by cases h; omega)⟩
    exact (hD.kept hg6 (.inr fun e => by
      have e' : some (w4.heap.size + 1) = some (w.heap.size + 1) := e
      injection e'
      omega)).low (by omega)
  have HP := Lib.hid hP
  clear hP hc5 hg6 hc6 hD m1 m3 g5 hn
  go_wp2
  generalize hb9 : w4.heap.size = b9 at *
  clear hz4 hz5 hsz hb9 g4
  go_loopw [7, 8] (fun d n wr => ∃ k : Nat, n = .int .i64 (k : Int) ∧ LinesAt w ⟨zc, zr, zs, zl, zt⟩ b9 k d wr) (fun _ n _ => (intOf n).toNat)
  case atStart => exact ⟨n, rfl, HP.out⟩
  case round =>
    obtain ⟨k, rfl, hat⟩ := hrel
    obtain ⟨hc, s1, s3, ⟨lines, ho, hlk, hl4⟩, hbw⟩ := hat
    cases k with
    | zero =>
      obtain ⟨ad, cd, hd⟩ := ho.row.lenv
      subst hd
      have HO := Lib.hid ho
      have HBW := Lib.hid hbw
      have HL4 := Lib.hid hl4
      have hll : lines.length ≤ 6 := by omega
      obtain ⟨p0, p1, p2, p3, p4, p5⟩ := SetAt.of (x := ⟨zc, zr, zs, zl, zt⟩) (v := .slice none 0 0) s3
      obtain ⟨r0, r1, r2, r3, r4, r5⟩ := SetAt.of (x := zeroC) (v := .slice none 0 0) s1
      obtain ⟨t0, t1, t2, t3, t4, t5⟩ := froz6 s1
      simp only [zeroC] at r0 r1 r2 r3 r4
      clear s1 s3 hlk hc ho hbw hl4
      go_wp2
      refine bodyPost_ret (v := .tuple #[.agg #[.int .i64 zc, .int .i64 zr, .float .f32 zs, .float .f32 zl, .float .f32 zt, .slice none 0 0], .slice ad lines.length cd]) ?_ rfl (HPOST _ _ lines hll HL4.out ?_ ?_).out
      · simp [results, Tryd.results11, go_sem, r0, r1, r2, r3, r4, r5]
      · exact ((HO.out.put6 (fun k hk => by have := (HO.out.lt k hk).1; omega) _ _ _ _ _ _)).low (by omega)
      · exact below6 HBW.out (Nat.le_refl _) _ _ _ _ _ _
    | succ k =>
      have hpos : (0 : Int) < ((k + 1 : Nat) : Int) := by omega
      go_wp2_with fail
      refine (HL _ wr hc).out.mono ?_
      rintro e w7 ⟨t, ht, rfl, hc7, hg7⟩
      have hz7 := hg7.size
      have s1' := (hg7.block w.heap.size (by have := (Array.getElem?_eq_some_iff.1 s1).1; exact this) (by simp)).trans s1
      have hne9 : b9 ≠ w.heap.size + 1 := by omega
      have s3' := (hg7.block b9 (by have := (Array.getElem?_eq_some_iff.1 s3).1; exact this) (fun e => by injection e; omega)).trans s3
      have ho7 := ho.kept hg7 (by
        cases hv : u7.ownBlock with
        | none => exact .inl rfl
        | some r => exact .inr (fun e => by
            have h1 := (ho.lt r hv).1
            injection e
            omega))
      have hb7 : Below w.heap.size w w7 := hbw.grown hg7 hbw.size (fun r h => by cases h; omega)
      obtain ⟨l, hl⟩ : ∃ l : List UInt8, t = ⟨l.toArray⟩ := ⟨t.data.toList, by simp⟩
      have htl : l.length ≤ 400 := by subst hl; simpa [ByteArray.size] using ht
      have HV := Lib.hid (show Value.string t = strV l by rw [hl]; rfl)
      have H7 := Lib.hid ho7
      have hl6 : lines.length ≤ 1000000 := by omega
      have hbs : w.heap.size + 2 ≤ w7.heap.size := by have := hc7.lt; omega
      clear ho hg7 hc s1 s3 hbw hl ht ho7
      go_wp2_with (at_builtin; refine list_str rfl (.tmp 28) (.tmp 31) rfl (w.heap.size + 2) u7 lines rfl H7.out _ _ l HV.out rfl hl6 hbs ?_; intro v' w8 ho8 hg8)
      have hP8 : LinesAt w ⟨zc, zr, zs, zl, zt⟩ b9 k v' w8 := by
        have hlt1 : w.heap.size < w7.heap.size := by omega
        have hlt9 : b9 < w7.heap.size := (Array.getElem?_eq_some_iff.1 s3').1
        have hzz : (w7.alloc (.cells #[.string t] 9)).heap.size = w7.heap.size + 1 := by simp
        refine ⟨?_, ?_, ?_, ⟨lines ++ [l], ho8, by simp; omega, fun x hx => ?_⟩, ?_⟩
        · exact (hc7.alloc _).grown hg8 (fun r h => by
            have h1 := (H7.out.lt r h).1
            omega)
        · exact (hg8.block _ (by omega) (fun e => by have := (H7.out.lt _ e.symm).1; omega)).trans ((alloc_keeps _ _ hlt1).trans s1')
        · exact (hg8.block _ (by omega) (own_mark9 s3' H7.out)).trans ((alloc_keeps _ _ hlt9).trans s3')
        · rcases List.mem_append.1 hx with hx | hx
          · exact hl4 x hx
          · obtain rfl := List.mem_singleton.1 hx
            exact htl
        · exact (hb7.alloc hb7.size _).grown hg8 (by have := hb7.size; omega) (fun r h => by have := (H7.out.lt r h).1; omega)
      have HP8 := Lib.hid hP8
      clear hP8 ho8 hg8 H7 hl4
      go_roundw
      case rel => exact ⟨k, by go_num, HP8.out⟩
      case measure => simp [intOf]
end Go.Proofs.YtobpnoiienpipaaDoor
