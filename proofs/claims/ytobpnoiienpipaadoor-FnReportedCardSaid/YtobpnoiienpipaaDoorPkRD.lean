/-
  What is proved: the draw of a number.
  Conditions: the cursor lies.
-/
import Derived.Test.YtobpnoiienpipaaDoorLevel
import Derived.Test.YtobpnoiienpipaaDoorDrawAll
import Derived.Test.YtobpnoiienpipaaDoorTuneAllS
import Derived.Deep.RegionHeld3
namespace Go.Proofs.YtobpnoiienpipaaDoor
set_option linter.unusedVariables false
open Go.RowKit
attribute [local go_sem] run_store_float run_store_complex unary_negf neg256

theorem foi8n (n : Int) : ∃ r, floatBits .quo .f64 (floatOfInt .f64 n) 4620693217682128896 = some r := by
  obtain ⟨r, hr, _⟩ := Flt.div_some (f := Ieee.double) (Flt.nearest_ok Ieee.double (n < 0) n.natAbs 0) (show Ieee.double.read 4620693217682128896 = .number false 4503599627370496 (-49) by decide +kernel) (by decide)
  exact ⟨r, hr⟩
theorem foi1000n (n : Int) : ∃ r, floatBits .quo .f64 (floatOfInt .f64 n) 4652007308841189376 = some r := by
  obtain ⟨r, hr, _⟩ := Flt.div_some (f := Ieee.double) (Flt.nearest_ok Ieee.double (n < 0) n.natAbs 0) (show Ieee.double.read 4652007308841189376 = .number false 8796093022208000 (-43) by decide +kernel) (by decide)
  exact ⟨r, hr⟩
set_option maxHeartbeats 1000000 in
theorem l01RealN_any (b : Nat) (m : Int) (w : World) (hc : Cur w b) (h0 : 0 ≤ m) (h1 : m ≤ 1000) :
    Calls Tryd.prog 79 #[.pointer (some ⟨b, 0, none⟩), .int .i64 m] w fun e w' => F64Post b w e w' := by
  go_enter Tryd.func79, Tryd.ntmps79
  go_wp2_with fail
  refine (l01Once_any _ _ _ hc (by decide) (by decide)).mono ?_
  rintro e w1 ⟨t, rfl, hc1, hg1⟩
  cases t
  · go_wp2_with fail
    refine (l01Below_any _ _ _ hc1 (by omega) (by omega)).mono ?_
    rintro e w2 ⟨x, hx, hx', rfl, hc2, hg2⟩
    obtain ⟨r, hr⟩ := foi8n (x : Int)
    have hq := fun W => run_float_arith (P := Tryd.prog) W .quo 76 .f64 _ _ _ hr
    have hg := hg1.trans hg2
    clear hx hx' hr hg1 hg2 hc1 hc
    go_wp2_with fail
    refine (l01Once_any _ _ _ hc2 (by decide) (by decide)).mono ?_
    rintro e w3 ⟨t, rfl, hc3, hg3⟩
    have hg := hg.trans hg3
    clear hg3 hc2 hq
    cases t
    · go_wp2_with fail
      refine (l01Once_any _ _ _ hc3 (by decide) (by decide)).mono ?_
      rintro e w4 ⟨t, rfl, hc4, hg4⟩
      cases t
      all_goals
        go_wp2
        go_ret
        exact F64Post.mk hc4 (hg.trans hg4)
    · go_wp2_with fail
      refine (l01Below_any _ _ _ hc3 (by omega) (by omega)).mono ?_
      rintro e w4 ⟨y, hy, hy', rfl, hc4, hg4⟩
      obtain ⟨r4, hr4⟩ := foi1000n (y : Int)
      have hq4 := fun W => run_float_arith (P := Tryd.prog) W .quo 76 .f64 _ _ _ hr4
      have hg := hg.trans hg4
      clear hy hy' hr4 hg4 hc3
      go_wp2_with fail
      refine (l01Once_any _ _ _ hc4 (by decide) (by decide)).mono ?_
      rintro e w5 ⟨t, rfl, hc5, hg5⟩
      cases t
      all_goals
        go_wp2
        go_ret
        exact F64Post.mk hc5 (hg.trans hg5)
  · go_wp2_with fail
    refine (l01Odd_any _ _ hc1).mono ?_
    rintro e w2 ⟨x, rfl, hc2, hg2⟩
    go_wp2
    go_ret
    exact F64Post.mk hc2 (hg1.trans hg2)
end Go.Proofs.YtobpnoiienpipaaDoor

/-
  What is proved: the draw of a set, and the draws of FnTuneOne and FnReported.
  Conditions: the cursor lies; the bytes that are drawn from can be read.
-/
namespace Go.Proofs.YtobpnoiienpipaaDoor
set_option linter.unusedVariables false
open Go.RowKit
attribute [local go_sem] run_store_float run_store_complex unary_negf neg256

/-- A set, its log in memory of its own. -/
def SetPost (b : Nat) (w : World) (e : Ending) (w' : World) : Prop :=
  ∃ (x : SetC) (v : Value) (log : List (List UInt8)), x.ok ∧ Short log ∧ e = .returned (x.val v) ∧ OwnS w' w.heap.size v log ∧ Cur w' b ∧ w.grownBy w' (some b)
/-- What lies where while lines are drawn. -/
structure LinesB (w : World) (b : Nat) (x : SetC) (b2 k : Nat) (d : Value) (wr : World) : Prop where
  cur : Cur wr b
  res : wr.heap[w.heap.size]? = some (.cells #[.int .i64 0, .int .i64 0, .float .f32 0, .float .f32 0, .float .f32 0, .slice none 0 0] 27 (0, 0))
  set : wr.heap[b2]? = some (.cells (x.cells (.slice none 0 0)) 27 (0, 0))
  own : ∃ lines, OwnS wr w.heap.size d lines ∧ lines.length + k ≤ 6 ∧ ∀ l ∈ lines, l.length ≤ 400
  grown : w.grownBy wr (some b)
/-- What lies where while the log is filled. -/
structure FullB (w : World) (b : Nat) (x : SetC) (b2 : Nat) (log : List (List UInt8)) (wr : World) : Prop where
  cur : Cur wr b
  res : wr.heap[w.heap.size]? = some (.cells #[.int .i64 0, .int .i64 0, .float .f32 0, .float .f32 0, .float .f32 0, .slice none 0 0] 27 (0, 0))
  set : ∃ a c, wr.heap[b2]? = some (.cells (x.cells (.slice a log.length c)) 27 (0, 0)) ∧ OwnS wr w.heap.size (.slice a log.length c) log
  grown : w.grownBy wr (some b)
theorem grown_put1 {w W : World} {b k i : Nat} (hg : w.grownBy W (some b)) (hk : w.heap.size ≤ k) (v0 : Value) : w.grownBy (W.setCell ⟨k, i, none⟩ v0) (some b) := by
  have G := Lib.grownBy_setCell W k i v0
  exact ⟨G.os.trans hg.os, G.tape.trans hg.tape, G.output.trans hg.output, Nat.le_trans hg.size G.size, fun j hj hne => (G.block j (Nat.lt_of_lt_of_le hj hg.size) (fun e => by injection e; omega)).trans (hg.block j hj hne)⟩
theorem cur_put1 {W : World} {b k i : Nat} (hc : Cur W b) (hk : b < k) (v0 : Value) : Cur (W.setCell ⟨k, i, none⟩ v0) b :=
  hc.grown (row := some k) (Lib.grownBy_setCell W k i v0) (fun r h => by cases h; exact hk)
theorem grown_put6 {w W : World} {b k : Nat} (hg : w.grownBy W (some b)) (hk : w.heap.size ≤ k) (v0 v1 v2 v3 v4 v5 : Value) :
    w.grownBy ((((((W.setCell ⟨k, 0, none⟩ v0).setCell ⟨k, 1, none⟩ v1).setCell ⟨k, 2, none⟩ v2).setCell ⟨k, 3, none⟩ v3).setCell ⟨k, 4, none⟩ v4).setCell ⟨k, 5, none⟩ v5) (some b) :=
  grown_put1 (grown_put1 (grown_put1 (grown_put1 (grown_put1 (grown_put1 hg hk _) hk _) hk _) hk _) hk _) hk _
theorem cur_put6 {W : World} {b k : Nat} (hc : Cur W b) (hk : b < k) (v0 v1 v2 v3 v4 v5 : Value) :
    Cur ((((((W.setCell ⟨k, 0, none⟩ v0).setCell ⟨k, 1, none⟩ v1).setCell ⟨k, 2, none⟩ v2).setCell ⟨k, 3, none⟩ v3).setCell ⟨k, 4, none⟩ v4).setCell ⟨k, 5, none⟩ v5) b :=
  cur_put1 (cur_put1 (cur_put1 (cur_put1 (cur_put1 (cur_put1 hc hk _) hk _) hk _) hk _) hk _) hk _
theorem heap_put1 {W : World} {b : Nat} {t : TypeId} {u0 u1 u2 u3 u4 u5 : Value} (h : W.heap[b]? = some (.cells #[u0, u1, u2, u3, u4, u5] t (0, 0))) (v : Value) :
    (W.setCell ⟨b, 0, none⟩ v).heap[b]? = some (.cells #[v, u1, u2, u3, u4, u5] t (0, 0)) ∧ (W.setCell ⟨b, 1, none⟩ v).heap[b]? = some (.cells #[u0, v, u2, u3, u4, u5] t (0, 0)) ∧
    (W.setCell ⟨b, 2, none⟩ v).heap[b]? = some (.cells #[u0, u1, v, u3, u4, u5] t (0, 0)) ∧ (W.setCell ⟨b, 4, none⟩ v).heap[b]? = some (.cells #[u0, u1, u2, u3, v, u5] t (0, 0)) ∧
    (W.setCell ⟨b, 5, none⟩ v).heap[b]? = some (.cells #[u0, u1, u2, u3, u4, v] t (0, 0)) := by
  refine ⟨?_, ?_, ?_, ?_, ?_⟩ <;> simp [World.setCell, Array.getElem?_modify, h]
/-- How long the log is. -/
def logLen (W : World) (b : Nat) : Nat := match W.cell? ⟨b, 5, none⟩ with
  | some (.slice _ n _) => n
  | _ => 0
theorem logLen_of {W : World} {b n c : Nat} {a : Option Addr} {x : SetC} (h : W.heap[b]? = some (.cells (x.cells (.slice a n c)) 27 (0, 0))) : logLen W b = n := by
  unfold logLen
  rw [(SetAt.of h).2.2.2.2.2]
theorem wrap_I64 (x : Int) : I64 (wrap64 x) := wrap_rng x
set_option maxRecDepth 100000 in
set_option maxHeartbeats 4000000 in
theorem l08Set_any (b : Nat) (w : World) (hc : Cur w b) :
    Calls Tryd.prog 52 #[.pointer (some ⟨b, 0, none⟩)] w fun e w' => SetPost b w e w' := by
  have hbl := hc.lt
  have k1 := heap_alloc_new w (.cells #[.int .i64 0, .int .i64 0, .float .f32 0, .float .f32 0, .float .f32 0, .slice none 0 0] 27)
  have g0 : w.grownBy (w.alloc (.cells #[.int .i64 0, .int .i64 0, .float .f32 0, .float .f32 0, .float .f32 0, .slice none 0 0] 27)) (some b) := World.grownBy_alloc _ _ _
  have hz0 : (w.alloc (.cells #[.int .i64 0, .int .i64 0, .float .f32 0, .float .f32 0, .float .f32 0, .slice none 0 0] 27)).heap.size = w.heap.size + 1 := by simp
  have hc0 : Cur (w.alloc (.cells #[.int .i64 0, .int .i64 0, .float .f32 0, .float .f32 0, .float .f32 0, .slice none 0 0] 27)) b := hc.alloc _
  have HB := fun W hc n h0 h1 => Lib.hid (l01Below_any b n W hc h0 h1)
  have HL := fun W hc => Lib.hid (l08Line_any b W hc)
  have HNU := fun W hc => Lib.hid (l01Number_any b W hc)
  have HOD := fun W hc => Lib.hid (l01Odd_any b W hc)
  have HRE := fun W hc => Lib.hid (l01RealN_any b 20 W hc (by decide) (by decide))
  have HW := fun c r W hc hr => Lib.hid (specNewSet_any c r W hc hr)
  have HTA := fun (x : SetC) u lines W (hx : x.ok) (h' : TRow W u lines) (hs' : Short lines) => Lib.hid (specTuneAll_any x (.slice none 0 0) u [] lines W hx (.inl ⟨⟨_, _, rfl⟩, rfl⟩) ⟨by simp, by simp⟩ h' hs')
  clear hc
  go_enter Tryd.func52, Tryd.ntmps52
  go_wp2_with fail
  generalize World.alloc w _ = X at *
  refine (HB X hc0 4 (by decide) (by decide)).out.mono ?_
  rintro e w2 ⟨x, hx, _, rfl, hc2, hg2⟩
  have hx := hx (by decide)
  have hz2 := hg2.size
  replace k1 := (hg2.block w.heap.size (by omega) (fun e => by injection e; omega)).trans k1
  have g2 := g0.trans hg2
  clear hc0 hg2
  go_wp2_with fail
  refine (HB w2 hc2 2 (by decide) (by decide)).out.mono ?_
  rintro e w3 ⟨y, hy, _, rfl, hc3, hg3⟩
  have hy := hy (by decide)
  have hz3 := hg3.size
  replace k1 := (hg3.block w.heap.size (by omega) (fun e => by injection e; omega)).trans k1
  have g3 := g2.trans hg3
  clear hc2 hg3
  have hcc : I64 (1 + (x : Int)) := ⟨by omega, by omega⟩
  have hrr : I64 (4 * (1 + (y : Int))) := ⟨by omega, by omega⟩
  have hw1 : IntKind.i64.wrap (4 * (1 + (y : Int))) = 4 * (1 + (y : Int)) := IntWalk.i64_in _ (by omega)
  go_wp2_with fail
  refine (HW (1 + (x : Int)) (4 * (1 + (y : Int))) w3 hcc hrr).out.mono ?_
  rintro e w4 ⟨rfl, hb4⟩
  have hz4 := hb4.size
  replace k1 := (hb4.block w.heap.size (by omega)).trans k1
  have g4 := grown_below g3 hb4
  have hc4 := cur_below hc3 hb4
  clear hw1
  generalize 1 + (x : Int) = c at *
  generalize 4 * (1 + (y : Int)) = r at *
  have hnok := newR_ok hcc hrr
  generalize newR c r = nc at *
  obtain ⟨zc, zr, zs, zl, zt⟩ := nc
  simp only [SetC.val] at *
  clear hx hy hb4 hc3 hcc hrr HW
  have m1 := (alloc_keeps w4 (.cells #[.int .i64 zc, .int .i64 zr, .float .f32 zs, .float .f32 zl, .float .f32 zt, .slice none 0 0] 27) (show w.heap.size < w4.heap.size by omega)).trans k1
  have m3 := heap_alloc_new w4 (.cells #[.int .i64 zc, .int .i64 zr, .float .f32 zs, .float .f32 zl, .float .f32 zt, .slice none 0 0] 27)
  have g5 := g4.trans (World.grownBy_alloc w4 (.cells #[.int .i64 zc, .int .i64 zr, .float .f32 zs, .float .f32 zl, .float .f32 zt, .slice none 0 0] 27) (some b))
  have hc5 : Cur (w4.alloc (.cells #[.int .i64 zc, .int .i64 zr, .float .f32 zs, .float .f32 zl, .float .f32 zt, .slice none 0 0] 27)) b := hc4.alloc _
  have hz5 : (w4.alloc (.cells #[.int .i64 zc, .int .i64 zr, .float .f32 zs, .float .f32 zl, .float .f32 zt, .slice none 0 0] 27)).heap.size = w4.heap.size + 1 := by simp
  have hD := OwnS.made0 (w4.alloc (.cells #[.int .i64 zc, .int .i64 zr, .float .f32 zs, .float .f32 zl, .float .f32 zt, .slice none 0 0] 27))
  replace m1 := (alloc_keeps (w4.alloc (.cells #[.int .i64 zc, .int .i64 zr, .float .f32 zs, .float .f32 zl, .float .f32 zt, .slice none 0 0] 27)) (.cells #[] 9) (by omega)).trans m1
  replace m3 := (alloc_keeps (w4.alloc (.cells #[.int .i64 zc, .int .i64 zr, .float .f32 zs, .float .f32 zl, .float .f32 zt, .slice none 0 0] 27)) (.cells #[] 9) (show w4.heap.size < _ by omega)).trans m3
  replace g5 := g5.trans (World.grownBy_alloc (w4.alloc (.cells #[.int .i64 zc, .int .i64 zr, .float .f32 zs, .float .f32 zl, .float .f32 zt, .slice none 0 0] 27)) (.cells #[] 9) (some b))
  replace hc5 : Cur ((w4.alloc (.cells #[.int .i64 zc, .int .i64 zr, .float .f32 zs, .float .f32 zl, .float .f32 zt, .slice none 0 0] 27)).alloc (.cells #[] 9)) b := hc5.alloc _
  rw [hz5] at hD
  clear hc4 k1
  go_wp2_with fail
  refine (HB _ hc5 4 (by decide) (by decide)).out.mono ?_
  rintro e w6 ⟨n, hn, _, rfl, hc6, hg6⟩
  have hn := hn (by decide)
  have hsz : ((w4.alloc (.cells #[.int .i64 zc, .int .i64 zr, .float .f32 zs, .float .f32 zl, .float .f32 zt, .slice none 0 0] 27)).alloc (.cells #[] 9)).heap.size = w4.heap.size + 2 := by simp
  have hP : LinesB w b ⟨zc, zr, zs, zl, zt⟩ w4.heap.size n (.slice (some ⟨w4.heap.size + 1, 0, none⟩) 0 0) w6 := by
    refine ⟨hc6, (hg6.block _ (by omega) (fun e => by injection e; omega)).trans m1, (hg6.block _ (by omega) (fun e => by injection e; omega)).trans m3, ⟨[], ?_, by simp; omega, by simp⟩, g5.trans hg6⟩
    exact (hD.kept hg6 (.inr fun e => by
      have e' : some (w4.heap.size + 1) = some b := e
      injection e'
      omega)).low (by omega)
  have HP := Lib.hid hP
  clear hP hc5 hg6 hc6 hD m1 m3 g5 hn
  go_wp2
  generalize hb9 : w4.heap.size = b9 at *
  have hge9 : w.heap.size < b9 := by omega
  clear hz4 hz5 hsz hb9 g4
  go_loopw [5, 6] (fun d n wr => ∃ k : Nat, n = .int .i64 (k : Int) ∧ LinesB w b ⟨zc, zr, zs, zl, zt⟩ b9 k d wr) (fun _ n _ => (intOf n).toNat)
  case atStart => exact ⟨n, rfl, HP.out⟩
  case round =>
    obtain ⟨k, rfl, hat⟩ := hrel
    obtain ⟨hc, s1, s3, ⟨lines, ho, hlk, hl4⟩, hgw⟩ := hat
    cases k with
    | succ k =>
      have hpos : (0 : Int) < ((k + 1 : Nat) : Int) := by omega
      go_wp2_with fail
      refine (HL wr hc).out.mono ?_
      rintro e w7 ⟨t, ht, rfl, hc7, hg7⟩
      have hz7 := hg7.size
      have s1' := (hg7.block w.heap.size (by have := (Array.getElem?_eq_some_iff.1 s1).1; exact this) (fun e => by injection e; omega)).trans s1
      have s3' := (hg7.block b9 (by have := (Array.getElem?_eq_some_iff.1 s3).1; exact this) (fun e => by injection e; omega)).trans s3
      have ho7 := ho.kept hg7 (by
        cases hv : u5.ownBlock with
        | none => exact .inl rfl
        | some r => exact .inr (fun e => by
            have h1 := (ho.lt r hv).1
            injection e
            omega))
      have hb7 := hgw.trans hg7
      obtain ⟨l, hl⟩ : ∃ l : List UInt8, t = ⟨l.toArray⟩ := ⟨t.data.toList, by simp⟩
      have htl : l.length ≤ 400 := by subst hl; simpa [ByteArray.size] using ht
      have HV := Lib.hid (show Value.string t = strV l by rw [hl]; rfl)
      have H7 := Lib.hid ho7
      have hl6 : lines.length ≤ 1000000 := by omega
      have hbs : w.heap.size ≤ w7.heap.size := hb7.size
      have hl12 := (Array.getElem?_eq_some_iff.1 s1').1
      have hl92 := (Array.getElem?_eq_some_iff.1 s3').1
      clear ho hg7 hc s1 s3 hgw hl ht ho7
      go_wp2_with (at_builtin; refine list_str rfl (.tmp 25) (.tmp 28) rfl w.heap.size u5 lines rfl H7.out _ _ l HV.out rfl hl6 hbs ?_; intro v' w8 ho8 hg8)
      have hP8 : LinesB w b ⟨zc, zr, zs, zl, zt⟩ b9 k v' w8 := by
        have hzz : (w7.alloc (.cells #[.string t] 9)).heap.size = w7.heap.size + 1 := by simp
        refine ⟨?_, ?_, ?_, ⟨lines ++ [l], ho8, by simp; omega, fun x hx => ?_⟩, ?_⟩
        · exact (hc7.alloc _).grown hg8 (fun r h => by
            have h1 := (H7.out.lt r h).1
            omega)
        · exact (hg8.block _ (by omega) (own_mark9 s1' H7.out)).trans ((alloc_keeps _ _ hl12).trans s1')
        · exact (hg8.block _ (by omega) (own_mark9 s3' H7.out)).trans ((alloc_keeps _ _ hl92).trans s3')
        · rcases List.mem_append.1 hx with hx | hx
          · exact hl4 x hx
          · obtain rfl := List.mem_singleton.1 hx
            exact htl
        · have hgg := hb7.trans (World.grownBy_alloc w7 (.cells #[.string t] 9) (some b))
          exact ⟨hg8.os.trans hgg.os, hg8.tape.trans hgg.tape, hg8.output.trans hgg.output, Nat.le_trans hgg.size hg8.size, fun j hj hne => (hg8.block j (by have := hgg.size; omega) (fun e => by have := (H7.out.lt j e.symm).1; omega)).trans (hgg.block j hj hne)⟩
      have HP8 := Lib.hid hP8
      clear hP8 ho8 hg8 H7 hl4
      go_roundw
      case rel => exact ⟨k, by go_num, HP8.out⟩
      case measure => simp [intOf]
    | zero =>
      obtain ⟨ad, cd, hd⟩ := ho.row.lenv
      subst hd
      have hsl : Short lines := ⟨by omega, fun l hl => by have := hl4 l hl; omega⟩
      have HO := Lib.hid ho
      have HFI := Lib.hid (tuneAll_fine lines (q := (⟨zc, zr, zs, zl, zt⟩, [])) ⟨hnok, by simp, by simp⟩)
      have hlg : (tuneAll (⟨zc, zr, zs, zl, zt⟩, []) lines).1.2.length ≤ 6 := by
        obtain ⟨add, h1, h2, _⟩ := tuneAll_again lines (⟨zc, zr, zs, zl, zt⟩, [])
        rw [h1, List.nil_append, h2]
        have := List.length_filter_le id (tuneAll (⟨zc, zr, zs, zl, zt⟩, []) lines).2
        rw [tuneAll_len] at this
        unfold trues
        omega
      have HT1 := Lib.hid (HTA ⟨zc, zr, zs, zl, zt⟩ (.slice ad lines.length cd) lines wr hnok ho.row hsl).out
      unfold AllPost at HT1
      generalize tuneAll (⟨zc, zr, zs, zl, zt⟩, []) lines = Q at *
      obtain ⟨⟨q, log⟩, bs⟩ := Q
      have hqok : q.ok := HFI.out.ok
      have hql : Short log := HFI.out.log
      obtain ⟨yc, yr, ys, yl, yt⟩ := q
      have hq1 : I64 yc := hqok.1
      have hq2 : I64 yr := hqok.2
      simp only [SetC.val, SetC.cells] at *
      have hlg6 : log.length ≤ 6 := hlg
      obtain ⟨p0, p1, p2, p3, p4, p5⟩ := SetAt.of (x := ⟨zc, zr, zs, zl, zt⟩) (v := .slice none 0 0) s3
      have hl12 := (Array.getElem?_eq_some_iff.1 s1).1
      have hl92 := (Array.getElem?_eq_some_iff.1 s3).1
      clear hlk hl4 ho hsl HTA HFI hlg hqok
      go_wp2_with fail
      refine HT1.out.mono ?_
      rintro e w7 ⟨v7, d7, rfl, ho7, hd7, hb7⟩
      obtain ⟨a1, c1, rfl⟩ := ho7.row.lenv
      replace s1 := (hb7.block _ hl12).trans s1
      replace s3 := (hb7.block _ hl92).trans s3
      have hz7 := hb7.size
      have hc7 := cur_below hc hb7
      have hg7 := grown_below hgw hb7
      obtain ⟨t0, t1, t2, t3, t4, t5⟩ := froz6 s3
      clear p0 p1 p2 p3 p4 p5
      obtain ⟨p0, p1, p2, p3, p4, p5⟩ := SetAt.of (x := ⟨zc, zr, zs, zl, zt⟩) (v := .slice none 0 0) s3
      have m3 := heap_put6 s3 (.int .i64 yc) (.int .i64 yr) (.float .f32 ys) (.float .f32 yl) (.float .f32 yt) (.slice a1 log.length c1)
      have m1 := (put6_far (W := w7) (b := b9) (k := w.heap.size) (by omega) (.int .i64 yc) (.int .i64 yr) (.float .f32 ys) (.float .f32 yl) (.float .f32 yt) (.slice a1 log.length c1)).trans s1
      have mo := (ho7.put6 (b := b9) (own_mark s3 ho7) (.int .i64 yc) (.int .i64 yr) (.float .f32 ys) (.float .f32 yl) (.float .f32 yt) (.slice a1 log.length c1)).low (show w.heap.size ≤ wr.heap.size by have := hgw.size; omega)
      have mc := cur_put6 hc7 (show b < b9 by omega) (.int .i64 yc) (.int .i64 yr) (.float .f32 ys) (.float .f32 yl) (.float .f32 yt) (.slice a1 log.length c1)
      have mg := grown_put6 hg7 (show w.heap.size ≤ b9 by omega) (.int .i64 yc) (.int .i64 yr) (.float .f32 ys) (.float .f32 yl) (.float .f32 yt) (.slice a1 log.length c1)
      clear hb7 hd7 hc hgw hc7 hg7 s1 s3 HT1 ho7
      have MC := Lib.hid mc
      go_wp2_with fail
      generalize hW8 : ((((((w7.setCell ⟨b9, 0, none⟩ (.int .i64 yc)).setCell ⟨b9, 1, none⟩ (.int .i64 yr)).setCell ⟨b9, 2, none⟩ (.float .f32 ys)).setCell ⟨b9, 3, none⟩ (.float .f32 yl)).setCell ⟨b9, 4, none⟩ (.float .f32 yt)).setCell ⟨b9, 5, none⟩ (.slice a1 log.length c1)) = W8 at *
      refine (HB W8 MC.out 20 (by decide) (by decide)).out.mono ?_
      rintro e w9 ⟨n9, hn9, _, rfl, hc9, hg9⟩
      have hn9 := hn9 (by decide)
      have hl12' := (Array.getElem?_eq_some_iff.1 m1).1
      have hl92' := (Array.getElem?_eq_some_iff.1 m3).1
      replace m1 := (hg9.block _ hl12' (fun e => by injection e; omega)).trans m1
      replace m3 := (hg9.block _ hl92' (fun e => by injection e; omega)).trans m3
      replace mo := mo.kept hg9 (by
        cases hv : (Value.slice a1 log.length c1).ownBlock with
        | none => exact .inl rfl
        | some r => exact .inr (fun e => by
            have h1 := (mo.lt r hv).1
            injection e
            omega))
      replace mg := mg.trans hg9
      clear mc MC hg9 hW8 t0 t1 t2 t3 t4 t5 p0 p1 p2 p3 p4 p5
      have HEND := fun (x : SetC) (hx : x.ok) (W : World) (v : Value) (lg : List (List UInt8)) (h1 : Short lg) (h2 : OwnS W w.heap.size v lg) (h3 : Cur W b) (h4 : w.grownBy W (some b)) => Lib.hid (show SetPost b w (.returned (x.val v)) W from ⟨x, v, lg, hx, h1, rfl, h2, h3, h4⟩)
      simp only [SetC.val] at HEND
      by_cases hk : n9 = 0
      · subst hk
        go_wp2_with fail
        refine (HNU w9 hc9).out.mono ?_
        rintro e wA ⟨z, hz, rfl, hcA, hgA⟩
        have hw := wrap_I64 (z - 1)
        have hlA := (Array.getElem?_eq_some_iff.1 m1).1
        have hlB := (Array.getElem?_eq_some_iff.1 m3).1
        replace m1 := (hgA.block _ hlA (fun e => by injection e; omega)).trans m1
        replace m3 := (hgA.block _ hlB (fun e => by injection e; omega)).trans m3
        replace mo := mo.kept hgA (by
          cases hv : (Value.slice a1 log.length c1).ownBlock with
          | none => exact .inl rfl
          | some r => exact .inr (fun e => by
              have h1 := (mo.lt r hv).1
              injection e
              omega))
        replace mg := mg.trans hgA
        obtain ⟨p0, p1, p2, p3, p4, p5⟩ := SetAt.of (x := ⟨yc, yr, ys, yl, yt⟩) (v := .slice a1 log.length c1) m3
        obtain ⟨f0, f1, f2, f3, f4, f5⟩ := froz6 m3
        obtain ⟨r0, r1, r2, r3, r4, r5⟩ := SetAt.of (x := zeroC) (v := .slice none 0 0) m1
        obtain ⟨t0, t1, t2, t3, t4, t5⟩ := froz6 m1
        simp only [zeroC] at r0 r1 r2 r3 r4
        have hne : ¬ b9 = w.heap.size := by omega
        have hne' : ¬ w.heap.size = b9 := by omega
        have M1 := Lib.hid (own_mark m1 mo)
        have M3 := Lib.hid (own_mark m3 mo)
        have MO := Lib.hid mo
        have MG := Lib.hid mg
        have MC := Lib.hid hcA
        clear m1 m3 mo mg hcA
        go_wp2
        refine bodyPost_ret (v := .agg #[.int .i64 (wrap64 (z - 1)), .int .i64 yr, .float .f32 ys, .float .f32 yl, .float .f32 yt, .slice a1 log.length c1]) ?_ rfl (HEND ⟨(wrap64 (z - 1)), yr, ys, yl, yt⟩ ⟨hw, hq2⟩ _ _ log hql ?_ ?_ ?_).out
        · simp [results, Tryd.results52, go_sem, r0, r1, r2, r3, r4, r5, hne, hne']
        · exact (MO.out.put1 M3.out _).put6 M1.out _ _ _ _ _ _
        · exact cur_put6 (cur_put1 MC.out (show b < b9 by omega) _) hbl _ _ _ _ _ _
        · exact grown_put6 (grown_put1 MG.out (show w.heap.size ≤ b9 by omega) _) (Nat.le_refl _) _ _ _ _ _ _
      by_cases hk1 : n9 = 1
      · subst hk1
        clear hk
        go_wp2_with fail
        refine (HNU w9 hc9).out.mono ?_
        rintro e wA ⟨z, hz, rfl, hcA, hgA⟩
        have hw := wrap_I64 (z - 1)
        have hlA := (Array.getElem?_eq_some_iff.1 m1).1
        have hlB := (Array.getElem?_eq_some_iff.1 m3).1
        replace m1 := (hgA.block _ hlA (fun e => by injection e; omega)).trans m1
        replace m3 := (hgA.block _ hlB (fun e => by injection e; omega)).trans m3
        replace mo := mo.kept hgA (by
          cases hv : (Value.slice a1 log.length c1).ownBlock with
          | none => exact .inl rfl
          | some r => exact .inr (fun e => by
              have h1 := (mo.lt r hv).1
              injection e
              omega))
        replace mg := mg.trans hgA
        obtain ⟨p0, p1, p2, p3, p4, p5⟩ := SetAt.of (x := ⟨yc, yr, ys, yl, yt⟩) (v := .slice a1 log.length c1) m3
        obtain ⟨f0, f1, f2, f3, f4, f5⟩ := froz6 m3
        obtain ⟨r0, r1, r2, r3, r4, r5⟩ := SetAt.of (x := zeroC) (v := .slice none 0 0) m1
        obtain ⟨t0, t1, t2, t3, t4, t5⟩ := froz6 m1
        simp only [zeroC] at r0 r1 r2 r3 r4
        have hne : ¬ b9 = w.heap.size := by omega
        have hne' : ¬ w.heap.size = b9 := by omega
        have M1 := Lib.hid (own_mark m1 mo)
        have M3 := Lib.hid (own_mark m3 mo)
        have MO := Lib.hid mo
        have MG := Lib.hid mg
        have MC := Lib.hid hcA
        clear m1 m3 mo mg hcA
        go_wp2
        refine bodyPost_ret (v := .agg #[.int .i64 yc, .int .i64 (wrap64 (z - 1)), .float .f32 ys, .float .f32 yl, .float .f32 yt, .slice a1 log.length c1]) ?_ rfl (HEND ⟨yc, (wrap64 (z - 1)), ys, yl, yt⟩ ⟨hq1, hw⟩ _ _ log hql ?_ ?_ ?_).out
        · simp [results, Tryd.results52, go_sem, r0, r1, r2, r3, r4, r5, hne, hne']
        · exact (MO.out.put1 M3.out _).put6 M1.out _ _ _ _ _ _
        · exact cur_put6 (cur_put1 MC.out (show b < b9 by omega) _) hbl _ _ _ _ _ _
        · exact grown_put6 (grown_put1 MG.out (show w.heap.size ≤ b9 by omega) _) (Nat.le_refl _) _ _ _ _ _ _
      by_cases hk2 : n9 = 2
      · subst hk2
        clear hk hk1
        go_wp2_with fail
        refine (HOD w9 hc9).out.mono ?_
        rintro e wA ⟨z, rfl, hcA, hgA⟩
        obtain ⟨rr, nn, hcv, hr32⟩ := conv32 z wA
        have hlA := (Array.getElem?_eq_some_iff.1 m1).1
        have hlB := (Array.getElem?_eq_some_iff.1 m3).1
        replace m1 := (hgA.block _ hlA (fun e => by injection e; omega)).trans m1
        replace m3 := (hgA.block _ hlB (fun e => by injection e; omega)).trans m3
        replace mo := mo.kept hgA (by
          cases hv : (Value.slice a1 log.length c1).ownBlock with
          | none => exact .inl rfl
          | some r => exact .inr (fun e => by
              have h1 := (mo.lt r hv).1
              injection e
              omega))
        replace mg := mg.trans hgA
        obtain ⟨p0, p1, p2, p3, p4, p5⟩ := SetAt.of (x := ⟨yc, yr, ys, yl, yt⟩) (v := .slice a1 log.length c1) m3
        obtain ⟨f0, f1, f2, f3, f4, f5⟩ := froz6 m3
        obtain ⟨r0, r1, r2, r3, r4, r5⟩ := SetAt.of (x := zeroC) (v := .slice none 0 0) m1
        obtain ⟨t0, t1, t2, t3, t4, t5⟩ := froz6 m1
        simp only [zeroC] at r0 r1 r2 r3 r4
        have hne : ¬ b9 = w.heap.size := by omega
        have hne' : ¬ w.heap.size = b9 := by omega
        replace mo : OwnS (wA.drewN nn) w.heap.size (.slice a1 log.length c1) log := mo
        replace mg : w.grownBy (wA.drewN nn) (some b) := grownN mg nn
        replace hcA : Cur (wA.drewN nn) b := hcA.drewN nn
        replace m1 : (wA.drewN nn).heap[w.heap.size]? = some (.cells #[.int .i64 0, .int .i64 0, .float .f32 0, .float .f32 0, .float .f32 0, .slice none 0 0] 27 (0, 0)) := m1
        replace m3 : (wA.drewN nn).heap[b9]? = some (.cells #[.int .i64 yc, .int .i64 yr, .float .f32 ys, .float .f32 yl, .float .f32 yt, .slice a1 log.length c1] 27 (0, 0)) := m3
        have M1 := Lib.hid (own_mark m1 mo)
        have M3 := Lib.hid (own_mark m3 mo)
        have MO := Lib.hid mo
        have MG := Lib.hid mg
        have MC := Lib.hid hcA
        clear m1 m3 mo mg hcA
        go_wp2
        refine bodyPost_ret (v := .agg #[.int .i64 yc, .int .i64 yr, .float .f32 rr, .float .f32 yl, .float .f32 yt, .slice a1 log.length c1]) ?_ rfl (HEND ⟨yc, yr, rr, yl, yt⟩ ⟨hq1, hq2⟩ _ _ log hql ?_ ?_ ?_).out
        · simp [results, Tryd.results52, go_sem, r0, r1, r2, r3, r4, r5, hne, hne']
        · exact (MO.out.put1 M3.out _).put6 M1.out _ _ _ _ _ _
        · exact cur_put6 (cur_put1 MC.out (show b < b9 by omega) _) hbl _ _ _ _ _ _
        · exact grown_put6 (grown_put1 MG.out (show w.heap.size ≤ b9 by omega) _) (Nat.le_refl _) _ _ _ _ _ _
      by_cases hk3 : n9 = 3
      · subst hk3
        clear hk hk1 hk2
        go_wp2_with fail
        refine (HRE w9 hc9).out.mono ?_
        rintro e wA ⟨z, rfl, hcA, hgA⟩
        obtain ⟨rr, nn, hcv, hr32⟩ := conv32 z wA
        have hlA := (Array.getElem?_eq_some_iff.1 m1).1
        have hlB := (Array.getElem?_eq_some_iff.1 m3).1
        replace m1 := (hgA.block _ hlA (fun e => by injection e; omega)).trans m1
        replace m3 := (hgA.block _ hlB (fun e => by injection e; omega)).trans m3
        replace mo := mo.kept hgA (by
          cases hv : (Value.slice a1 log.length c1).ownBlock with
          | none => exact .inl rfl
          | some r => exact .inr (fun e => by
              have h1 := (mo.lt r hv).1
              injection e
              omega))
        replace mg := mg.trans hgA
        obtain ⟨p0, p1, p2, p3, p4, p5⟩ := SetAt.of (x := ⟨yc, yr, ys, yl, yt⟩) (v := .slice a1 log.length c1) m3
        obtain ⟨f0, f1, f2, f3, f4, f5⟩ := froz6 m3
        obtain ⟨r0, r1, r2, r3, r4, r5⟩ := SetAt.of (x := zeroC) (v := .slice none 0 0) m1
        obtain ⟨t0, t1, t2, t3, t4, t5⟩ := froz6 m1
        simp only [zeroC] at r0 r1 r2 r3 r4
        have hne : ¬ b9 = w.heap.size := by omega
        have hne' : ¬ w.heap.size = b9 := by omega
        replace mo : OwnS (wA.drewN nn) w.heap.size (.slice a1 log.length c1) log := mo
        replace mg : w.grownBy (wA.drewN nn) (some b) := grownN mg nn
        replace hcA : Cur (wA.drewN nn) b := hcA.drewN nn
        replace m1 : (wA.drewN nn).heap[w.heap.size]? = some (.cells #[.int .i64 0, .int .i64 0, .float .f32 0, .float .f32 0, .float .f32 0, .slice none 0 0] 27 (0, 0)) := m1
        replace m3 : (wA.drewN nn).heap[b9]? = some (.cells #[.int .i64 yc, .int .i64 yr, .float .f32 ys, .float .f32 yl, .float .f32 yt, .slice a1 log.length c1] 27 (0, 0)) := m3
        have M1 := Lib.hid (own_mark m1 mo)
        have M3 := Lib.hid (own_mark m3 mo)
        have MO := Lib.hid mo
        have MG := Lib.hid mg
        have MC := Lib.hid hcA
        clear m1 m3 mo mg hcA
        go_wp2
        refine bodyPost_ret (v := .agg #[.int .i64 yc, .int .i64 yr, .float .f32 ys, .float .f32 yl, .float .f32 rr, .slice a1 log.length c1]) ?_ rfl (HEND ⟨yc, yr, ys, yl, rr⟩ ⟨hq1, hq2⟩ _ _ log hql ?_ ?_ ?_).out
        · simp [results, Tryd.results52, go_sem, r0, r1, r2, r3, r4, r5, hne, hne']
        · exact (MO.out.put1 M3.out _).put6 M1.out _ _ _ _ _ _
        · exact cur_put6 (cur_put1 MC.out (show b < b9 by omega) _) hbl _ _ _ _ _ _
        · exact grown_put6 (grown_put1 MG.out (show w.heap.size ≤ b9 by omega) _) (Nat.le_refl _) _ _ _ _ _ _
      have hb0 : ((n9 : Int) == 0) = false := by simp; omega
      have hb1 : ((n9 : Int) == 1) = false := by simp; omega
      have hb2 : ((n9 : Int) == 2) = false := by simp; omega
      have hb3 : ((n9 : Int) == 3) = false := by simp; omega
      by_cases hk4 : n9 = 4
      · subst hk4
        clear hk hk1 hk2 hk3 hb0 hb1 hb2 hb3
        have hP9 : FullB w b ⟨yc, yr, ys, yl, yt⟩ b9 log w9 := ⟨hc9, m1, ⟨a1, c1, m3, mo⟩, mg⟩
        have HP9 := Lib.hid hP9
        clear hP9 hc9 m1 m3 mo mg
        go_wp2
        go_loopw [] (fun wr2 => ∃ lg : List (List UInt8), lg.length ≤ 101 ∧ (∀ l ∈ lg, l.length ≤ 1048576) ∧ FullB w b ⟨yc, yr, ys, yl, yt⟩ b9 lg wr2) (fun wr2 => 102 - logLen wr2 b9)
        case atStart => exact ⟨log, by omega, hql.2, HP9.out⟩
        case round =>
          obtain ⟨lg, hlg, hsh, hat⟩ := hrel
          obtain ⟨hcB, n1, ⟨a2, c2, n3, no⟩, ng⟩ := hat
          have HSH := Lib.hid hsh
          have hmeas := logLen_of (x := ⟨yc, yr, ys, yl, yt⟩) n3
          have HME := Lib.hid hmeas
          have A5 := (SetAt.of (x := ⟨yc, yr, ys, yl, yt⟩) (v := .slice a2 lg.length c2) n3).2.2.2.2.2
          have q5 := A5
          have hlB := (Array.getElem?_eq_some_iff.1 n3).1
          have hlA := (Array.getElem?_eq_some_iff.1 n1).1
          have hcD : Cur wr.drew b := hcB
          clear hsh hmeas HP9
          go_wp2_with fail
          go_region_held3 (fun V => V.cell? ⟨b9, 5, none⟩ = some (.slice a2 lg.length c2)) (first | exact KK | exact A5 | go_keep) (first
            | (go_at_call 43; refine (HB _ hcD 2 (by decide) (by decide)).out.mono ?_; rintro e wB ⟨x2, hx2, _, rfl, hcE, hgE⟩; have hwr : IntKind.i64.wrap (100 + (x2 : Int)) = 100 + (x2 : Int) := IntWalk.i64_in _ (by have := hx2 (by decide); omega); have KK : wB.cell? ⟨b9, 5, none⟩ = some (.slice a2 lg.length c2) := (hgE.cell (a := ⟨b9, 5, none⟩) A5 (by simp; omega))))
          have hx2 := hx2 (by decide)
          have hgE' : wr.grownBy wB (some b) := ⟨hgE.os, hgE.tape, hgE.output, hgE.size, hgE.block⟩
          have hzE := hgE'.size
          replace n1 := (hgE'.block _ hlA (fun e => by injection e; omega)).trans n1
          replace n3 := (hgE'.block _ hlB (fun e => by injection e; omega)).trans n3
          replace no := no.kept hgE' (by
            cases hv : (Value.slice a2 lg.length c2).ownBlock with
            | none => exact .inl rfl
            | some r => exact .inr (fun e => by
                have h1 := (no.lt r hv).1
                injection e
                omega))
          replace ng := ng.trans hgE'
          have hcB := hcE
          clear hgE hgE' A5 q5 KK hcD hcE
          by_cases hgo : lg.length < 100 + x2
          · obtain ⟨p0, p1, p2, p3, p4, p5⟩ := SetAt.of (x := ⟨yc, yr, ys, yl, yt⟩) (v := .slice a2 lg.length c2) n3
            have NO := Lib.hid no
            have hgi : (lg.length : Int) < 100 + (x2 : Int) := by omega
            have hsb : w.heap.size ≤ wB.heap.size := ng.size
            have hl1 : lg.length ≤ 1000000 := by omega
            clear no
            go_wp2_with (
              at_builtin
              refine list_str rfl (.tmp 72) (.tmp 73) rfl w.heap.size (.slice a2 lg.length c2) lg rfl NO.out _ _ [115, 108, 105, 99, 101, 32, 48, 46, 48, 48, 48] rfl rfl hl1 hsb ?_
              intro v' wC hoC hgC
              have he1 : (lg ++ [[115, 108, 105, 99, 101, 32, 48, 46, 48, 48, 48]]).length = lg.length + 1 := by simp
              obtain ⟨a4, c4, hv4⟩ := hoC.row.lenv
              rw [he1] at hv4
              subst hv4
              have HE1 := Lib.hid he1
              clear he1
              have hzC : wB.heap.size + 1 ≤ wC.heap.size := by have := hgC.size; simpa using this
              have o1 := (hgC.block w.heap.size (by simp; omega) (own_mark9 n1 NO.out)).trans ((alloc_keeps wB (.cells #[.string ⟨#[115, 108, 105, 99, 101, 32, 48, 46, 48, 48, 48]⟩] 9) (show w.heap.size < wB.heap.size by omega)).trans n1)
              have o3 := (hgC.block b9 (by simp; omega) (own_mark9 n3 NO.out)).trans ((alloc_keeps wB (.cells #[.string ⟨#[115, 108, 105, 99, 101, 32, 48, 46, 48, 48, 48]⟩] 9) (show b9 < wB.heap.size by omega)).trans n3)
              have oc : Cur wC b := (hcB.alloc (.cells #[.string ⟨#[115, 108, 105, 99, 101, 32, 48, 46, 48, 48, 48]⟩] 9)).grown hgC (fun r h => by have := (NO.out.lt r h).1; omega)
              have og : w.grownBy wC (some b) := by
                have hgg := ng.trans (World.grownBy_alloc wB (.cells #[.string ⟨#[115, 108, 105, 99, 101, 32, 48, 46, 48, 48, 48]⟩] 9) (some b))
                exact ⟨hgC.os.trans hgg.os, hgC.tape.trans hgg.tape, hgC.output.trans hgg.output, Nat.le_trans hgg.size hgC.size, fun j hj hne => (hgC.block j (by have := hgg.size; omega) (fun e => by have := (NO.out.lt j e.symm).1; omega)).trans (hgg.block j hj hne)⟩
              have hfin : FullB w b ⟨yc, yr, ys, yl, yt⟩ b9 (lg ++ [[115, 108, 105, 99, 101, 32, 48, 46, 48, 48, 48]]) (wC.setCell ⟨b9, 5, none⟩ (.slice a4 (lg.length + 1) c4)) := by
                refine ⟨cur_put1 oc (by omega) _, (put1_far (by omega) _).trans o1, ⟨a4, c4, ?_, ?_⟩, grown_put1 og (by omega) _⟩
                · rw [HE1.out]
                  exact (heap_put1 o3 _).2.2.2.2
                · rw [HE1.out]
                  exact hoC.put1 (own_mark o3 hoC) _
              have HFIN := Lib.hid hfin
              obtain ⟨q0, q1, q2, q3, q4, q5⟩ := SetAt.of (x := ⟨yc, yr, ys, yl, yt⟩) (v := .slice a2 lg.length c2) o3
              obtain ⟨f0, f1, f2, f3, f4, f5⟩ := froz6 o3
              clear hfin o1 o3 oc og hoC hgC p0 p1 p2 p3 p4 p5)
            go_roundw
            case rel => exact ⟨lg ++ [[115, 108, 105, 99, 101, 32, 48, 46, 48, 48, 48]], by simp; omega, fun l hl => by
              rcases List.mem_append.1 hl with hl | hl
              · exact HSH.out l hl
              · obtain rfl := List.mem_singleton.1 hl
                decide, HFIN.out⟩
            case measure =>
              obtain ⟨a5, c5, h5, _⟩ := HFIN.out.set
              have e1 := logLen_of h5
              rw [HE1.out] at e1
              rw [HME.out, e1]
              omega
          · have hgi : ¬ (lg.length : Int) < 100 + (x2 : Int) := by omega
            have hlt2 : lg.length ≤ 3000000 := by omega
            clear hgo
            obtain ⟨p0, p1, p2, p3, p4, p5⟩ := SetAt.of (x := ⟨yc, yr, ys, yl, yt⟩) (v := .slice a2 lg.length c2) n3
            obtain ⟨r0, r1, r2, r3, r4, r5⟩ := SetAt.of (x := zeroC) (v := .slice none 0 0) n1
            obtain ⟨t0, t1, t2, t3, t4, t5⟩ := froz6 n1
            simp only [zeroC] at r0 r1 r2 r3 r4
            have M1 := Lib.hid (own_mark n1 no)
            have MO := Lib.hid no
            have MG := Lib.hid ng
            have MC := Lib.hid hcB
            clear n1 n3 no ng hcB
            go_wp2
            refine bodyPost_ret (v := .agg #[.int .i64 yc, .int .i64 yr, .float .f32 ys, .float .f32 yl, .float .f32 yt, .slice a2 lg.length c2]) ?_ rfl (HEND ⟨yc, yr, ys, yl, yt⟩ ⟨hq1, hq2⟩ _ _ lg ⟨by omega, HSH.out⟩ ?_ ?_ ?_).out
            · simp [results, Tryd.results52, go_sem, r0, r1, r2, r3, r4, r5]
            · exact MO.out.put6 M1.out _ _ _ _ _ _
            · exact cur_put6 MC.out hbl _ _ _ _ _ _
            · exact grown_put6 MG.out (Nat.le_refl _) _ _ _ _ _ _
      · have hb4 : ((n9 : Int) == 4) = false := by simp; omega
        obtain ⟨p0, p1, p2, p3, p4, p5⟩ := SetAt.of (x := ⟨yc, yr, ys, yl, yt⟩) (v := .slice a1 log.length c1) m3
        obtain ⟨f0, f1, f2, f3, f4, f5⟩ := froz6 m3
        obtain ⟨r0, r1, r2, r3, r4, r5⟩ := SetAt.of (x := zeroC) (v := .slice none 0 0) m1
        obtain ⟨t0, t1, t2, t3, t4, t5⟩ := froz6 m1
        simp only [zeroC] at r0 r1 r2 r3 r4
        have hne : ¬ b9 = w.heap.size := by omega
        have hne' : ¬ w.heap.size = b9 := by omega
        have M1 := Lib.hid (own_mark m1 mo)
        have M3 := Lib.hid (own_mark m3 mo)
        have MO := Lib.hid mo
        have MG := Lib.hid mg
        have MC := Lib.hid hc9
        clear m1 m3 mo mg hc9
        go_wp2
        refine bodyPost_ret (v := .agg #[.int .i64 yc, .int .i64 yr, .float .f32 ys, .float .f32 yl, .float .f32 yt, .slice a1 log.length c1]) ?_ rfl (HEND ⟨yc, yr, ys, yl, yt⟩ ⟨hq1, hq2⟩ _ _ log hql ?_ ?_ ?_).out
        · simp [results, Tryd.results52, go_sem, r0, r1, r2, r3, r4, r5, hne, hne']
        · exact MO.out.put6 M1.out _ _ _ _ _ _
        · exact cur_put6 MC.out hbl _ _ _ _ _ _
        · exact grown_put6 MG.out (Nat.le_refl _) _ _ _ _ _ _
end Go.Proofs.YtobpnoiienpipaaDoor

/-
  What is proved: the draws of FnTuneOne and FnReported.
  Conditions: the bytes that are drawn from can be read.
-/
namespace Go.Proofs.YtobpnoiienpipaaDoor
set_option linter.unusedVariables false
open Go.RowKit
attribute [local go_sem] run_store_float run_store_complex unary_negf neg256

/-- A set and a short line. -/
def DrawOnePost (w : World) (e : Ending) (w' : World) : Prop :=
  ∃ (x : SetC) (v : Value) (log : List (List UInt8)) (s : ByteArray), x.ok ∧ Short log ∧ s.size ≤ 400 ∧ e = .returned (.tuple #[x.val v, .string s]) ∧ OwnS w' w.heap.size v log ∧ Below w.heap.size w w'
def DrawRepPost (w : World) (e : Ending) (w' : World) : Prop :=
  ∃ (x : SetC) (v : Value) (log : List (List UInt8)), x.ok ∧ Short log ∧ e = .returned (x.val v) ∧ OwnS w' w.heap.size v log ∧ Below w.heap.size w w'
set_option maxRecDepth 100000 in
set_option maxHeartbeats 2000000 in
theorem drawReport_any (a : Option Addr) (len cap : Nat) (w : World) (hs : Src w w.heap.size a len cap) :
    Calls Tryd.prog 20 #[.slice a len cap] w fun e w' => DrawRepPost w e w' := by
  have k1 := heap_alloc_new w (.cells #[.int .i64 0, .int .i64 0, .float .f32 0, .float .f32 0, .float .f32 0, .slice none 0 0] 27)
  have g0 : Below w.heap.size w (w.alloc (.cells #[.int .i64 0, .int .i64 0, .float .f32 0, .float .f32 0, .float .f32 0, .slice none 0 0] 27)) := (Below.refl _ _).alloc (Nat.le_refl _) _
  have hz0 : (w.alloc (.cells #[.int .i64 0, .int .i64 0, .float .f32 0, .float .f32 0, .float .f32 0, .slice none 0 0] 27)).heap.size = w.heap.size + 1 := by simp
  have HN := Lib.hid (l01New_any a len cap (w.alloc (.cells #[.int .i64 0, .int .i64 0, .float .f32 0, .float .f32 0, .float .f32 0, .slice none 0 0] 27)) (src_up hs (.cells #[.int .i64 0, .int .i64 0, .float .f32 0, .float .f32 0, .float .f32 0, .slice none 0 0] 27)))
  unfold NewPost at HN
  rw [hz0] at HN
  have HS := fun b W hc => Lib.hid (l08Set_any b W hc)
  clear hs
  go_enter Tryd.func20, Tryd.ntmps20
  go_wp2_with fail
  generalize World.alloc w _ = X at *
  refine HN.out.mono ?_
  rintro e w1 ⟨rfl, hc1, hg1⟩
  have hz1 := hg1.size
  replace k1 := (hg1.block w.heap.size (by omega) (by simp)).trans k1
  have g1 : Below w.heap.size w w1 := g0.grown hg1 g0.size (fun r h => by cases h)
  clear HN hg1
  go_wp2_with fail
  refine (HS _ w1 hc1).out.mono ?_
  rintro e w2 ⟨x, v, log, hx, hsh, rfl, ho, hc2, hg2⟩
  obtain ⟨a2, c2, rfl⟩ := ho.row.lenv
  have hz2 := hg2.size
  replace k1 := (hg2.block w.heap.size (by omega) (by simp)).trans k1
  have g2 : Below w.heap.size w w2 := g1.grown hg2 g1.size (fun r h => by cases h; omega)
  have HP := fun W h1 h2 => Lib.hid (show DrawRepPost w (.returned (x.val (.slice a2 log.length c2))) W from ⟨x, _, log, hx, hsh, rfl, h1, h2⟩)
  obtain ⟨xc, xr, xs, xl, xt⟩ := x
  simp only [SetC.val] at *
  obtain ⟨r0, r1, r2, r3, r4, r5⟩ := SetAt.of (x := zeroC) (v := .slice none 0 0) k1
  obtain ⟨t0, t1, t2, t3, t4, t5⟩ := froz6 k1
  simp only [zeroC] at r0 r1 r2 r3 r4
  have M1 := Lib.hid (own_mark k1 ho)
  have HO := Lib.hid ho
  clear hc1 hc2 hg2 k1 ho hx hsh
  go_wp2
  refine bodyPost_ret (v := .agg #[.int .i64 xc, .int .i64 xr, .float .f32 xs, .float .f32 xl, .float .f32 xt, .slice a2 log.length c2]) ?_ rfl (HP _ ?_ ?_).out
  · simp [results, Tryd.results20, go_sem, r0, r1, r2, r3, r4, r5]
  · exact (HO.out.put6 M1.out _ _ _ _ _ _).low (by omega)
  · exact below6 g2 (Nat.le_refl _) _ _ _ _ _ _
set_option maxRecDepth 100000 in
set_option maxHeartbeats 4000000 in
theorem drawTune_any (a : Option Addr) (len cap : Nat) (w : World) (hs : Src w w.heap.size a len cap) :
    Calls Tryd.prog 16 #[.slice a len cap] w fun e w' => DrawOnePost w e w' := by
  have k1 := heap_alloc_new w (.cells #[.int .i64 0, .int .i64 0, .float .f32 0, .float .f32 0, .float .f32 0, .slice none 0 0] 27)
  have g0 : Below w.heap.size w (w.alloc (.cells #[.int .i64 0, .int .i64 0, .float .f32 0, .float .f32 0, .float .f32 0, .slice none 0 0] 27)) := (Below.refl _ _).alloc (Nat.le_refl _) _
  have hz0 : (w.alloc (.cells #[.int .i64 0, .int .i64 0, .float .f32 0, .float .f32 0, .float .f32 0, .slice none 0 0] 27)).heap.size = w.heap.size + 1 := by simp
  have HN := Lib.hid (l01New_any a len cap (w.alloc (.cells #[.int .i64 0, .int .i64 0, .float .f32 0, .float .f32 0, .float .f32 0, .slice none 0 0] 27)) (src_up hs (.cells #[.int .i64 0, .int .i64 0, .float .f32 0, .float .f32 0, .float .f32 0, .slice none 0 0] 27)))
  unfold NewPost at HN
  rw [hz0] at HN
  have HS := fun b W hc => Lib.hid (l08Set_any b W hc)
  have HL := fun b W hc => Lib.hid (l08Line_any b W hc)
  clear hs
  go_enter Tryd.func16, Tryd.ntmps16
  go_wp2_with fail
  generalize World.alloc w _ = X at *
  refine HN.out.mono ?_
  rintro e w1 ⟨rfl, hc1, hg1⟩
  have hz1 := hg1.size
  replace k1 := (hg1.block w.heap.size (by omega) (by simp)).trans k1
  have g1 : Below w.heap.size w w1 := g0.grown hg1 g0.size (fun r h => by cases h)
  clear HN hg1
  go_wp2_with fail
  refine (HS _ w1 hc1).out.mono ?_
  rintro e w2 ⟨x, v, log, hx, hsh, rfl, ho, hc2, hg2⟩
  obtain ⟨a2, c2, rfl⟩ := ho.row.lenv
  have hz2 := hg2.size
  replace k1 := (hg2.block w.heap.size (by omega) (by simp)).trans k1
  have g2 : Below w.heap.size w w2 := g1.grown hg2 g1.size (fun r h => by cases h; omega)
  have HP := fun s (hs : ByteArray.size s ≤ 400) W h1 h2 => Lib.hid (show DrawOnePost w (.returned (.tuple #[x.val (.slice a2 log.length c2), .string s])) W from ⟨x, _, log, s, hx, hsh, hs, rfl, h1, h2⟩)
  obtain ⟨xc, xr, xs, xl, xt⟩ := x
  simp only [SetC.val] at *
  have m1 := (alloc_keeps w2 (.cells #[.int .i64 xc, .int .i64 xr, .float .f32 xs, .float .f32 xl, .float .f32 xt, .slice a2 log.length c2] 27) (show w.heap.size < w2.heap.size by omega)).trans k1
  have m3 := heap_alloc_new w2 (.cells #[.int .i64 xc, .int .i64 xr, .float .f32 xs, .float .f32 xl, .float .f32 xt, .slice a2 log.length c2] 27)
  have g3 := g2.alloc g2.size (.cells #[.int .i64 xc, .int .i64 xr, .float .f32 xs, .float .f32 xl, .float .f32 xt, .slice a2 log.length c2] 27)
  have hc3 : Cur (w2.alloc (.cells #[.int .i64 xc, .int .i64 xr, .float .f32 xs, .float .f32 xl, .float .f32 xt, .slice a2 log.length c2] 27)).drew (w.heap.size + 1) := hc2.alloc _
  have hz3 : (w2.alloc (.cells #[.int .i64 xc, .int .i64 xr, .float .f32 xs, .float .f32 xl, .float .f32 xt, .slice a2 log.length c2] 27)).heap.size = w2.heap.size + 1 := by simp
  have hcz : w.heap.size + 1 < w2.heap.size := hc2.lt
  have hcz1 : w.heap.size + 1 < w1.heap.size := hc1.lt
  replace ho := ho.alloc (.cells #[.int .i64 xc, .int .i64 xr, .float .f32 xs, .float .f32 xl, .float .f32 xt, .slice a2 log.length c2] 27)
  generalize hw3 : w2.alloc (.cells #[.int .i64 xc, .int .i64 xr, .float .f32 xs, .float .f32 xl, .float .f32 xt, .slice a2 log.length c2] 27) = w3 at *
  have A1 := SetAt.of (x := ⟨xc, xr, xs, xl, xt⟩) (v := .slice a2 log.length c2) m3
  have R1 := SetAt.of (x := zeroC) (v := .slice none 0 0) m1
  obtain ⟨p0, p1, p2, p3, p4, p5⟩ := id A1
  have HO := Lib.hid ho
  have M1 := Lib.hid m1
  have M3 := Lib.hid m3
  have KO := And.intro (show SetAt w3.drew w2.heap.size ⟨xc, xr, xs, xl, xt⟩ (.slice a2 log.length c2) from A1) True.intro
  clear hc1 hc2 hg2 k1 ho hx hsh m1 m3
  go_wp2_with fail
  try rw [hw3]
  go_region_held3 (fun V => (V.cell? ⟨w2.heap.size, 0, none⟩ = some (.int .i64 xc) ∧ V.cell? ⟨w2.heap.size, 1, none⟩ = some (.int .i64 xr) ∧ V.cell? ⟨w2.heap.size, 2, none⟩ = some (.float .f32 xs) ∧ V.cell? ⟨w2.heap.size, 3, none⟩ = some (.float .f32 xl) ∧ V.cell? ⟨w2.heap.size, 4, none⟩ = some (.float .f32 xt) ∧ V.cell? ⟨w2.heap.size, 5, none⟩ = some (.slice a2 log.length c2)) ∧ True) (with_reducible (first | exact KS _ _ _ _ _ _ | exact KK | exact KO)) (first
    | (go_at_call 44
       refine (HL _ _ hc3).out.mono ?_
       rintro e w4 ⟨s, hs4, rfl, hc4, hg4⟩
       have hgg : w3.grownBy w4 (some (w.heap.size + 1)) := ⟨hg4.os, hg4.tape, hg4.output, hg4.size, hg4.block⟩
       have m1 := (hgg.block w.heap.size (by omega) (by simp)).trans M1.out
       have m3 := (hgg.block w2.heap.size (by omega) (fun e => by injection e; omega)).trans M3.out
       have KK := And.intro (SetAt.of (x := ⟨xc, xr, xs, xl, xt⟩) (v := .slice a2 log.length c2) m3) True.intro
       have KS := fun x0 x1 x2 x3 x4 x5 => And.intro (SetAt.put6 (b := w.heap.size) KK.1 (by omega) x0 x1 x2 x3 x4 x5) True.intro
       obtain ⟨r0, r1, r2, r3, r4, r5⟩ := SetAt.of (x := zeroC) (v := .slice none 0 0) m1
       obtain ⟨t0, t1, t2, t3, t4, t5⟩ := froz6 m1
       simp only [zeroC] at r0 r1 r2 r3 r4))
  all_goals
    have ho4 := HO.out.kept hgg (by
      cases hv : (Value.slice a2 log.length c2).ownBlock with
      | none => exact .inl rfl
      | some r => exact .inr (fun e => by
          have h1 := (HO.out.lt r hv).1
          injection e
          omega))
    have M4 := Lib.hid (own_mark m1 ho4)
    have H4 := Lib.hid ho4
    have g4 : Below w.heap.size w w4 := g3.grown hgg g3.size (fun r h => by cases h; omega)
    clear KS KK KO ho4 hgg hg4 hc4 m1 m3
    go_wp2
    refine bodyPost_ret (v := .tuple #[.agg #[.int .i64 xc, .int .i64 xr, .float .f32 xs, .float .f32 xl, .float .f32 xt, .slice a2 log.length c2], .string s]) ?_ rfl (HP s hs4 _ ?_ ?_).out
    · simp [results, Tryd.results16, go_sem, r0, r1, r2, r3, r4, r5]
    · exact (H4.out.put6 M4.out _ _ _ _ _ _).low (by omega)
    · exact below6 g4 (Nat.le_refl _) _ _ _ _ _ _
end Go.Proofs.YtobpnoiienpipaaDoor
