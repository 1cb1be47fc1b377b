/-
  What is proved: a set with a log of its own, the program's and the model's.
  Conditions: the log can be read; its texts have at most 1048576 bytes each.
-/
import Derived.Test.YtobpnoiienpipaaDoorNewSet
import Derived.Test.YtobpnoiienpipaaDoorSplit
import Derived.Deep.AppendLies
namespace Go.Proofs.YtobpnoiienpipaaDoor
set_option linter.unusedVariables false
open Go.RowKit
attribute [local go_sem] run_store_float run_store_complex unary_negf neg256

/-- No text is longer than what is looked at. -/
def Short (ls : List (List UInt8)) : Prop := ls.length ≤ 3000000 ∧ ∀ l ∈ ls, l.length ≤ 1048576
set_option maxRecDepth 100000 in
set_option maxHeartbeats 1000000 in
theorem changedS_any (v : Value) (ls : List (List UInt8)) (w : World) (h : TRow w v ls) (hs : Short ls) :
    Calls Tryd.prog 73 #[v, .func (.func 55) #[] #[]] w fun e w' => ∃ v', e = .returned v' ∧ OwnS w' w.heap.size v' ls ∧ Below w.heap.size w w' := by
  obtain ⟨hl, hsh⟩ := hs
  have hmk := make_texts ls.length hl w
  have hst := own_texts ls.length hl w
  have hbel : Below w.heap.size w (w.alloc (.cells (madeCells #[.string ⟨#[]⟩] ls.length) 9)) := (Below.refl _ _).alloc (Nat.le_refl _) _
  obtain ⟨a, c, rfl, hcell⟩ := h.any
  have HC := Lib.hid hcell
  have HSH := Lib.hid hsh
  have HST := Lib.hid (show OwnS (w.alloc (.cells (madeCells #[.string ⟨#[]⟩] ls.length) 9)) w.heap.size (.slice (some ⟨w.heap.size, 0, none⟩) ls.length ls.length) (mixT ls 0) by unfold mixT; simpa using hst)
  clear hcell hst h hsh
  go_enter Tryd.func73, Tryd.ntmps73
  go_wp2
  clear hmk
  generalize w.alloc (.cells (madeCells #[.string ⟨#[]⟩] ls.length) 9) = w1 at *
  go_loopw [13] (fun i wr => ∃ k : Nat, k ≤ ls.length ∧ i = .int .i64 (k : Int) ∧ Below w.heap.size w wr ∧ OwnS wr w.heap.size (.slice (some ⟨w.heap.size, 0, none⟩) ls.length ls.length) (mixT ls k)) (fun i _ => ls.length - (intOf i).toNat)
  case atStart => exact ⟨0, Nat.zero_le _, rfl, hbel, HST.out⟩
  case round =>
    obtain ⟨k, hk, rfl, hb, hm⟩ := hrel
    have HM := Lib.hid hm
    clear hm HST
    by_cases hlt : k < ls.length
    · obtain ⟨g, o, rfl, hcap, hcc⟩ := HC.out k hlt
      have hc0 := (below_grown hb).cell hcc (by simp)
      have hsz := HSH.out _ (List.getElem_mem hlt)
      have hlm : k < (mixT ls k).length := by rw [mixT_len _ _ hk]; exact hlt
      have HKK := Lib.hid (fun (W : World) (hW : OwnS W w.heap.size (.slice (some ⟨w.heap.size, 0, none⟩) ls.length ls.length) (mixT ls k)) => show OwnS (W.setCell ⟨w.heap.size, k, none⟩ (strV ls[k])) w.heap.size (.slice (some ⟨w.heap.size, 0, none⟩) ls.length ls.length) (mixT ls (k + 1)) from by
        have := hW.store k ls[k]
        rwa [mixT_set _ _ hlt] at this)
      unfold strV at hc0 HKK
      have hxs : (⟨ls[k].toArray⟩ : ByteArray).size = ls[k].length := by simp [ByteArray.size]
      have HCL := fun W => Lib.hid (cloneS_any ⟨ls[k].toArray⟩ W (by omega))
      generalize ls[k] = x at *
      generalize (⟨x.toArray⟩ : ByteArray) = s at *
      clear hcc hxs hsz
      go_wp2_with fail
      refine (HCL _).out.mono ?_
      rintro e w2 ⟨rfl, hb2⟩
      have hm2 := HM.out.below hb2
      obtain ⟨hx0, hf0⟩ := hm2.cell k hlm
      unfold strV at hx0
      have HM2 := Lib.hid (HKK.out w2 hm2)
      generalize (mixT ls k)[k]'hlm = q at *
      have g2 := below_trans hb hb2 hb.size
      clear hm2 HM hb hb2 HKK
      go_wp2
      go_roundw
      case rel => exact ⟨k + 1, by omega, by go_num, g2.setCell (Nat.le_refl _) _, HM2.out⟩
      case measure => simp [intOf]; omega
    · have hkk : k = ls.length := by omega
      subst hkk
      have HN := Lib.hid (show OwnS wr w.heap.size (.slice (some ⟨w.heap.size, 0, none⟩) ls.length ls.length) ls by have := HM.out; rwa [mixT_all] at this)
      go_wp2
      go_ret
      exact ⟨_, rfl, HN.out, hb⟩
set_option maxRecDepth 100000 in
set_option maxHeartbeats 2000000 in
theorem ownLog_any (x : SetC) (v : Value) (ls : List (List UInt8)) (w : World) (h : TRow w v ls) (hs : Short ls) :
    Calls Tryd.prog 45 #[x.val v] w fun e w' => ∃ v', e = .returned (x.val v') ∧ OwnS w' w.heap.size v' ls ∧ Below w.heap.size w w' := by
  have HT := fun W hr => Lib.hid (changedS_any v ls W hr hs)
  have HR := Lib.hid h
  obtain ⟨a, c, rfl⟩ := h.lenv
  obtain ⟨xc, xr, xs, xl, xt⟩ := x
  obtain ⟨k1, k2, hsz, hbl⟩ := alloc2 w (.cells #[.int .i64 xc, .int .i64 xr, .float .f32 xs, .float .f32 xl, .float .f32 xt, .slice a ls.length c] 27) (.cells #[.int .i64 0, .int .i64 0, .float .f32 0, .float .f32 0, .float .f32 0, .slice none 0 0] 27)
  simp only [SetC.val, SetC.cells] at *
  clear h
  obtain ⟨o0, o1, o2, o3, o4, o5⟩ : SetAt ((w.alloc (.cells #[.int .i64 xc, .int .i64 xr, .float .f32 xs, .float .f32 xl, .float .f32 xt, .slice a ls.length c] 27)).alloc (.cells #[.int .i64 0, .int .i64 0, .float .f32 0, .float .f32 0, .float .f32 0, .slice none 0 0] 27)) w.heap.size ⟨xc, xr, xs, xl, xt⟩ (.slice a ls.length c) := SetAt.of k1
  go_enter Tryd.func45, Tryd.ntmps45
  go_wp2_with fail
  generalize World.alloc (World.alloc w _) _ = X at *
  refine (HT X (HR.out.below hbl)).out.mono ?_
  rintro e w1 ⟨v', rfl, ho, hb1⟩
  replace k1 := (hb1.block _ (by omega)).trans k1
  replace k2 := (hb1.block _ (by omega)).trans k2
  have HO := Lib.hid ho
  obtain ⟨a', c', rfl⟩ := ho.row.lenv
  obtain ⟨p0, p1, p2, p3, p4, p5⟩ : (w1.cell? ⟨w.heap.size, 0, none⟩ = some (.int .i64 xc)) ∧ (w1.cell? ⟨w.heap.size, 1, none⟩ = some (.int .i64 xr)) ∧ (w1.cell? ⟨w.heap.size, 2, none⟩ = some (.float .f32 xs)) ∧ (w1.cell? ⟨w.heap.size, 3, none⟩ = some (.float .f32 xl)) ∧ (w1.cell? ⟨w.heap.size, 4, none⟩ = some (.float .f32 xt)) ∧ (w1.cell? ⟨w.heap.size, 5, none⟩ = some (.slice a ls.length c)) := by
    refine ⟨?_, ?_, ?_, ?_, ?_, ?_⟩ <;> simp [World.cell?, k1, Nat.add_assoc]
  obtain ⟨t0, t1, t2, t3, t4, t5⟩ : w1.frozen? ⟨w.heap.size, 0, none⟩ = false ∧ w1.frozen? ⟨w.heap.size, 1, none⟩ = false ∧ w1.frozen? ⟨w.heap.size, 2, none⟩ = false ∧ w1.frozen? ⟨w.heap.size, 3, none⟩ = false ∧ w1.frozen? ⟨w.heap.size, 4, none⟩ = false ∧ w1.frozen? ⟨w.heap.size, 5, none⟩ = false := by
    refine ⟨?_, ?_, ?_, ?_, ?_, ?_⟩ <;> simp [World.frozen?, k1, Nat.add_assoc]
  obtain ⟨r0, r1, r2, r3, r4, r5⟩ : (w1.cell? ⟨w.heap.size + 1, 0, none⟩ = some (.int .i64 0)) ∧ (w1.cell? ⟨w.heap.size + 1, 1, none⟩ = some (.int .i64 0)) ∧ (w1.cell? ⟨w.heap.size + 1, 2, none⟩ = some (.float .f32 0)) ∧ (w1.cell? ⟨w.heap.size + 1, 3, none⟩ = some (.float .f32 0)) ∧ (w1.cell? ⟨w.heap.size + 1, 4, none⟩ = some (.float .f32 0)) ∧ (w1.cell? ⟨w.heap.size + 1, 5, none⟩ = some (.slice none 0 0)) := by
    refine ⟨?_, ?_, ?_, ?_, ?_, ?_⟩ <;> simp [World.cell?, k2, Nat.add_assoc]
  obtain ⟨s0, s1, s2, s3, s4, s5⟩ : w1.frozen? ⟨w.heap.size + 1, 0, none⟩ = false ∧ w1.frozen? ⟨w.heap.size + 1, 1, none⟩ = false ∧ w1.frozen? ⟨w.heap.size + 1, 2, none⟩ = false ∧ w1.frozen? ⟨w.heap.size + 1, 3, none⟩ = false ∧ w1.frozen? ⟨w.heap.size + 1, 4, none⟩ = false ∧ w1.frozen? ⟨w.heap.size + 1, 5, none⟩ = false := by
    refine ⟨?_, ?_, ?_, ?_, ?_, ?_⟩ <;> simp [World.frozen?, k2, Nat.add_assoc]
  have hbw : Below w.heap.size w w1 := below_trans hbl hb1 hbl.size
  clear ho k1 k2 o0 o1 o2 o3 o4 o5
  go_wp2
  refine bodyPost_ret (v := .agg #[.int .i64 xc, .int .i64 xr, .float .f32 xs, .float .f32 xl, .float .f32 xt, .slice a' ls.length c']) ?_ rfl ⟨_, rfl, ?_, ?_⟩
  · simp [results, Tryd.results45, go_sem, r0, r1, r2, r3, r4, r5]
  · refine (HO.out.same (fun k hk _ => ?_)).low (by omega)
    have e1 : ¬ w.heap.size + 1 = k := by omega
    have e2 : ¬ w.heap.size = k := by omega
    simp [World.setCell, Array.getElem?_modify, e1, e2]
  · exact (((((((hbw.setCell (p := ⟨_, _, none⟩) (by simp) _).setCell (p := ⟨_, _, none⟩) (by simp) _).setCell (p := ⟨_, _, none⟩) (by simp) _).setCell (p := ⟨_, _, none⟩) (by simp) _).setCell (p := ⟨_, _, none⟩) (by simp) _).setCell (p := ⟨_, _, none⟩) (by simp) _).setCell (p := ⟨_, _, none⟩) (by simp) _)
end Go.Proofs.YtobpnoiienpipaaDoor
