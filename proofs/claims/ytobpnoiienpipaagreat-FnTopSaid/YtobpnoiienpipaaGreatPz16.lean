/-
  What is proved: the walks of the program's functions that make samples of a cell, and of a cell what a channel makes of it.
  Conditions: the amounts of the numbers are bounded.
-/
import Derived.Test.YtobpnoiienpipaaGreatPz13
import Derived.Test.YtobpnoiienpipaaGreatPz14
import Derived.Test.YtobpnoiienpipaaGreatPz05
import Derived.Test.YtobpnoiienpipaaGreatPz15
import Derived.Deep.RegionWith
import Derived.Test.YtobpnoiienpipaaGreatPz08
namespace Go.Proofs.YtobpnoiienpipaaGreat
set_option linter.unusedVariables false
open Go.RowKit
open Flt (Mag sumv subv mulv quov Q)
attribute [local go_sem] run_store_float run_store_complex unary_negf neg256

set_option maxHeartbeats 2000000 in
theorem encodedCellM_any (y u v : Nat) (w : World) (hadd : ∀ n : Int, floatBits .add .f32 y (carriedOf u v n) = some (addv y (carriedOf u v n))) :
    Calls Tryz.prog 142 #[.agg #[.float .f32 y, .complex .f32 u v]] w fun e w' => e = .returned (Arr4 (y, u, v)) ∧ Below w.heap.size w w' := by
  have HADD := Lib.hid (fun (n : Int) W => run_float_arith (P := Tryz.prog) W .add 25 .f32 y _ _ (hadd n))
  have HCR := fun m W => Lib.hid (carried_any u v m W)
  clear hadd
  have hb1 : Below w.heap.size w (((w.alloc (.cells #[.float .f32 y, .complex .f32 u v] 61)).alloc (.cells #[.float .f32 0, .float .f32 0, .float .f32 0, .float .f32 0] 162)).alloc (.cells #[.float .f32 0, .float .f32 0, .float .f32 0, .float .f32 0] 162)) := (((Below.refl _ _).alloc (Nat.le_refl _) _).alloc (by simp) _).alloc (by simp; omega) _
  have hs1 : (((w.alloc (.cells #[.float .f32 y, .complex .f32 u v] 61)).alloc (.cells #[.float .f32 0, .float .f32 0, .float .f32 0, .float .f32 0] 162)).alloc (.cells #[.float .f32 0, .float .f32 0, .float .f32 0, .float .f32 0] 162)).heap.size = w.heap.size + 3 := by simp
  have hc : (((w.alloc (.cells #[.float .f32 y, .complex .f32 u v] 61)).alloc (.cells #[.float .f32 0, .float .f32 0, .float .f32 0, .float .f32 0] 162)).alloc (.cells #[.float .f32 0, .float .f32 0, .float .f32 0, .float .f32 0] 162)).heap[w.heap.size]? = some (.cells #[.float .f32 y, .complex .f32 u v] 61 (0, 0)) := (Below.heap_alloc _ _ _ (by simp; omega)).trans ((Below.heap_alloc _ _ _ (by simp)).trans (heap_alloc_new w _))
  have har : ArrF (((w.alloc (.cells #[.float .f32 y, .complex .f32 u v] 61)).alloc (.cells #[.float .f32 0, .float .f32 0, .float .f32 0, .float .f32 0] 162)).alloc (.cells #[.float .f32 0, .float .f32 0, .float .f32 0, .float .f32 0] 162)) (w.heap.size + 1) 0 [] := by
    have := ArrF.start (w.alloc (.cells #[.float .f32 y, .complex .f32 u v] 61)) []
    rw [World.size_alloc] at this
    exact this.kept (Below.heap_alloc _ _ _ (by simp))
  have ha := ArrF.start ((w.alloc (.cells #[.float .f32 y, .complex .f32 u v] 61)).alloc (.cells #[.float .f32 0, .float .f32 0, .float .f32 0, .float .f32 0] 162)) (enc4 (y, u, v))
  rw [World.size_alloc, World.size_alloc] at ha
  have HC := Lib.hid hc
  have HA := Lib.hid ha
  have HAR0 := Lib.hid har
  have HB1 := Lib.hid hb1
  have HS1 := Lib.hid hs1
  clear hc ha hb1 hs1 har
  go_enter Tryz.func142, Tryz.ntmps142
  go_wp2
  generalize (((w.alloc (.cells #[.float .f32 y, .complex .f32 u v] 61)).alloc (.cells #[.float .f32 0, .float .f32 0, .float .f32 0, .float .f32 0] 162)).alloc (.cells #[.float .f32 0, .float .f32 0, .float .f32 0, .float .f32 0] 162)) = w1 at *
  go_loopw [5] (fun i wr => ∃ k : Nat, k ≤ 4 ∧ i = .int .i64 (k : Int) ∧ w1.grownBy wr (some (w.heap.size + 2)) ∧ ArrF wr (w.heap.size + 2) k (enc4 (y, u, v))) (fun i _ => 4 - (intOf i).toNat)
  case atStart => exact ⟨0, Nat.zero_le _, rfl, World.grownBy.refl _ _, HA.out⟩
  case round =>
    obtain ⟨k, hk, rfl, hg, har⟩ := hrel
    have HAR := Lib.hid har
    have HG := Lib.hid hg
    have hblk := (hg.block w.heap.size (by have := HS1.out; omega) (by intro e; have := Option.some.inj e; omega)).trans HC.out
    have m0 : wr.cell? ⟨w.heap.size, 0, none⟩ = some (.float .f32 y) := by simp [World.cell?, hblk]
    have m1 : wr.cell? ⟨w.heap.size, 1, none⟩ = some (.complex .f32 u v) := by simp [World.cell?, hblk]
    have HRES := Lib.hid (HAR0.out.kept (hg.block (w.heap.size + 1) (by have := HS1.out; omega) (by intro e; have := Option.some.inj e; omega)))
    have hsz := hg.size
    clear hg har HA hblk
    by_cases hlt : k < 4
    · have hadd := fun W => HADD.out (k : Int) W
      have hlm : k < (enc4 (y, u, v)).length := hlt
      obtain ⟨⟨x0, hx0⟩, hf0⟩ := HAR.out.at k hlt
      have HLM := Lib.hid hlm
      have hne : w.heap.size + 2 < wr.heap.size := by have := HS1.out; omega
      clear hlm
      go_wp2
      go_region_with (go_at_call 162; refine (HCR _ _).out.mono ?_; rintro e w2 ⟨rfl, hb2⟩; have hg2 : wr.grownBy w2 none := (grownN (World.grownBy.refl wr none) 1).trans (grown_of hb2); have q0 := hg2.cell m0 (by simp); have q1 := hg2.cell m1 (by simp); have q2 := hg2.cell hx0 (by simp); have hkp := hg2.block (w.heap.size + 2) hne (by simp); have har2 := HAR.out.kept hkp; have q3 := (har2.at k hlt).2)
      all_goals
        have hst := har2.step HLM.out rfl
        rw [enc4_get] at hst
        have HST := Lib.hid hst
        have hg3 := (grown_own HG.out hg2 (by intro r hr; cases hr)).trans (Lib.grownBy_setCell w2 (w.heap.size + 2) k (.float .f32 (addv y (carriedOf u v (k : Int)))))
        clear hst hkp har2 hg2 hb2
        go_wp2
        go_roundw
        case rel => exact ⟨k + 1, by omega, by go_num, hg3, HST.out⟩
        case measure => simp [intOf]; omega
    · have hk4 : k = 4 := by omega
      subst hk4
      have d0 := HAR.out.get 0 (show 0 < 4 by decide) (by decide)
      have d1 := HAR.out.get 1 (show 1 < 4 by decide) (by decide)
      have d2 := HAR.out.get 2 (show 2 < 4 by decide) (by decide)
      have d3 := HAR.out.get 3 (show 3 < 4 by decide) (by decide)
      obtain ⟨⟨x0, r0⟩, f0⟩ := HRES.out.at 0 (by decide)
      obtain ⟨⟨x1, r1⟩, f1⟩ := HRES.out.at 1 (by decide)
      obtain ⟨⟨x2, r2⟩, f2⟩ := HRES.out.at 2 (by decide)
      obtain ⟨⟨x3, r3⟩, f3⟩ := HRES.out.at 3 (by decide)
      have hfin := HB1.out.grown HG.out (by have := HS1.out; omega) (fun r hr => by cases hr; omega)
      have e0 : (enc4 (y, u, v))[0]'(show 0 < 4 by decide) = addv y u := rfl
      have e1 : (enc4 (y, u, v))[1]'(show 1 < 4 by decide) = addv y (Op.negFloat .f32 v) := rfl
      have e2 : (enc4 (y, u, v))[2]'(show 2 < 4 by decide) = addv y (Op.negFloat .f32 u) := rfl
      have e3 : (enc4 (y, u, v))[3]'(show 3 < 4 by decide) = addv y v := rfl
      rw [e0] at d0
      rw [e1] at d1
      rw [e2] at d2
      rw [e3] at d3
      clear e0 e1 e2 e3
      have hput := arr_put4 HRES.out (.float .f32 (addv y u)) (.float .f32 (addv y (Op.negFloat .f32 v))) (.float .f32 (addv y (Op.negFloat .f32 u))) (.float .f32 (addv y v))
      have hbel := (((hfin.setCell (p := ⟨w.heap.size + 1, 0, none⟩) (by simp) (.float .f32 (addv y u))).setCell (p := ⟨w.heap.size + 1, 1, none⟩) (by simp) (.float .f32 (addv y (Op.negFloat .f32 v)))).setCell (p := ⟨w.heap.size + 1, 2, none⟩) (by simp) (.float .f32 (addv y (Op.negFloat .f32 u)))).setCell (p := ⟨w.heap.size + 1, 3, none⟩) (by simp) (.float .f32 (addv y v))
      have HP := Lib.hid hput
      have HBL := Lib.hid hbel
      clear hput hbel
      go_wp2
      generalize ((((wr.setCell ⟨w.heap.size + 1, 0, none⟩ (.float .f32 (addv y u))).setCell ⟨w.heap.size + 1, 1, none⟩ (.float .f32 (addv y (Op.negFloat .f32 v)))).setCell ⟨w.heap.size + 1, 2, none⟩ (.float .f32 (addv y (Op.negFloat .f32 u)))).setCell ⟨w.heap.size + 1, 3, none⟩ (.float .f32 (addv y v))) = wz at *
      obtain ⟨z0, z1, z2, z3⟩ := HP.out
      refine bodyPost_ret (v := Arr4 (y, u, v)) ?_ rfl ⟨rfl, HBL.out⟩
      simp [results, Tryz.results142, go_sem, z0, z1, z2, z3, Arr4]
theorem mag_neg {k x : Nat} (h : Mag k x) (hx : x < 2 ^ 32) : Mag k (Op.negFloat .f32 x) := by
  obtain ⟨s, m, e, h1, h2⟩ := h
  exact ⟨!s, m, e, by rw [read_neg hx, h1]; rfl, h2⟩
theorem carried_mag {k u v : Nat} (hu : Mag k u) (hv : Mag k v) (fu : u < 2 ^ 32) (fv : v < 2 ^ 32) (n : Int) : Mag k (carriedOf u v n) := by
  unfold carriedOf
  repeat' split
  · exact hu
  · exact mag_neg hv fv
  · exact mag_neg hu fu
  · exact hv
theorem add_mag {k x y : Nat} (hx : Mag k x) (hy : Mag k y) (hk : k ≤ 270) : floatBits .add .f32 x y = some (addv x y) := (hx.add hy hk).1
/-- A channel of bounded numbers. -/
structure MagH (h : Chn) : Prop where
  a : Mag 154 h.A
  o : Mag 156 h.O
  x : Mag 154 h.X
  y : Mag 154 h.Y
/-- What a call of onCell has made at its start. -/
structure Cel (w wr : World) (A O X Y : Nat) : Prop where
  g : wr.heap[w.heap.size]? = some (.cells #[.float .f32 A, .float .f32 O, .complex .f32 X Y] 124 (0, 0))
  res : ArrF wr (w.heap.size + 1 + 1) 0 []
  bel : Below w.heap.size w wr
  size : w.heap.size + 3 ≤ wr.heap.size
theorem Cel.start (w : World) (A O X Y s t u v : Nat) : Cel w (((w.alloc (.cells #[.float .f32 A, .float .f32 O, .complex .f32 X Y] 124)).alloc (.cells #[.float .f32 s, .float .f32 t, .float .f32 u, .float .f32 v] 162)).alloc (.cells #[.float .f32 0, .float .f32 0, .float .f32 0, .float .f32 0] 162)) A O X Y := by
  have ha := ArrF.start ((w.alloc (.cells #[.float .f32 A, .float .f32 O, .complex .f32 X Y] 124)).alloc (.cells #[.float .f32 s, .float .f32 t, .float .f32 u, .float .f32 v] 162)) []
  rw [World.size_alloc, World.size_alloc] at ha
  exact ⟨(Below.heap_alloc _ _ _ (by simp; omega)).trans ((Below.heap_alloc _ _ _ (by simp)).trans (heap_alloc_new w _)), ha, (((Below.refl _ _).alloc (Nat.le_refl _) _).alloc (by simp) _).alloc (by simp; omega) _, by simp⟩
theorem Cel.next {w wr w' : World} {A O X Y : Nat} (h : Cel w wr A O X Y) (hb : Below wr.heap.size wr w') : Cel w w' A O X Y := by
  have hs := h.size
  exact ⟨(hb.block _ (by omega)).trans h.g, h.res.kept (hb.block _ (by omega)), below_trans h.bel hb h.bel.size, Nat.le_trans h.size hb.size⟩
theorem Cel.all {w wr : World} {A O X Y : Nat} (h : Cel w wr A O X Y) : wr.cell? ⟨w.heap.size, 0, none⟩ = some (.float .f32 A) ∧ wr.cell? ⟨w.heap.size, 1, none⟩ = some (.float .f32 O) ∧ wr.cell? ⟨w.heap.size, 2, none⟩ = some (.complex .f32 X Y) := by
  have := h.g
  refine ⟨?_, ?_, ?_⟩ <;> simp [World.cell?, this]
set_option maxHeartbeats 2000000 in
theorem onCell_any (A O X Y s t u v : Nat) (w : World) (hh : MagH ⟨A, O, X, Y⟩) (hs : Mag 160 s) (ht : Mag 160 t) (hu : Mag 160 u) (hv : Mag 160 v) :
    Calls Tryz.prog 198 #[.agg #[.float .f32 A, .float .f32 O, .complex .f32 X Y], .agg #[.float .f32 s, .float .f32 t, .float .f32 u, .float .f32 v]] w fun e w' => e = .returned (Arr4 (txC ⟨A, O, X, Y⟩ (decOf s t u v))) ∧ Below w.heap.size w w' := by
  obtain ⟨c, hc⟩ : ∃ c, decOf s t u v = c := ⟨_, rfl⟩
  obtain ⟨m1, m2, m3⟩ := decOf_mag hs ht hu hv
  have HD := fun W => Lib.hid ((decodedCell_any s t u v W).mono fun e w' h => (by obtain ⟨d, h1, h2, h3⟩ := h; obtain rfl := dec_mag hs ht hu hv h2; rw [hc] at h1; exact ⟨h1, h3⟩ : e = .returned (.agg #[.float .f32 c.1, .complex .f32 c.2.1 c.2.2]) ∧ Below W.heap.size W w'))
  rw [hc] at m1 m2 m3 ⊢
  have l1 := hh.a.mul m1 (by decide) (by decide)
  have l2 := l1.2.add (hh.o.mono (by decide)) (by decide)
  have q1 := fun W => run_float_arith (P := Tryz.prog) W .mul 25 .f32 _ _ _ l1.1
  have q2 := fun W => run_float_arith (P := Tryz.prog) W .add 25 .f32 _ _ _ l2.1
  go_enter Tryz.func198, Tryz.ntmps198
  have HT := Lib.hid (Cel.start w A O X Y s t u v)
  obtain ⟨g0, g1, g2⟩ := HT.out.all
  have t1 := m2.mul hh.x (by decide) (by decide)
  have t2 := m3.mul hh.y (by decide) (by decide)
  have t3 := m2.mul hh.y (by decide) (by decide)
  have t4 := m3.mul hh.x (by decide) (by decide)
  have t5 := t1.2.sub t2.2 (by decide)
  have t6 := t3.2.add t4.2 (by decide)
  have HTM := Lib.hid (show ∀ re im, TimesR c.2.1 c.2.2 X Y re im → re = timesRe c.2.1 c.2.2 X Y ∧ im = timesIm c.2.1 c.2.2 X Y from fun re im h => TimesR.is m2 m3 hh.x hh.y (by decide) (by decide) h)
  have HMG := Lib.hid (show Mag 175 (sumv (mulv A c.1) O) ∧ Mag 175 (timesRe c.2.1 c.2.2 X Y) ∧ Mag 175 (timesIm c.2.1 c.2.2 X Y) from ⟨l2.2.mono (by decide), t5.2.mono (by decide), t6.2.mono (by decide)⟩)
  clear m1 m2 m3 l1 l2 hs ht hu hv hh t1 t2 t3 t4 t5 t6
  go_wp2_with fail
  generalize ((w.alloc (.cells #[.float .f32 A, .float .f32 O, .complex .f32 X Y] 124)).alloc (.cells #[.float .f32 s, .float .f32 t, .float .f32 u, .float .f32 v] 162)).alloc (.cells #[.float .f32 0, .float .f32 0, .float .f32 0, .float .f32 0] 162) = wA at *
  refine (HD _).out.mono ?_
  rintro e w1 ⟨rfl, hb1⟩
  have hbc := (Below.refl _ w1).alloc (Nat.le_refl _) (.cells #[.float .f32 c.1, .complex .f32 c.2.1 c.2.2] 61)
  have HT1 := Lib.hid ((HT.out.next hb1).next hbc)
  clear HT hb1 g0 g1 g2
  obtain ⟨g0, g1, g2⟩ := HT1.out.all
  have hnc := heap_alloc_new w1 (.cells #[.float .f32 c.1, .complex .f32 c.2.1 c.2.2] 61)
  have k0 : (w1.alloc (.cells #[.float .f32 c.1, .complex .f32 c.2.1 c.2.2] 61)).cell? ⟨w1.heap.size, 0, none⟩ = some (.float .f32 c.1) := (cell_of_row _ _ 0 _ _ _ hnc).trans rfl
  have k1 : (w1.alloc (.cells #[.float .f32 c.1, .complex .f32 c.2.1 c.2.2] 61)).cell? ⟨w1.heap.size, 1, none⟩ = some (.complex .f32 c.2.1 c.2.2) := (cell_of_row _ _ 1 _ _ _ hnc).trans rfl
  clear hnc hbc
  go_wp2_with fail
  generalize w1.alloc (.cells #[.float .f32 c.1, .complex .f32 c.2.1 c.2.2] 61) = w2 at *
  refine (times_any _ _ _ _ _).mono ?_
  rintro e w3 ⟨re, im, rfl, hti, n3, rfl⟩
  obtain ⟨e1, e2⟩ := HTM.out re im hti.1
  have HE := fun W => Lib.hid (encodedCellM_any (sumv (mulv A c.1) O) re im W (fun n => by
    have hm := HMG.out
    rw [← e1, ← e2] at hm
    exact add_mag hm.1 (carried_mag hm.2.1 hm.2.2 hti.2.1 hti.2.2 n) (by decide)))
  have HT3 := Lib.hid (HT1.out.next (belowDN (Below.refl _ w2) n3))
  have HEQ := Lib.hid (And.intro e1 e2)
  clear HT1 hti HTM HMG e1 e2 g0 g1 g2 k0 k1
  go_wp2_with fail
  generalize w2.drewN n3 = w4 at *
  refine (HE _).out.mono ?_
  rintro e w5 ⟨rfl, hb5⟩
  have HT5 := Lib.hid (HT3.out.next hb5)
  clear HT3 hb5
  have hv4 : Arr4 (txC ⟨A, O, X, Y⟩ c) = .agg #[.float .f32 (addv (sumv (mulv A c.1) O) re), .float .f32 (addv (sumv (mulv A c.1) O) (Op.negFloat .f32 im)), .float .f32 (addv (sumv (mulv A c.1) O) (Op.negFloat .f32 re)), .float .f32 (addv (sumv (mulv A c.1) O) im)] := by rw [HEQ.out.1, HEQ.out.2]; rfl
  rw [show Arr4 (sumv (mulv A c.1) O, re, im) = .agg #[.float .f32 (addv (sumv (mulv A c.1) O) re), .float .f32 (addv (sumv (mulv A c.1) O) (Op.negFloat .f32 im)), .float .f32 (addv (sumv (mulv A c.1) O) (Op.negFloat .f32 re)), .float .f32 (addv (sumv (mulv A c.1) O) im)] from rfl]
  generalize addv (sumv (mulv A c.1) O) re = p0 at *
  generalize addv (sumv (mulv A c.1) O) (Op.negFloat .f32 im) = p1 at *
  generalize addv (sumv (mulv A c.1) O) (Op.negFloat .f32 re) = p2 at *
  generalize addv (sumv (mulv A c.1) O) im = p3 at *
  have HV4 := Lib.hid hv4
  clear HEQ hv4 HE HD q1 q2 hc
  obtain ⟨⟨x0, r0⟩, f0⟩ := HT5.out.res.at 0 (by decide)
  obtain ⟨⟨x1, r1⟩, f1⟩ := HT5.out.res.at 1 (by decide)
  obtain ⟨⟨x2, r2⟩, f2⟩ := HT5.out.res.at 2 (by decide)
  obtain ⟨⟨x3, r3⟩, f3⟩ := HT5.out.res.at 3 (by decide)
  have HP := Lib.hid (arr_put4 HT5.out.res (.float .f32 p0) (.float .f32 p1) (.float .f32 p2) (.float .f32 p3))
  have HBL := Lib.hid ((((HT5.out.bel.setCell (p := ⟨w.heap.size + 1 + 1, 0, none⟩) (by simp; omega) (.float .f32 p0)).setCell (p := ⟨w.heap.size + 1 + 1, 1, none⟩) (by simp; omega) (.float .f32 p1)).setCell (p := ⟨w.heap.size + 1 + 1, 2, none⟩) (by simp; omega) (.float .f32 p2)).setCell (p := ⟨w.heap.size + 1 + 1, 3, none⟩) (by simp; omega) (.float .f32 p3))
  go_wp2
  generalize ((((w5.setCell ⟨w.heap.size + 1 + 1, 0, none⟩ (.float .f32 p0)).setCell ⟨w.heap.size + 1 + 1, 1, none⟩ (.float .f32 p1)).setCell ⟨w.heap.size + 1 + 1, 2, none⟩ (.float .f32 p2)).setCell ⟨w.heap.size + 1 + 1, 3, none⟩ (.float .f32 p3)) = wz at *
  obtain ⟨z0, z1, z2, z3⟩ := HP.out
  refine bodyPost_ret (v := .agg #[.float .f32 p0, .float .f32 p1, .float .f32 p2, .float .f32 p3]) ?_ rfl ⟨by rw [HV4.out], HBL.out⟩
  simp [results, Tryz.results198, go_sem, z0, z1, z2, z3]
end Go.Proofs.YtobpnoiienpipaaGreat

/-
  What is proved: plain channels and their chains are valid, and of small numbers.
  Conditions: those that each fact names.
-/
namespace Go.Proofs.YtobpnoiienpipaaGreat
set_option linter.unusedVariables false
open Go.RowKit
open Flt (Q Mag sumv subv mulv quov)

theorem leb_e {e x y : Nat} {a b : Int} (hx : Q e x a) (hy : Q e y b) (h : a ≤ b) : leb x y = true :=
  leb_q hx hy (by
    have h0 : (0 : Int) ≤ 2 ^ e := by rw [Flt.pow_cast]; exact Int.natCast_nonneg _
    exact Int.mul_le_mul_of_nonneg_right h h0)
theorem q_16 : Q 149 1098907648 16 := Flt.q_word (by decide) (show Ieee.single.read 1098907648 = .number false 8388608 (-19) by decide +kernel) (by decide +kernel)
theorem q_n16 : Q 149 3246391296 (-16) := Flt.q_word (by decide) (show Ieee.single.read 3246391296 = .number true 8388608 (-19) by decide +kernel) (by decide +kernel)
theorem q_c64 : Q 149 1115684864 64 := Flt.q_word (by decide) (show Ieee.single.read 1115684864 = .number false 8388608 (-17) by decide +kernel) (by decide +kernel)
theorem q_cn64 : Q 149 3263168512 (-64) := Flt.q_word (by decide) (show Ieee.single.read 3263168512 = .number true 8388608 (-17) by decide +kernel) (by decide +kernel)
theorem q_magn {e k x : Nat} {a : Int} (h : Q e x a) (hl : a.natAbs * 2 ^ e ≤ 2 ^ k) : Mag (k + 1) x := by
  obtain ⟨_, s, u, hx, ha⟩ := h
  exact Flt.mag_num hx (by rw [Flt.q_abs ha]; exact hl)
theorem mul_lim {n m e k : Nat} (h : n ≤ m) (hm : m * 2 ^ e ≤ 2 ^ k) : n * 2 ^ e ≤ 2 ^ k := Nat.le_trans (Nat.mul_le_mul_right _ h) hm
theorem pos_q {e x : Nat} {a : Int} (h : Q e x a) (h1 : 1 ≤ a) : Ieee.single.order 0 x = some .lt := by
  rw [(Q.zero e).order h, Flt.cmp_lt (by omega)]
theorem chain_valid {h : Chn} {α ω ξ η : Int} (hq : QH 145 144 h α ω ξ η) (hα : 1 ≤ α ∧ α ≤ 64) (hω : ω.natAbs ≤ 384) (hξ : ξ.natAbs ≤ 128) (hη : η.natAbs ≤ 128) : ChOk h ∧ MagH h := by
  obtain ⟨qA, qO, qX, qY⟩ := hq
  obtain ⟨a1, a2⟩ := hα
  have s1 := q_16.lift 4 (by decide)
  have s2 := q_n16.lift 4 (by decide)
  have s3 := q_c64.lift 5 (by decide)
  have s4 := q_cn64.lift 5 (by decide)
  exact ⟨⟨pos_q qA a1, leb_e qA s1 (by omega), leb_e s4 qO (by omega), leb_e qO s3 (by omega), leb_e s2 qX (by omega), leb_e qX s1 (by omega), leb_e s2 qY (by omega), leb_e qY s1 (by omega)⟩,
    ⟨(q_magn (k := 151) qA (mul_lim (m := 64) (by omega) (by decide +kernel))).mono (by decide), (q_magn (k := 153) qO (mul_lim (m := 512) (by omega) (by decide +kernel))).mono (by decide), (q_magn (k := 152) qX (mul_lim (m := 128) (by omega) (by decide +kernel))).mono (by decide), (q_magn (k := 152) qY (mul_lim (m := 128) (by omega) (by decide +kernel))).mono (by decide)⟩⟩
end Go.Proofs.YtobpnoiienpipaaGreat

/-
  What is proved: a line of a plain row that came through a plain channel whose G is its A is brought to level as it was.
  Conditions: those that each fact names.
-/
namespace Go.Proofs.YtobpnoiienpipaaGreat
set_option linter.unusedVariables false
open Go.RowKit
open Flt (Q Mag sumv subv mulv quov)

def pcell : C3 := (3263168512, 0, 0)
theorem pcell_pc : PC pcell (-1024) 0 0 := ⟨q_cn64.lift 4 (by decide), Flt.Sx.zero, Flt.Sx.zero, by decide, by decide, by decide⟩
theorem bcell_pc : PC bcell 0 (-256) 256 := ⟨Flt.Sx.zero, q_n16.lift 4 (by decide), q_16.lift 4 (by decide), by decide, by decide, by decide⟩
def bim3 (odd : Bool) : I3 := (0, -256, if odd = true then -256 else 256)
theorem bcells_q (odd : Bool) : CellsQ (oddRow (bcells 4) odd) [bim3 odd, bim3 odd, bim3 odd, bim3 odd] := by
  cases odd with
  | false => exact ⟨bcell_pc, bcell_pc, bcell_pc, bcell_pc, trivial⟩
  | true => exact ⟨bcell_pc.cj, bcell_pc.cj, bcell_pc.cj, bcell_pc.cj, trivial⟩
theorem pulse_enc : enc [pcell, pcell] = List.replicate 8 3263168512 := by decide +kernel
theorem lineL_enc (cs : List C3) (odd : Bool) : lineL cs odd = enc (([pcell, pcell] ++ oddRow (bcells 4) odd) ++ oddRow cs odd) := by
  rw [enc_append, enc_append, pulse_enc]; rfl
theorem gap_bits {g : Nat} {A : Nat} {α : Int} (hg : GainOf A α) (hq : Q 143 g (1024 * α)) : ∃ κ, Q 148 (quov 1115684864 g) κ ∧ α * κ = 8 ∧ κ.natAbs ≤ 8 := by
  have c16 : Q 143 1098907648 1024 := q_16.lift 6 (by decide)
  have c32 : Q 143 1107296256 2048 := (Flt.q_word (e := 149) (a := 32) (by decide) (show Ieee.single.read 1107296256 = .number false 8388608 (-18) by decide +kernel) (by decide +kernel)).lift 6 (by decide)
  have c64 : Q 143 1115684864 4096 := q_c64.lift 6 (by decide)
  have c128 : Q 143 1124073472 8192 := (Flt.q_word (e := 149) (a := 128) (by decide) (show Ieee.single.read 1124073472 = .number false 8388608 (-16) by decide +kernel) (by decide +kernel)).lift 6 (by decide)
  have d4 : Q 148 1082130432 8 := (Flt.q_word (e := 149) (a := 4) (by decide) (show Ieee.single.read 1082130432 = .number false 8388608 (-21) by decide +kernel) (by decide +kernel)).lift 1 (by decide)
  have d2 : Q 148 1073741824 4 := (Flt.q_word (e := 149) (a := 2) (by decide) (show Ieee.single.read 1073741824 = .number false 8388608 (-22) by decide +kernel) (by decide +kernel)).lift 1 (by decide)
  have d1 : Q 148 1065353216 2 := q_one.lift 1 (by decide)
  have d0 : Q 148 1056964608 1 := Flt.q_word (by decide) (show Ieee.single.read 1056964608 = .number false 8388608 (-24) by decide +kernel) (by decide +kernel)
  rcases hg with ⟨_, rfl⟩ | ⟨_, rfl⟩ | ⟨_, rfl⟩ | ⟨_, rfl⟩
  · have := hq.unique c16 (by decide); subst this
    exact ⟨8, by rwa [show quov 1115684864 1098907648 = 1082130432 by decide +kernel], by decide, by decide⟩
  · have := hq.unique c32 (by decide); subst this
    exact ⟨4, by rwa [show quov 1115684864 1107296256 = 1073741824 by decide +kernel], by decide, by decide⟩
  · have := hq.unique c64 (by decide); subst this
    exact ⟨2, by rwa [show quov 1115684864 1115684864 = 1065353216 by decide +kernel], by decide, by decide⟩
  · have := hq.unique c128 (by decide); subst this
    exact ⟨1, by rwa [show quov 1115684864 1124073472 = 1056964608 by decide +kernel], by decide, by decide⟩
theorem ql_fin1 {e B : Nat} : ∀ {xs : List Nat} {ks : List Int}, QL e xs ks → (∀ k ∈ ks, k.natAbs ≤ B) → B * 2 ^ e ≤ 2 ^ 159 → ∀ x ∈ xs, fin1 x = true
  | x :: xs, k :: ks, h, hB, he, y, hy => by
    rcases List.mem_cons.1 hy with rfl | hy
    · exact q_fin1 h.1 (Nat.le_trans (Nat.mul_le_mul_right _ (hB k (by simp))) he)
    · exact ql_fin1 h.2 (fun l hl => hB l (by simp [hl])) he y hy
  | [], [], _, _, _, _, hy => by cases hy
  | [], _ :: _, h, _, _, _, _ => h.elim
  | _ :: _, [], h, _, _, _, _ => h.elim
end Go.Proofs.YtobpnoiienpipaaGreat

/-
  What is proved: the exact laws' copying, comparing and marking of lists of single floats.
  Conditions: those that each fact names.
-/
namespace Go.Proofs.YtobpnoiienpipaaGreat
set_option linter.unusedVariables false
open Go.RowKit
attribute [local go_sem] run_store_float run_store_complex unary_negf neg256

/-- The numbers that the laws mark with. -/
def marks (n : Nat) : List Nat := (List.range n).map fun (i : Nat) => floatOfInt .f32 ((i : Int) + 1)
def MarkPost (base : Nat) (v : Value) (n : Nat) (w : World) (e : Ending) (w' : World) : Prop := e = .returned (.int .i64 ((n : Int) + 1)) ∧ FNew w' base v (marks n) ∧ w.grownBy w' v.ownBlock
theorem MarkPost.mk {base : Nat} {v : Value} {n : Nat} {w w' : World} {m : Int} (hm : m = (n : Int) + 1) (h : FNew w' base v (marks n)) (hg : w.grownBy w' v.ownBlock) : MarkPost base v n w (.returned (.int .i64 m)) w' := ⟨by rw [hm], h, hg⟩
end Go.Proofs.YtobpnoiienpipaaGreat

/-
  What is proved: the walks of AddSamples, the program's and the model's, and of the program's function that joins two lists.
  Conditions: the lists can be read.
-/
namespace Go.Proofs.YtobpnoiienpipaaGreat
set_option linter.unusedVariables false
open Go.RowKit
attribute [local go_sem] run_store_float run_store_complex unary_negf neg256

theorem MadeF.snoc {w : World} {b n k : Nat} {xs : List Nat} (h : MadeF w b n k xs) (hx : xs.length = k) (hk : k < n) (r : Nat) : MadeF (w.setCell ⟨b, k, none⟩ (.float .f32 r)) b n (k + 1) (xs ++ [r]) := by
  obtain ⟨cur, h1, h2, h3⟩ := h
  refine ⟨cur.setIfInBounds k (.float .f32 r), heapF h1, by simpa using h2, fun i hi hik => ?_⟩
  by_cases e : i = k
  · subst e
    rw [Array.getElem?_setIfInBounds, if_pos rfl, if_pos (by omega)]
    rw [List.getElem_append_right (by omega)]
    simp [hx]
  · rw [Array.getElem?_setIfInBounds, if_neg (by omega)]
    rw [List.getElem_append_left (by omega)]
    exact h3 i (by omega) (by omega)
/-- What may come of two lists, place for place. -/
def ResL (op : BinOp) (xs ys rs : List Nat) : Prop := rs.length ≤ xs.length ∧ rs.length ≤ ys.length ∧ ∀ i (h : i < rs.length) (h1 : i < xs.length) (h2 : i < ys.length), Res op xs[i] ys[i] rs[i]
theorem ResL.nil (op : BinOp) (xs ys : List Nat) : ResL op xs ys [] := ⟨Nat.zero_le _, Nat.zero_le _, fun i h => absurd h (by simp)⟩
theorem ResL.snoc {op : BinOp} {xs ys rs : List Nat} {r k : Nat} (h : ResL op xs ys rs) (hk : rs.length = k) (h1 : k < xs.length) (h2 : k < ys.length) (hr : Res op xs[k] ys[k] r) : ResL op xs ys (rs ++ [r]) := by
  obtain ⟨a, b, c⟩ := h
  refine ⟨by simp; omega, by simp; omega, fun i hi h1' h2' => ?_⟩
  simp at hi
  by_cases e : i = k
  · subst e
    rw [List.getElem_append_right (by omega)]
    simpa [hk] using hr
  · rw [List.getElem_append_left (by omega)]
    exact c i (by omega) h1' h2'
theorem ResL.same {op : BinOp} {xs ys rs xs' ys' rs' : List Nat} (h : ResL op xs ys rs) (h' : ResL op xs' ys' rs') (hx : SmL xs xs') (hy : SmL ys ys') (hl : rs.length = rs'.length) : SmL rs rs' := by
  obtain ⟨a, b, c⟩ := h
  obtain ⟨a', b', c'⟩ := h'
  exact ⟨hl, fun i h1 h2 => Res.same (hx.2 i (by omega) (by omega)) (hy.2 i (by omega) (by omega)) (c i h1 (by omega) (by omega)) (c' i h2 (by omega) (by omega))⟩
def marksFrom (k0 n : Nat) : List Nat := (List.range n).map fun (i : Nat) => floatOfInt .f32 ((k0 : Int) + (i : Int))
def MarkFrom (k0 base : Nat) (v : Value) (n : Nat) (w : World) (e : Ending) (w' : World) : Prop := e = .returned (.int .i64 ((k0 : Int) + (n : Int))) ∧ FNew w' base v (marksFrom k0 n) ∧ w.grownBy w' v.ownBlock
theorem MarkFrom.mk {k0 base : Nat} {v : Value} {n : Nat} {w w' : World} {m : Int} (hm : m = (k0 : Int) + (n : Int)) (h : FNew w' base v (marksFrom k0 n)) (hg : w.grownBy w' v.ownBlock) : MarkFrom k0 base v n w (.returned (.int .i64 m)) w' := ⟨by rw [hm], h, hg⟩
def addOk (xs ys : List Nat) : Bool := decide (xs.length = ys.length) && decide (xs.length ≤ 256)
def AddR (xs ys rs : List Nat) : Prop := if addOk xs ys = true then rs.length = xs.length ∧ ResL .add xs ys rs else rs = []
theorem AddR.same {xs ys rs rs' : List Nat} (h : AddR xs ys rs) (h' : AddR xs ys rs') : SmL rs rs' := by
  unfold AddR at h h'
  split at h
  · rw [if_pos (by assumption)] at h'
    exact ResL.same h.2 h'.2 (SmL.refl _) (SmL.refl _) (by rw [h.1, h'.1])
  · rw [if_neg (by assumption)] at h'
    rw [h, h']; exact SmL.refl _
theorem AddR.len {xs ys rs : List Nat} (h : AddR xs ys rs) : rs.length ≤ xs.length := by
  unfold AddR at h
  split at h
  · omega
  · rw [h]; simp
theorem AddR.no {xs ys : List Nat} (h : addOk xs ys = false) : AddR xs ys [] := by unfold AddR; rw [h]; simp
theorem AddR.yes {xs ys rs : List Nat} (h : addOk xs ys = true) (h1 : rs.length = xs.length) (h2 : ResL .add xs ys rs) : AddR xs ys rs := by unfold AddR; rw [h]; simpa using ⟨h1, h2⟩
end Go.Proofs.YtobpnoiienpipaaGreat
