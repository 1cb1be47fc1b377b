/-
  What is proved: the walks of the program's functions that make samples of a cell, and of a cell what a channel makes of it.
  Conditions: the amounts of the numbers are bounded.
-/
import Derived.Test.YtgecclccmmcdoaaPkCh
import Derived.Test.YtgecclccmmcdoaaEnc
import Derived.Test.YtgecclccmmcdoaaChanOk
namespace Go.Proofs.Ytgecclccmmcdoaa
set_option linter.unusedVariables false
open Go.RowKit
open Flt (Mag sumv subv mulv quov Q)
attribute [local go_sem] run_store_float run_store_complex unary_negf neg256

set_option maxHeartbeats 2000000 in
theorem encodedCellM_any (y u v : Nat) (w : World) (hadd : ∀ n : Int, floatBits .add .f32 y (carriedOf u v n) = some (addv y (carriedOf u v n))) :
    Calls Try.prog 132 #[.agg #[.float .f32 y, .complex .f32 u v]] w fun e w' => e = .returned (Arr4 (y, u, v)) ∧ Below w.heap.size w w' := by
  have HADD := Lib.hid (fun (n : Int) W => run_float_arith (P := Try.prog) W .add 26 .f32 y _ _ (hadd n))
  have HCR := fun m W => Lib.hid (carried_any u v m W)
  clear hadd
  have hb1 : Below w.heap.size w (((w.alloc (.cells #[.float .f32 y, .complex .f32 u v] 40)).alloc (.cells #[.float .f32 0, .float .f32 0, .float .f32 0, .float .f32 0] 133)).alloc (.cells #[.float .f32 0, .float .f32 0, .float .f32 0, .float .f32 0] 133)) := (((Below.refl _ _).alloc (Nat.le_refl _) _).alloc (by simp) _).alloc (by simp; omega) _
  have hs1 : (((w.alloc (.cells #[.float .f32 y, .complex .f32 u v] 40)).alloc (.cells #[.float .f32 0, .float .f32 0, .float .f32 0, .float .f32 0] 133)).alloc (.cells #[.float .f32 0, .float .f32 0, .float .f32 0, .float .f32 0] 133)).heap.size = w.heap.size + 3 := by simp
  have hc : (((w.alloc (.cells #[.float .f32 y, .complex .f32 u v] 40)).alloc (.cells #[.float .f32 0, .float .f32 0, .float .f32 0, .float .f32 0] 133)).alloc (.cells #[.float .f32 0, .float .f32 0, .float .f32 0, .float .f32 0] 133)).heap[w.heap.size]? = some (.cells #[.float .f32 y, .complex .f32 u v] 40 (0, 0)) := (Below.heap_alloc _ _ _ (by simp; omega)).trans ((Below.heap_alloc _ _ _ (by simp)).trans (heap_alloc_new w _))
  have har : ArrF (((w.alloc (.cells #[.float .f32 y, .complex .f32 u v] 40)).alloc (.cells #[.float .f32 0, .float .f32 0, .float .f32 0, .float .f32 0] 133)).alloc (.cells #[.float .f32 0, .float .f32 0, .float .f32 0, .float .f32 0] 133)) (w.heap.size + 1) 0 [] := by
    have := ArrF.start (w.alloc (.cells #[.float .f32 y, .complex .f32 u v] 40)) []
    rw [World.size_alloc] at this
    exact this.kept (Below.heap_alloc _ _ _ (by simp))
  have ha := ArrF.start ((w.alloc (.cells #[.float .f32 y, .complex .f32 u v] 40)).alloc (.cells #[.float .f32 0, .float .f32 0, .float .f32 0, .float .f32 0] 133)) (enc4 (y, u, v))
  rw [World.size_alloc, World.size_alloc] at ha
  have HC := Lib.hid hc
  have HA := Lib.hid ha
  have HAR0 := Lib.hid har
  have HB1 := Lib.hid hb1
  have HS1 := Lib.hid hs1
  clear hc ha hb1 hs1 har
  go_enter Try.func132, Try.ntmps132
  go_wp2
  generalize (((w.alloc (.cells #[.float .f32 y, .complex .f32 u v] 40)).alloc (.cells #[.float .f32 0, .float .f32 0, .float .f32 0, .float .f32 0] 133)).alloc (.cells #[.float .f32 0, .float .f32 0, .float .f32 0, .float .f32 0] 133)) = w1 at *
  go_loopw [5] (fun i wr => ∃ k : Nat, k ≤ 4 ∧ i = .int .i64 (k : Int) ∧ w1.grownBy wr (some (w.heap.size + 2)) ∧ ArrF wr (w.heap.size + 2) k (enc4 (y, u, v))) (fun i _ => 4 - (intOf i).toNat)
  case atStart => exact ⟨0, Nat.zero_le _, rfl, World.grownBy.refl _ _, HA.out⟩
  case round =>
    obtain ⟨k, hk, rfl, hg, har⟩ := hrel
    have HAR := Lib.hid har
    have HG := Lib.hid hg
    have hblk := (hg.block w.heap.size (by have := HS1.out; omega) (by intro e; have := Option.some.inj e; omega)).trans HC.out
    have m0 : wr.cell? ⟨w.heap.size, 0, none⟩ = some (.float .f32 y) := by simp [World.cell?, hblk]
    have m1 : wr.cell? ⟨w.heap.size, 1, none⟩ = some (.complex .f32 u v) := by simp [World.cell?, hblk]
    have HRES := Lib.hid (HAR0.out.kept (hg.block (w.heap.size + 1) (by have := HS1.out; omega) (by intro e; have := Option.some.inj e; omega)))
    have hsz := hg.size
    clear hg har HA hblk
    by_cases hlt : k < 4
    · have hadd := fun W => HADD.out (k : Int) W
      have hlm : k < (enc4 (y, u, v)).length := hlt
      obtain ⟨⟨x0, hx0⟩, hf0⟩ := HAR.out.at k hlt
      have HLM := Lib.hid hlm
      have hne : w.heap.size + 2 < wr.heap.size := by have := HS1.out; omega
      clear hlm
      go_wp2
      go_region_with (go_at_call 148; refine (HCR _ _).out.mono ?_; rintro e w2 ⟨rfl, hb2⟩; have hg2 : wr.grownBy w2 none := (grownN (World.grownBy.refl wr none) 1).trans (grown_of hb2); have q0 := hg2.cell m0 (by simp); have q1 := hg2.cell m1 (by simp); have q2 := hg2.cell hx0 (by simp); have hkp := hg2.block (w.heap.size + 2) hne (by simp); have har2 := HAR.out.kept hkp; have q3 := (har2.at k hlt).2)
      all_goals
        have hst := har2.step HLM.out rfl
        rw [enc4_get] at hst
        have HST := Lib.hid hst
        have hg3 := (grown_own HG.out hg2 (by intro r hr; cases hr)).trans (Lib.grownBy_setCell w2 (w.heap.size + 2) k (.float .f32 (addv y (carriedOf u v (k : Int)))))
        clear hst hkp har2 hg2 hb2
        go_wp2
        go_roundw
        case rel => exact ⟨k + 1, by omega, by go_num, hg3, HST.out⟩
        case measure => simp [intOf]; omega
    · have hk4 : k = 4 := by omega
      subst hk4
      have d0 := HAR.out.get 0 (show 0 < 4 by decide) (by decide)
      have d1 := HAR.out.get 1 (show 1 < 4 by decide) (by decide)
      have d2 := HAR.out.get 2 (show 2 < 4 by decide) (by decide)
      have d3 := HAR.out.get 3 (show 3 < 4 by decide) (by decide)
      obtain ⟨⟨x0, r0⟩, f0⟩ := HRES.out.at 0 (by decide)
      obtain ⟨⟨x1, r1⟩, f1⟩ := HRES.out.at 1 (by decide)
      obtain ⟨⟨x2, r2⟩, f2⟩ := HRES.out.at 2 (by decide)
      obtain ⟨⟨x3, r3⟩, f3⟩ := HRES.out.at 3 (by decide)
      have hfin := HB1.out.grown HG.out (by have := HS1.out; omega) (fun r hr => by cases hr; omega)
      have e0 : (enc4 (y, u, v))[0]'(show 0 < 4 by decide) = addv y u := rfl
      have e1 : (enc4 (y, u, v))[1]'(show 1 < 4 by decide) = addv y (Op.negFloat .f32 v) := rfl
      have e2 : (enc4 (y, u, v))[2]'(show 2 < 4 by decide) = addv y (Op.negFloat .f32 u) := rfl
      have e3 : (enc4 (y, u, v))[3]'(show 3 < 4 by decide) = addv y v := rfl
      rw [e0] at d0
      rw [e1] at d1
      rw [e2] at d2
      rw [e3] at d3
      clear e0 e1 e2 e3
      have hput := arr_put4 HRES.out (.float .f32 (addv y u)) (.float .f32 (addv y (Op.negFloat .f32 v))) (.float .f32 (addv y (Op.negFloat .f32 u))) (.float .f32 (addv y v))
      have hbel := (((hfin.setCell (p := ⟨w.heap.size + 1, 0, none⟩) (by simp) (.float .f32 (addv y u))).setCell (p := ⟨w.heap.size + 1, 1, none⟩) (by simp) (.float .f32 (addv y (Op.negFloat .f32 v)))).setCell (p := ⟨w.heap.size + 1, 2, none⟩) (by simp) (.float .f32 (addv y (Op.negFloat .f32 u)))).setCell (p := ⟨w.heap.size + 1, 3, none⟩) (by simp) (.float .f32 (addv y v))
      have HP := Lib.hid hput
      have HBL := Lib.hid hbel
      clear hput hbel
      go_wp2
      generalize ((((wr.setCell ⟨w.heap.size + 1, 0, none⟩ (.float .f32 (addv y u))).setCell ⟨w.heap.size + 1, 1, none⟩ (.float .f32 (addv y (Op.negFloat .f32 v)))).setCell ⟨w.heap.size + 1, 2, none⟩ (.float .f32 (addv y (Op.negFloat .f32 u)))).setCell ⟨w.heap.size + 1, 3, none⟩ (.float .f32 (addv y v))) = wz at *
      obtain ⟨z0, z1, z2, z3⟩ := HP.out
      refine bodyPost_ret (v := Arr4 (y, u, v)) ?_ rfl ⟨rfl, HBL.out⟩
      simp [results, Try.results132, go_sem, z0, z1, z2, z3, Arr4]
theorem mag_neg {k x : Nat} (h : Mag k x) (hx : x < 2 ^ 32) : Mag k (Op.negFloat .f32 x) := by
  obtain ⟨s, m, e, h1, h2⟩ := h
  exact ⟨!s, m, e, by rw [read_neg hx, h1]; rfl, h2⟩
theorem carried_mag {k u v : Nat} (hu : Mag k u) (hv : Mag k v) (fu : u < 2 ^ 32) (fv : v < 2 ^ 32) (n : Int) : Mag k (carriedOf u v n) := by
  unfold carriedOf
  repeat' split
  · exact hu
  · exact mag_neg hv fv
  · exact mag_neg hu fu
  · exact hv
theorem add_mag {k x y : Nat} (hx : Mag k x) (hy : Mag k y) (hk : k ≤ 270) : floatBits .add .f32 x y = some (addv x y) := (hx.add hy hk).1
/-- A channel of bounded numbers. -/
structure MagH (h : Chn) : Prop where
  a : Mag 154 h.A
  o : Mag 156 h.O
  x : Mag 154 h.X
  y : Mag 154 h.Y
/-- What a call of onCell has made at its start. -/
structure Cel (w wr : World) (A O X Y : Nat) : Prop where
  g : wr.heap[w.heap.size]? = some (.cells #[.float .f32 A, .float .f32 O, .complex .f32 X Y] 78 (0, 0))
  res : ArrF wr (w.heap.size + 1 + 1) 0 []
  bel : Below w.heap.size w wr
  size : w.heap.size + 3 ≤ wr.heap.size
theorem Cel.start (w : World) (A O X Y s t u v : Nat) : Cel w (((w.alloc (.cells #[.float .f32 A, .float .f32 O, .complex .f32 X Y] 78)).alloc (.cells #[.float .f32 s, .float .f32 t, .float .f32 u, .float .f32 v] 133)).alloc (.cells #[.float .f32 0, .float .f32 0, .float .f32 0, .float .f32 0] 133)) A O X Y := by
  have ha := ArrF.start ((w.alloc (.cells #[.float .f32 A, .float .f32 O, .complex .f32 X Y] 78)).alloc (.cells #[.float .f32 s, .float .f32 t, .float .f32 u, .float .f32 v] 133)) []
  rw [World.size_alloc, World.size_alloc] at ha
  exact ⟨(Below.heap_alloc _ _ _ (by simp; omega)).trans ((Below.heap_alloc _ _ _ (by simp)).trans (heap_alloc_new w _)), ha, (((Below.refl _ _).alloc (Nat.le_refl _) _).alloc (by simp) _).alloc (by simp; omega) _, by simp⟩
theorem Cel.next {w wr w' : World} {A O X Y : Nat} (h : Cel w wr A O X Y) (hb : Below wr.heap.size wr w') : Cel w w' A O X Y := by
  have hs := h.size
  exact ⟨(hb.block _ (by omega)).trans h.g, h.res.kept (hb.block _ (by omega)), below_trans h.bel hb h.bel.size, Nat.le_trans h.size hb.size⟩
theorem Cel.all {w wr : World} {A O X Y : Nat} (h : Cel w wr A O X Y) : wr.cell? ⟨w.heap.size, 0, none⟩ = some (.float .f32 A) ∧ wr.cell? ⟨w.heap.size, 1, none⟩ = some (.float .f32 O) ∧ wr.cell? ⟨w.heap.size, 2, none⟩ = some (.complex .f32 X Y) := by
  have := h.g
  refine ⟨?_, ?_, ?_⟩ <;> simp [World.cell?, this]
def Arr4R (c : C3) (w : World) (e : Ending) (w' : World) : Prop := e = .returned (Arr4 c) ∧ Below w.heap.size w w'
set_option maxHeartbeats 2000000 in
theorem onCell_any (A O X Y s t u v : Nat) (w : World) (hh : MagH ⟨A, O, X, Y⟩) (hs : Mag 160 s) (ht : Mag 160 t) (hu : Mag 160 u) (hv : Mag 160 v) :
    Calls Try.prog 176 #[.agg #[.float .f32 A, .float .f32 O, .complex .f32 X Y], .agg #[.float .f32 s, .float .f32 t, .float .f32 u, .float .f32 v]] w fun e w' => e = .returned (Arr4 (txC ⟨A, O, X, Y⟩ (decOf s t u v))) ∧ Below w.heap.size w w' := by
  obtain ⟨c, hc⟩ : ∃ c, decOf s t u v = c := ⟨_, rfl⟩
  obtain ⟨m1, m2, m3⟩ := decOf_mag hs ht hu hv
  have HD := fun W => Lib.hid ((decodedCell_any s t u v W).mono fun e w' h => (by obtain ⟨d, h1, h2, h3⟩ := h; obtain rfl := dec_mag hs ht hu hv h2; rw [hc] at h1; exact ⟨h1, h3⟩ : e = .returned (.agg #[.float .f32 c.1, .complex .f32 c.2.1 c.2.2]) ∧ Below W.heap.size W w'))
  rw [hc] at m1 m2 m3 ⊢
  have l1 := hh.a.mul m1 (by decide) (by decide)
  have l2 := l1.2.add (hh.o.mono (by decide)) (by decide)
  have q1 := fun W => run_float_arith (P := Try.prog) W .mul 26 .f32 _ _ _ l1.1
  have q2 := fun W => run_float_arith (P := Try.prog) W .add 26 .f32 _ _ _ l2.1
  go_enter Try.func176, Try.ntmps176
  have HT := Lib.hid (Cel.start w A O X Y s t u v)
  obtain ⟨g0, g1, g2⟩ := HT.out.all
  have t1 := m2.mul hh.x (by decide) (by decide)
  have t2 := m3.mul hh.y (by decide) (by decide)
  have t3 := m2.mul hh.y (by decide) (by decide)
  have t4 := m3.mul hh.x (by decide) (by decide)
  have t5 := t1.2.sub t2.2 (by decide)
  have t6 := t3.2.add t4.2 (by decide)
  have HTM := Lib.hid (show ∀ re im, TimesR c.2.1 c.2.2 X Y re im → re = timesRe c.2.1 c.2.2 X Y ∧ im = timesIm c.2.1 c.2.2 X Y from fun re im h => TimesR.is m2 m3 hh.x hh.y (by decide) (by decide) h)
  have HMG := Lib.hid (show Mag 175 (sumv (mulv A c.1) O) ∧ Mag 175 (timesRe c.2.1 c.2.2 X Y) ∧ Mag 175 (timesIm c.2.1 c.2.2 X Y) from ⟨l2.2.mono (by decide), t5.2.mono (by decide), t6.2.mono (by decide)⟩)
  clear m1 m2 m3 l1 l2 hs ht hu hv hh t1 t2 t3 t4 t5 t6
  go_wp2_with fail
  generalize ((w.alloc (.cells #[.float .f32 A, .float .f32 O, .complex .f32 X Y] 78)).alloc (.cells #[.float .f32 s, .float .f32 t, .float .f32 u, .float .f32 v] 133)).alloc (.cells #[.float .f32 0, .float .f32 0, .float .f32 0, .float .f32 0] 133) = wA at *
  refine (HD _).out.mono ?_
  rintro e w1 ⟨rfl, hb1⟩
  have hbc := (Below.refl _ w1).alloc (Nat.le_refl _) (.cells #[.float .f32 c.1, .complex .f32 c.2.1 c.2.2] 40)
  have HT1 := Lib.hid ((HT.out.next hb1).next hbc)
  clear HT hb1 g0 g1 g2
  obtain ⟨g0, g1, g2⟩ := HT1.out.all
  have hnc := heap_alloc_new w1 (.cells #[.float .f32 c.1, .complex .f32 c.2.1 c.2.2] 40)
  have k0 : (w1.alloc (.cells #[.float .f32 c.1, .complex .f32 c.2.1 c.2.2] 40)).cell? ⟨w1.heap.size, 0, none⟩ = some (.float .f32 c.1) := (cell_of_row _ _ 0 _ _ _ hnc).trans rfl
  have k1 : (w1.alloc (.cells #[.float .f32 c.1, .complex .f32 c.2.1 c.2.2] 40)).cell? ⟨w1.heap.size, 1, none⟩ = some (.complex .f32 c.2.1 c.2.2) := (cell_of_row _ _ 1 _ _ _ hnc).trans rfl
  clear hnc hbc
  go_wp2_with fail
  generalize w1.alloc (.cells #[.float .f32 c.1, .complex .f32 c.2.1 c.2.2] 40) = w2 at *
  refine (times_any _ _ _ _ _).mono ?_
  rintro e w3 ⟨re, im, rfl, hti, n3, rfl⟩
  obtain ⟨e1, e2⟩ := HTM.out re im hti.1
  have HE := fun W => Lib.hid (encodedCellM_any (sumv (mulv A c.1) O) re im W (fun n => by
    have hm := HMG.out
    rw [← e1, ← e2] at hm
    exact add_mag hm.1 (carried_mag hm.2.1 hm.2.2 hti.2.1 hti.2.2 n) (by decide)))
  have HT3 := Lib.hid (HT1.out.next (belowDN (Below.refl _ w2) n3))
  have HEQ := Lib.hid (And.intro e1 e2)
  clear HT1 hti HTM HMG e1 e2 g0 g1 g2 k0 k1
  go_wp2_with fail
  generalize w2.drewN n3 = w4 at *
  refine (HE _).out.mono ?_
  rintro e w5 ⟨rfl, hb5⟩
  have HT5 := Lib.hid (HT3.out.next hb5)
  clear HT3 hb5
  have hv4 : Arr4 (txC ⟨A, O, X, Y⟩ c) = .agg #[.float .f32 (addv (sumv (mulv A c.1) O) re), .float .f32 (addv (sumv (mulv A c.1) O) (Op.negFloat .f32 im)), .float .f32 (addv (sumv (mulv A c.1) O) (Op.negFloat .f32 re)), .float .f32 (addv (sumv (mulv A c.1) O) im)] := by rw [HEQ.out.1, HEQ.out.2]; rfl
  rw [show Arr4 (sumv (mulv A c.1) O, re, im) = .agg #[.float .f32 (addv (sumv (mulv A c.1) O) re), .float .f32 (addv (sumv (mulv A c.1) O) (Op.negFloat .f32 im)), .float .f32 (addv (sumv (mulv A c.1) O) (Op.negFloat .f32 re)), .float .f32 (addv (sumv (mulv A c.1) O) im)] from rfl]
  generalize addv (sumv (mulv A c.1) O) re = p0 at *
  generalize addv (sumv (mulv A c.1) O) (Op.negFloat .f32 im) = p1 at *
  generalize addv (sumv (mulv A c.1) O) (Op.negFloat .f32 re) = p2 at *
  generalize addv (sumv (mulv A c.1) O) im = p3 at *
  have HV4 := Lib.hid hv4
  clear HEQ hv4 HE HD q1 q2 hc
  obtain ⟨⟨x0, r0⟩, f0⟩ := HT5.out.res.at 0 (by decide)
  obtain ⟨⟨x1, r1⟩, f1⟩ := HT5.out.res.at 1 (by decide)
  obtain ⟨⟨x2, r2⟩, f2⟩ := HT5.out.res.at 2 (by decide)
  obtain ⟨⟨x3, r3⟩, f3⟩ := HT5.out.res.at 3 (by decide)
  have HP := Lib.hid (arr_put4 HT5.out.res (.float .f32 p0) (.float .f32 p1) (.float .f32 p2) (.float .f32 p3))
  have HBL := Lib.hid ((((HT5.out.bel.setCell (p := ⟨w.heap.size + 1 + 1, 0, none⟩) (by simp; omega) (.float .f32 p0)).setCell (p := ⟨w.heap.size + 1 + 1, 1, none⟩) (by simp; omega) (.float .f32 p1)).setCell (p := ⟨w.heap.size + 1 + 1, 2, none⟩) (by simp; omega) (.float .f32 p2)).setCell (p := ⟨w.heap.size + 1 + 1, 3, none⟩) (by simp; omega) (.float .f32 p3))
  go_wp2
  generalize ((((w5.setCell ⟨w.heap.size + 1 + 1, 0, none⟩ (.float .f32 p0)).setCell ⟨w.heap.size + 1 + 1, 1, none⟩ (.float .f32 p1)).setCell ⟨w.heap.size + 1 + 1, 2, none⟩ (.float .f32 p2)).setCell ⟨w.heap.size + 1 + 1, 3, none⟩ (.float .f32 p3)) = wz at *
  obtain ⟨z0, z1, z2, z3⟩ := HP.out
  refine bodyPost_ret (v := .agg #[.float .f32 p0, .float .f32 p1, .float .f32 p2, .float .f32 p3]) ?_ rfl ⟨by rw [HV4.out], HBL.out⟩
  simp [results, Try.results176, go_sem, z0, z1, z2, z3]
end Go.Proofs.Ytgecclccmmcdoaa
