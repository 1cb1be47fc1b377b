/-
  What is proved: the walks of BurstColour, the program's and the model's.
  Conditions: the list can be read, and has at most 4000000 numbers.
-/
import Derived.Test.YtobpnoiienpipaaGreatPz05
import Derived.Test.YtobpnoiienpipaaGreatPz06
import Derived.Test.YtobpnoiienpipaaGreatPz10
import Derived.Test.YtobpnoiienpipaaGreatPz21
namespace Go.Proofs.YtobpnoiienpipaaGreat
set_option linter.unusedVariables false
open Go.RowKit
open Flt (Mag sumv subv mulv quov)
attribute [local go_sem] run_store_float run_store_complex unary_negf neg256

theorem cadd_run {a b c d re im : Nat} (h1 : floatBits .add .f32 a c = some re) (h2 : floatBits .add .f32 b d = some im) (W : World) : (binOp .add 26 (.complex .f32 a b) (.complex .f32 c d)).run Tryz.prog W = .ok (.complex .f32 re im) W :=
  run_complex_sum W .add (.inl rfl) 26 .f32 a b c d re im (by simp [cSumBits, h1, h2])

/-- Sums of the first numbers of four. -/
def psum (a b c d : Nat) : Nat → Nat
  | 0 => a
  | 1 => sumv a b
  | 2 => sumv (sumv a b) c
  | _ => sumv (sumv (sumv a b) c) d
def quarter4 (a b c d : Nat) : Nat := quov (sumv (sumv (sumv a b) c) d) 1082130432
structure Sum4 (a b c d : Nat) : Prop where
  s1 : floatBits .add .f32 a b = some (psum a b c d 1)
  s2 : floatBits .add .f32 (psum a b c d 1) c = some (psum a b c d 2)
  s3 : floatBits .add .f32 (psum a b c d 2) d = some (psum a b c d 3)
  q : floatBits .quo .f32 (psum a b c d 3) 1082130432 = some (quarter4 a b c d)
  mag : Mag 165 (quarter4 a b c d)
theorem sum4_of {a b c d : Nat} (ha : Flt.fin a = true) (hb : Flt.fin b = true) (hc : Flt.fin c = true) (hd : Flt.fin d = true) : Sum4 a b c d := by
  have m1 := (Flt.fin_mag ha).add (Flt.fin_mag hb) (by decide)
  have m2 := m1.2.add ((Flt.fin_mag hc).mono (by decide)) (by decide)
  have m3 := m2.2.add ((Flt.fin_mag hd).mono (by decide)) (by decide)
  have m4 := m3.2.quarter (by decide)
  exact ⟨m1.1, m2.1, m3.1, m4.1, m4.2⟩
/-- What a list tells of the colour of its burst. -/
def BurstR (xs : List Nat) (u z : Nat) (ok : Bool) : Prop :=
  if lineOk xs = true then ∃ c0 c1 c2 c3 : C3, DecL (part xs 8 16) [c0, c1, c2, c3] ∧ ok = rok [c0, c1, c2, c3] ∧
    (ok = true → u = quarter4 c0.2.1 c1.2.1 c2.2.1 c3.2.1 ∧ z = quarter4 c0.2.2 c1.2.2 c2.2.2 c3.2.2) ∧ (ok = false → u = 0 ∧ z = 0)
  else ok = false ∧ u = 0 ∧ z = 0
theorem rok_four {c0 c1 c2 c3 : C3} (h : rok [c0, c1, c2, c3] = true) : Sum4 c0.2.1 c1.2.1 c2.2.1 c3.2.1 ∧ Sum4 c0.2.2 c1.2.2 c2.2.2 c3.2.2 := by
  obtain ⟨_, h2⟩ := rok_iff.1 h
  have f0 := h2 c0 (by simp)
  have f1 := h2 c1 (by simp)
  have f2 := h2 c2 (by simp)
  have f3 := h2 c3 (by simp)
  exact ⟨sum4_of f0.2.1 f1.2.1 f2.2.1 f3.2.1, sum4_of f0.2.2 f1.2.2 f2.2.2 f3.2.2⟩
theorem zero_mag : Mag 165 0 := ⟨false, 0, -149, Flt.read_zero, .inl rfl⟩
theorem BurstR.mag {xs : List Nat} {u z : Nat} {ok : Bool} (h : BurstR xs u z ok) : Mag 165 u ∧ Mag 165 z := by
  unfold BurstR at h
  split at h
  · obtain ⟨c0, c1, c2, c3, _, h2, h3, h4⟩ := h
    cases ok with
    | false => obtain ⟨rfl, rfl⟩ := h4 rfl; exact ⟨zero_mag, zero_mag⟩
    | true =>
      obtain ⟨s1, s2⟩ := rok_four h2.symm
      obtain ⟨rfl, rfl⟩ := h3 rfl
      exact ⟨s1.mag, s2.mag⟩
  · obtain ⟨_, rfl, rfl⟩ := h
    exact ⟨zero_mag, zero_mag⟩
theorem sm_fin {x y : Nat} (h : Sm x y) (hx : Flt.fin x = true) : x = y := by
  rcases h with h | ⟨h1, _⟩
  · exact h
  · rw [fin_nan h1] at hx; cases hx
theorem BurstR.same {xs : List Nat} {u z u' z' : Nat} {ok ok' : Bool} (h : BurstR xs u z ok) (h' : BurstR xs u' z' ok') : ok = ok' ∧ u = u' ∧ z = z' := by
  unfold BurstR at h h'
  by_cases hl : lineOk xs = true
  · rw [if_pos hl] at h h'
    obtain ⟨c0, c1, c2, c3, d, rfl, h3, h4⟩ := h
    obtain ⟨e0, e1, e2, e3, d', rfl, h3', h4'⟩ := h'
    have hs := d.same d'
    have hr := hs.rok
    refine ⟨hr, ?_⟩
    cases hk : rok [c0, c1, c2, c3] with
    | false =>
      have hk' := hr.symm.trans hk
      obtain ⟨rfl, rfl⟩ := h4 hk
      obtain ⟨rfl, rfl⟩ := h4' hk'
      exact ⟨rfl, rfl⟩
    | true =>
      have hk' := hr.symm.trans hk
      obtain ⟨rfl, rfl⟩ := h3 hk
      obtain ⟨rfl, rfl⟩ := h3' hk'
      obtain ⟨_, h2⟩ := rok_iff.1 hk
      have f0 := h2 c0 (by simp)
      have f1 := h2 c1 (by simp)
      have f2 := h2 c2 (by simp)
      have f3 := h2 c3 (by simp)
      have k0 := hs.2 0 (by simp) (by simp)
      have k1 := hs.2 1 (by simp) (by simp)
      have k2 := hs.2 2 (by simp) (by simp)
      have k3 := hs.2 3 (by simp) (by simp)
      have a0 := sm_fin k0.2.1 f0.2.1
      have a1 := sm_fin k1.2.1 f1.2.1
      have a2 := sm_fin k2.2.1 f2.2.1
      have a3 := sm_fin k3.2.1 f3.2.1
      have b0 := sm_fin k0.2.2 f0.2.2
      have b1 := sm_fin k1.2.2 f1.2.2
      have b2 := sm_fin k2.2.2 f2.2.2
      have b3 := sm_fin k3.2.2 f3.2.2
      simp only [List.getElem_cons_zero, List.getElem_cons_succ] at a0 a1 a2 a3 b0 b1 b2 b3
      rw [a0, a1, a2, a3, b0, b1, b2, b3]
      exact ⟨rfl, rfl⟩
  · rw [if_neg hl] at h h'
    obtain ⟨rfl, rfl, rfl⟩ := h
    obtain ⟨rfl, rfl, rfl⟩ := h'
    exact ⟨rfl, rfl, rfl⟩
def BurstPost (xs : List Nat) (w : World) (e : Ending) (w' : World) : Prop := ∃ u z ok, e = .returned (.tuple #[.complex .f32 u z, .bool ok]) ∧ BurstR xs u z ok ∧ Below w.heap.size w w'
theorem BurstPost.no {xs : List Nat} {w w' : World} (h : lineOk xs = false) (hb : Below w.heap.size w w') : BurstPost xs w (.returned (.tuple #[.complex .f32 0 0, .bool false])) w' :=
  ⟨0, 0, false, rfl, by unfold BurstR; rw [if_neg (by rw [h]; decide)]; exact ⟨rfl, rfl, rfl⟩, hb⟩
theorem BurstPost.dim {xs : List Nat} {w w' : World} {c0 c1 c2 c3 : C3} (h : lineOk xs = true) (hd : DecL (part xs 8 16) [c0, c1, c2, c3]) (hr : rok [c0, c1, c2, c3] = false) (hb : Below w.heap.size w w') : BurstPost xs w (.returned (.tuple #[.complex .f32 0 0, .bool false])) w' :=
  ⟨0, 0, false, rfl, by unfold BurstR; rw [if_pos h]; exact ⟨c0, c1, c2, c3, hd, hr.symm, (fun h => by cases h), (fun _ => ⟨rfl, rfl⟩)⟩, hb⟩
theorem BurstPost.yes {xs : List Nat} {w w' : World} {c0 c1 c2 c3 : C3} (h : lineOk xs = true) (hd : DecL (part xs 8 16) [c0, c1, c2, c3]) (hr : rok [c0, c1, c2, c3] = true) (hb : Below w.heap.size w w') :
    BurstPost xs w (.returned (.tuple #[.complex .f32 (quarter4 c0.2.1 c1.2.1 c2.2.1 c3.2.1) (quarter4 c0.2.2 c1.2.2 c2.2.2 c3.2.2), .bool true])) w' :=
  ⟨_, _, true, rfl, by unfold BurstR; rw [if_pos h]; exact ⟨c0, c1, c2, c3, hd, hr.symm, (fun _ => ⟨rfl, rfl⟩), (fun h => by cases h)⟩, hb⟩
theorem four_of16 {ys : List Nat} {cs : List C3} (hl : ys.length = 16) (h : DecL ys cs) : ∃ c0 c1 c2 c3, cs = [c0, c1, c2, c3] := by
  have h1 := h.1
  match cs, h1 with
  | [c0, c1, c2, c3], _ => exact ⟨c0, c1, c2, c3, rfl⟩
  | [], h1 => simp at h1; omega
  | [_], h1 => simp at h1; omega
  | [_, _], h1 => simp at h1; omega
  | [_, _, _], h1 => simp at h1; omega
  | _ :: _ :: _ :: _ :: _ :: _, h1 => simp at h1; omega

theorem arith_run {op : BinOp} {x y r : Nat} (h : floatBits op .f32 x y = some r) (W : World) : (binOp op 25 (.float .f32 x) (.float .f32 y)).run Tryz.prog W = .ok (.float .f32 r) W := run_float_arith (P := Tryz.prog) W op 25 .f32 x y r h
theorem divided_any (x y n p q : Nat) (w : World) (h1 : floatBits .quo .f32 x n = some p) (h2 : floatBits .quo .f32 y n = some q) :
    Calls Tryz.prog 154 #[.complex .f32 x y, .float .f32 n] w fun e w' => e = .returned (.complex .f32 p q) ∧ w = w' := by
  have r1 := arith_run h1
  have r2 := arith_run h2
  clear h1 h2
  go_enter Tryz.func154, Tryz.ntmps154
  go_wp2
  go_ret
  exact ⟨rfl, rfl⟩
set_option maxHeartbeats 2000000 in
set_option maxRecDepth 100000 in
theorem burstColour_any (v : Value) (xs : List Nat) (w : World) (h : FRow w v xs) (hl : xs.length ≤ 4000000) :
    Calls Tryz.prog 169 #[v] w fun e w' => BurstPost xs w e w' := by
  have HO := Lib.hid (lineOk_any v xs w h hl)
  cases ho : lineOk xs with
  | false =>
    rw [ho] at HO
    clear h
    go_enter Tryz.func169, Tryz.ntmps169
    go_wp2_with fail
    refine HO.out.mono ?_
    rintro e w1 ⟨rfl, rfl⟩
    go_wp2
    go_ret2
    exact BurstPost.no ho (Below.refl _ _)
  | true =>
    rw [ho] at HO
    have hlen := lineOk_len ho
    rcases h with ⟨_, h1⟩ | ⟨g, o, cap, rfl, hcap, hcell⟩
    · subst h1; simp at hlen
    · have hpl := part_len xs 8 16 (by omega)
      have HD := Lib.hid (decode_any (.slice (some ⟨g, o + 8, none⟩) 16 16) (part xs 8 16) false w (FRow.part (.inr ⟨g, o, cap, rfl, hcap, hcell⟩) rfl 8 16 16 (by omega) (by omega) (by omega)) (by omega))
      have HK := Lib.hid (burst_any g o xs.length cap w (by omega) hcap hl)
      have HLO := Lib.hid ho
      have HPL := Lib.hid hpl
      clear hcell ho hpl hlen
      go_enter Tryz.func169, Tryz.ntmps169
      go_wp2_with fail
      refine HO.out.mono ?_
      rintro e w1 ⟨rfl, rfl⟩
      go_wp2_with fail
      refine HK.out.mono ?_
      rintro e w1 ⟨rfl, rfl⟩
      go_wp2_with fail
      refine HD.out.mono ?_
      rintro e w1 ⟨v1, cs, hd1, _, _, rfl, hn1, hb1⟩
      have hd := hd1 (by rw [HPL.out])
      obtain ⟨c0, c1, c2, c3, rfl⟩ := four_of16 HPL.out hd
      have HDL := Lib.hid hd
      clear hd hd1 HD HK
      cases hr : rok [c0, c1, c2, c3] with
      | false =>
        have HR := Lib.hid hr
        clear hn1 hr
        go_wp2
        go_ret2
        exact BurstPost.dim HLO.out HDL.out HR.out hb1
      | true =>
        rw [hr] at hn1
        have HR := Lib.hid hr
        obtain ⟨s1, s2⟩ := rok_four hr
        rcases hn1.row with ⟨_, h0⟩ | ⟨g', o', cap', rfl, hcap', hcell'⟩
        · cases h0
        · obtain ⟨p0, q0⟩ := hcell' 0 (by simp)
          obtain ⟨p1, q1⟩ := hcell' 1 (by simp)
          obtain ⟨p2, q2⟩ := hcell' 2 (by simp)
          obtain ⟨p3, q3⟩ := hcell' 3 (by simp)
          have hcap4 : 4 ≤ cap' := hcap'
          have HDV := fun W => Lib.hid (divided_any (psum c0.2.1 c1.2.1 c2.2.1 c3.2.1 3) (psum c0.2.2 c1.2.2 c2.2.2 c3.2.2 3) 1082130432 _ _ W s1.q s2.q)
          have A1 := Lib.hid (fun W => cadd_run s1.s1 s2.s1 W)
          have A2 := Lib.hid (fun W => cadd_run s1.s2 s2.s2 W)
          have A3 := Lib.hid (fun W => cadd_run s1.s3 s2.s3 W)
          have HBY := Lib.hid (fun (w' : World) hb => BurstPost.yes (w := w) (w' := w') HLO.out HDL.out HR.out hb)
          have z1 : psum c0.2.1 c1.2.1 c2.2.1 c3.2.1 0 = c0.2.1 := rfl
          have z2 : psum c0.2.2 c1.2.2 c2.2.2 c3.2.2 0 = c0.2.2 := rfl
          clear hr hn1 hcap' hcell' s1 s2 HDL HR
          generalize psum c0.2.1 c1.2.1 c2.2.1 c3.2.1 = P at *
          generalize psum c0.2.2 c1.2.2 c2.2.2 c3.2.2 = Q at *
          generalize quarter4 c0.2.1 c1.2.1 c2.2.1 c3.2.1 = R at *
          generalize quarter4 c0.2.2 c1.2.2 c2.2.2 c3.2.2 = S at *
          obtain ⟨y0, u0, v0⟩ := c0
          obtain ⟨y1, u1, v1⟩ := c1
          obtain ⟨y2, u2, v2⟩ := c2
          obtain ⟨y3, u3, v3⟩ := c3
          simp only [List.getElem_cons_zero, List.getElem_cons_succ, Nat.zero_mul, Nat.add_zero, Nat.one_mul] at p0 q0 p1 q1 p2 q2 p3 q3 z1 z2
          go_wp2
          go_loopw [6, 27] (fun s i wr => ∃ k : Nat, (k = 0 ∨ k = 1 ∨ k = 2 ∨ k = 3) ∧ i = .int .i64 (k : Int) ∧ s = .complex .f32 (P k) (Q k) ∧ Below w1.heap.size w1 wr) (fun _ i _ => 3 - (intOf i).toNat)
          case atStart => exact ⟨0, .inl rfl, rfl, by rw [z1, z2], Below.refl _ _⟩
          case round =>
            obtain ⟨k, hk, rfl, rfl, hb⟩ := hrel
            rcases hk with rfl | rfl | rfl | rfl
            · have e0 := (grown_of hb).cell p1 (by simp)
              have e1 := (grown_of hb).cell q1 (by simp)
              have a1 := A1.out
              go_wp2
              go_roundw
              case rel => exact ⟨1, .inr (.inl rfl), rfl, rfl, hb.alloc hb.size _⟩
              case measure => simp [intOf]
            · have e0 := (grown_of hb).cell p2 (by simp)
              have e1 := (grown_of hb).cell q2 (by simp)
              have a1 := A2.out
              go_wp2
              go_roundw
              case rel => exact ⟨2, .inr (.inr (.inl rfl)), rfl, rfl, hb.alloc hb.size _⟩
              case measure => simp [intOf]
            · have e0 := (grown_of hb).cell p3 (by simp)
              have e1 := (grown_of hb).cell q3 (by simp)
              have a1 := A3.out
              go_wp2
              go_roundw
              case rel => exact ⟨3, .inr (.inr (.inr rfl)), rfl, rfl, hb.alloc hb.size _⟩
              case measure => simp [intOf]
            · go_wp2_with fail
              refine (HDV _).out.mono ?_
              rintro e w4 ⟨rfl, rfl⟩
              go_wp2
              go_ret2
              exact HBY.out _ (below_trans hb1 hb hb1.size)

set_option maxHeartbeats 2000000 in
set_option maxRecDepth 100000 in
theorem specColour_any (v : Value) (xs : List Nat) (w : World) (h : FRow w v xs) (hl : xs.length ≤ 4000000) :
    Calls Tryz.prog 108 #[v] w fun e w' => BurstPost xs w e w' := by
  have HB := Lib.hid (specBurst_any v xs w h hl)
  have HO := fun W hr => Lib.hid (specLineOk_any v xs W hr hl)
  have HRW := Lib.hid h
  cases ho : lineOk xs with
  | false =>
    rw [ho] at HO
    rw [lpart_no ho] at HB
    have HDC := fun V W hr => Lib.hid (specDecode_any V [] false W hr (by simp))
    obtain ⟨a, c, rfl⟩ := h.lenv
    clear h
    go_enter Tryz.func108, Tryz.ntmps108
    go_wp2_with fail
    refine HB.out.mono ?_
    rintro e w1 ⟨v1, rfl, hn1, hb1⟩
    go_wp2_with fail
    refine (HDC _ _ hn1.row).out.mono ?_
    rintro e w2 ⟨v2, cs, _, _, _, rfl, _, hb2⟩
    have tb2 := below_trans hb1 hb2 hb1.size
    go_wp2_with fail
    refine (HO _ (HRW.out.below tb2)).out.mono ?_
    rintro e w3 ⟨rfl, rfl⟩
    go_wp2
    go_ret2
    exact BurstPost.no ho tb2
  | true =>
    rw [ho] at HO
    rw [lpart_yes ho] at HB
    have hlen := lineOk_len ho
    have HPL := Lib.hid (part_len xs 8 16 (by omega))
    have HDC := fun V W hr => Lib.hid (specDecode_any V (part xs 8 16) false W hr (by have := HPL.out; omega))
    have HLO := Lib.hid ho
    obtain ⟨a, c, rfl⟩ := h.lenv
    clear h ho hlen
    go_enter Tryz.func108, Tryz.ntmps108
    go_wp2_with fail
    refine HB.out.mono ?_
    rintro e w1 ⟨v1, rfl, hn1, hb1⟩
    go_wp2_with fail
    refine (HDC _ _ hn1.row).out.mono ?_
    rintro e w2 ⟨v2, cs, hd1, _, _, rfl, hn2, hb2⟩
    have tb2 := below_trans hb1 hb2 hb1.size
    have hd := hd1 (by rw [HPL.out])
    obtain ⟨c0, c1, c2, c3, rfl⟩ := four_of16 HPL.out hd
    have HDL := Lib.hid hd
    clear hd hd1 HDC HB hn1 hb1 hb2
    go_wp2_with fail
    refine (HO _ (HRW.out.below tb2)).out.mono ?_
    rintro e w3 ⟨rfl, rfl⟩
    cases hr : rok [c0, c1, c2, c3] with
    | false =>
      have HR := Lib.hid hr
      clear hn2 hr
      go_wp2
      go_ret2
      exact BurstPost.dim HLO.out HDL.out HR.out tb2
    | true =>
      rw [hr] at hn2
      have HR := Lib.hid hr
      obtain ⟨s1, s2⟩ := rok_four hr
      rcases hn2.row with ⟨_, h0⟩ | ⟨g', o', cap', rfl, hcap', hcell'⟩
      · cases h0
      · obtain ⟨p0, q0⟩ := hcell' 0 (by simp)
        obtain ⟨p1, q1⟩ := hcell' 1 (by simp)
        obtain ⟨p2, q2⟩ := hcell' 2 (by simp)
        obtain ⟨p3, q3⟩ := hcell' 3 (by simp)
        have hcap4 : 4 ≤ cap' := hcap'
        have A1 := Lib.hid (And.intro (fun W => arith_run s1.s1 W) (fun W => arith_run s2.s1 W))
        have A2 := Lib.hid (And.intro (fun W => arith_run s1.s2 W) (fun W => arith_run s2.s2 W))
        have A3 := Lib.hid (And.intro (fun W => arith_run s1.s3 W) (fun W => arith_run s2.s3 W))
        have A4 := Lib.hid (And.intro (fun W => arith_run s1.q W) (fun W => arith_run s2.q W))
        have HBY := Lib.hid (BurstPost.yes (w := w) (w' := w2) HLO.out HDL.out HR.out tb2)
        have z1 : psum c0.2.1 c1.2.1 c2.2.1 c3.2.1 0 = c0.2.1 := rfl
        have z2 : psum c0.2.2 c1.2.2 c2.2.2 c3.2.2 0 = c0.2.2 := rfl
        clear hr hn2 hcap' hcell' s1 s2 HDL HR HO HRW
        generalize psum c0.2.1 c1.2.1 c2.2.1 c3.2.1 = P at *
        generalize psum c0.2.2 c1.2.2 c2.2.2 c3.2.2 = Q at *
        generalize quarter4 c0.2.1 c1.2.1 c2.2.1 c3.2.1 = R at *
        generalize quarter4 c0.2.2 c1.2.2 c2.2.2 c3.2.2 = S at *
        obtain ⟨y0, u0, v0⟩ := c0
        obtain ⟨y1, u1, v1⟩ := c1
        obtain ⟨y2, u2, v2⟩ := c2
        obtain ⟨y3, u3, v3⟩ := c3
        simp only [List.getElem_cons_zero, List.getElem_cons_succ, Nat.zero_mul, Nat.add_zero, Nat.one_mul] at p0 q0 p1 q1 p2 q2 p3 q3 z1 z2
        go_wp2
        go_loopw [6, 7, 8] (fun s r i wr => ∃ k : Nat, (k = 0 ∨ k = 1 ∨ k = 2 ∨ k = 3) ∧ i = .int .i64 ((k : Int) + 1) ∧ s = .float .f32 (P k) ∧ r = .float .f32 (Q k) ∧ w2 = wr) (fun _ _ i _ => 4 - (intOf i).toNat)
        case atStart => exact ⟨0, .inl rfl, rfl, by rw [z1], by rw [z2], rfl⟩
        case round =>
          obtain ⟨k, hk, rfl, rfl, rfl, rfl⟩ := hrel
          rcases hk with rfl | rfl | rfl | rfl
          · obtain ⟨a1, a2⟩ := A1.out
            go_wp2
            go_roundw
            case rel => exact ⟨1, .inr (.inl rfl), rfl, rfl, rfl, by trivial⟩
            case measure => simp [intOf]
          · obtain ⟨a1, a2⟩ := A2.out
            go_wp2
            go_roundw
            case rel => exact ⟨2, .inr (.inr (.inl rfl)), rfl, rfl, rfl, by trivial⟩
            case measure => simp [intOf]
          · obtain ⟨a1, a2⟩ := A3.out
            go_wp2
            go_roundw
            case rel => exact ⟨3, .inr (.inr (.inr rfl)), rfl, rfl, rfl, by trivial⟩
            case measure => simp [intOf]
          · obtain ⟨a1, a2⟩ := A4.out
            go_wp2
            go_ret2
            exact HBY.out
end Go.Proofs.YtobpnoiienpipaaGreat
