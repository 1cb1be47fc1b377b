/-
  What is proved: what the program takes of two lines of a pair.
  Conditions: the lines can be read.
-/
import Derived.Test.YtgecclccmmcdoaaTakeD
import Derived.Test.YtgecclccmmcdoaaImplPair
import Derived.Test.YtgecclccmmcdoaaPkKill
namespace Go.Proofs.Ytgecclccmmcdoaa
set_option linter.unusedVariables false
open Go.RowKit
attribute [local go_sem] run_store_float run_store_complex unary_negf neg256

set_option maxRecDepth 100000 in
set_option maxHeartbeats 4000000 in
theorem take_any (v v' : Value) (xs ys : List Nat) (l k : Nat) (w : World) (h : FRow w v xs) (h' : FRow w v' ys) (hl : xs.length ≤ 4000000) (hl' : ys.length ≤ 4000000) :
    Calls Try.prog 23 #[v, v', .float .f32 l, .float .f32 k] w fun e w' => TakeA xs ys l k w e w' := by
  have HP := Lib.hid (decodePair_any v v' xs ys w h h' hl hl')
  have HK := fun W hr hr' => Lib.hid (killed_any v v' xs ys l W hr hr' hl hl')
  have HH := fun W hr hr' => Lib.hid (hueGain_any v v' xs ys W hr hr' hl hl')
  have HR := Lib.hid h
  have HR' := Lib.hid h'
  obtain ⟨n, c, o, rfl⟩ := h.lenv2
  obtain ⟨n', c', o', rfl⟩ := h'.lenv2
  clear h h'
  go_enter Try.func23, Try.ntmps23
  go_wp2_with fail
  refine HP.out.mono ?_
  rintro e w1 ⟨vp, rows, sp, ok, rfl, hp, hg, hb1⟩
  obtain ⟨ap, cp, rfl, _⟩ := hg.rows.any
  have hok := hp.ok
  have hrl : rows.length ≤ 1000000 := Nat.le_trans hok.1 (by decide)
  have hrr : ∀ r ∈ rows, r.length ≤ 1000000 := fun r hr => Nat.le_trans (hok.2.1 r hr).1 (by decide)
  have HPR := Lib.hid hp
  have HGR := Lib.hid hg
  have HRR := Lib.hid hrr
  clear hok hrr
  cases ok with
  | false =>
    clear hp hg HP HK HH
    go_wp2
    go_ret2
    exact ⟨_, [], [], false, rfl, ⟨rows, false, HPR.out, .inl ⟨rfl, rfl, rfl⟩⟩, GridN.nil0 _ _, hb1⟩
  | true =>
    have HNE := Lib.hid hp.ne
    clear hp hg HP
    go_wp2_with fail
    refine (HK w1 (HR.out.below hb1) (HR'.out.below hb1)).out.mono ?_
    rintro e w2 ⟨b, rfl, hk, hb2⟩
    have HKL := Lib.hid hk
    have hb02 := below_trans hb1 hb2 hb1.size
    have HG2 := Lib.hid (HGR.out.below hb2)
    clear hk HK hb2
    cases b with
    | true =>
      have HGY := Lib.hid (greyed_rows (.slice ap sp.length cp) rows sp w2 HG2.out.rows hrl HRR.out HNE.out)
      clear HH
      go_wp2_with fail
      refine HGY.out.mono ?_
      rintro e w3 ⟨v3, so, rfl, hg3, hb3⟩
      have HG3 := Lib.hid (hg3.mono hb02.size)
      have hb03 := below_trans hb02 hb3 hb02.size
      clear hg3 HGY hb3
      go_wp2
      go_ret2
      exact ⟨_, _, so, true, rfl, ⟨rows, true, HPR.out, .inr ⟨rfl, true, HKL.out, .inl ⟨rfl, rfl, rfl⟩⟩⟩, HG3.out, hb03⟩
    | false =>
      go_wp2_with fail
      refine (HH w2 (HR.out.below hb02) (HR'.out.below hb02)).out.mono ?_
      rintro e w3 ⟨u, z, f, rfl, hu, hb3⟩
      have HU := Lib.hid hu
      have hb03 := below_trans hb02 hb3 hb02.size
      have HSZ := Lib.hid (toSize_any (.slice ap sp.length cp) rows sp u z w3 (HG2.out.below hb3).rows hrl HRR.out)
      clear hu HH hb3
      go_wp2_with fail
      refine HSZ.out.mono ?_
      rintro e w4 ⟨v4, sz, ssz, o2, rfl, hsz, hg4, hb4⟩
      obtain ⟨a4, c4, rfl, _⟩ := hg4.rows.any
      have htw := hsz.two (Nat.le_trans HPR.out.ok.1 (Nat.le_refl _))
      have HSR := Lib.hid hsz
      have hb04 := below_trans hb03 hb4 hb03.size
      cases o2 with
      | false =>
        clear hsz hg4 hb4 HSZ htw
        go_wp2
        go_ret2
        exact ⟨_, [], [], false, rfl, ⟨rows, true, HPR.out, .inr ⟨rfl, false, HKL.out, .inr ⟨rfl, u, z, f, HU.out, sz, false, HSR.out, .inl ⟨rfl, rfl, rfl⟩⟩⟩⟩, GridN.nil0 _ _, hb04⟩
      | true =>
        have HST := Lib.hid (saturate_any (.slice a4 ssz.length c4) sz ssz k w4 hg4.rows (Nat.le_trans htw.1 (by decide)) (fun r hr => Nat.le_trans (htw.2.1 r hr).1 (by decide)))
        clear hsz hg4 hb4 HSZ htw
        go_wp2_with fail
        refine HST.out.mono ?_
        rintro e w5 ⟨v5, out, so, ok, rfl, h5, hg5, hb5⟩
        have H5 := Lib.hid h5
        have HG5 := Lib.hid (hg5.mono hb04.size)
        have hb05 := below_trans hb04 hb5 hb04.size
        clear h5 hg5 hb5 HST
        go_wp2
        go_ret2
        exact ⟨_, out, so, ok, rfl, ⟨rows, true, HPR.out, .inr ⟨rfl, false, HKL.out, .inr ⟨rfl, u, z, f, HU.out, sz, true, HSR.out, .inr ⟨rfl, H5.out⟩⟩⟩⟩, HG5.out, hb05⟩
end Go.Proofs.Ytgecclccmmcdoaa
