/-
  What is proved: what is taken of two lines of a pair is determined.
  Conditions: none.
-/
import Derived.Test.YtgecclccmmcdoaaPairD
import Derived.Test.YtgecclccmmcdoaaPkScale
import Derived.Test.YtgecclccmmcdoaaPkKill
import Derived.Test.YtgecclccmmcdoaaImplPair
namespace Go.Proofs.Ytgecclccmmcdoaa
set_option linter.unusedVariables false
open Go.RowKit
attribute [local go_sem] run_store_float run_store_complex unary_negf neg256

theorem PairR.ne {xs ys : List Nat} {rows : List (List C3)} (h : PairR xs ys rows true) : ∀ r ∈ rows, r ≠ [] := by
  obtain ⟨ps, qs, o1, o2, a1, a2, ho, a3, _⟩ := h
  obtain ⟨n, _, rfl⟩ := a3 rfl
  have ho := ho.symm
  rw [Bool.and_eq_true, Bool.and_eq_true, decide_eq_true_iff] at ho
  obtain ⟨h1, h2, h3⟩ := ho
  have r1 := (rok_iff.1 (aloneRR_rok a1 h1)).1.1
  intro r hr e
  subst e
  rcases List.mem_cons.1 hr with e | hr
  · have e2 := congrArg List.length e
    unfold rowA at e2
    rw [List.length_zipWith] at e2
    simp at e2
    omega
  · have e := List.mem_singleton.1 hr
    have e2 := congrArg List.length e
    unfold rowB at e2
    rw [List.length_zipWith] at e2
    simp at e2
    omega
/-- What is taken of two lines. -/
def TakeRR (xs ys : List Nat) (least k : Nat) (out : List (List C3)) (ok : Bool) : Prop := ∃ rows o, PairR xs ys rows o ∧ ((o = false ∧ ok = false ∧ out = []) ∨ (o = true ∧ ∃ b, KillR xs ys least b ∧
  ((b = true ∧ ok = true ∧ out = greyL rows) ∨ (b = false ∧ ∃ u z f, HueR xs ys u z f ∧ ∃ sz o2, SizeRR rows u sz o2 ∧ ((o2 = false ∧ ok = false ∧ out = []) ∨ (o2 = true ∧ SatRR sz k out ok))))))
theorem TakeRR.same {xs ys : List Nat} {least k : Nat} {out out' : List (List C3)} {a b : Bool} (h : TakeRR xs ys least k out a) (h' : TakeRR xs ys least k out' b) : a = b ∧ out = out' := by
  obtain ⟨rows, o, h1, h⟩ := h
  obtain ⟨rows', o', k1, h'⟩ := h'
  obtain ⟨rfl, rfl⟩ := h1.same k1
  rcases h with ⟨rfl, rfl, rfl⟩ | ⟨rfl, b1, h2, h⟩
  · rcases h' with ⟨_, rfl, rfl⟩ | ⟨e, _⟩
    · exact ⟨rfl, rfl⟩
    · cases e
  · rcases h' with ⟨e, _⟩ | ⟨_, b2, k2, h'⟩
    · cases e
    · obtain rfl := h2.same k2
      rcases h with ⟨rfl, rfl, rfl⟩ | ⟨rfl, u, z, f, h3, sz, o2, h4, h⟩
      · rcases h' with ⟨_, rfl, rfl⟩ | ⟨e, _⟩
        · exact ⟨rfl, rfl⟩
        · cases e
      · rcases h' with ⟨e, _⟩ | ⟨_, u', z', f', k3, sz', o2', k4, h'⟩
        · cases e
        · obtain ⟨_, rfl, _⟩ := h3.same k3
          obtain ⟨rfl, rfl⟩ := h4.same k4
          rcases h with ⟨rfl, rfl, rfl⟩ | ⟨rfl, h5⟩
          · rcases h' with ⟨_, rfl, rfl⟩ | ⟨e, _⟩
            · exact ⟨rfl, rfl⟩
            · cases e
          · rcases h' with ⟨e, _⟩ | ⟨_, k5⟩
            · cases e
            · exact h5.sm (Sm.refl _) k5
abbrev Two2 (LL : List (List C3)) : Prop := LL.length ≤ 2 ∧ (∀ r ∈ LL, r.length ≤ 64 ∧ NumL r) ∧ csum LL ≤ 128 ∧ ∀ k, k < LL.length → 2 * csum (LL.take k) ≤ 128
theorem two2_of {LL : List (List C3)} (h : LL.length ≤ 2) (hr : ∀ r ∈ LL, r.length ≤ 64 ∧ NumL r) : Two2 LL := by
  refine ⟨h, hr, ?_, fun k hk => ?_⟩
  · match LL, h, hr with
    | [], _, _ => exact Nat.zero_le _
    | [r], _, hr =>
      have := (hr r (by simp)).1
      show r.length + 0 ≤ 128
      omega
    | [r, s], _, hr =>
      have := (hr r (by simp)).1
      have := (hr s (by simp)).1
      show r.length + (s.length + 0) ≤ 128
      omega
    | r :: s :: t :: l, h, _ => simp at h
  · match LL, h, hr, k, hk with
    | [], _, _, k, hk => exact absurd hk (Nat.not_lt_zero _)
    | [r], _, hr, 0, _ => show 2 * 0 ≤ 128; decide
    | [r, s], _, hr, 0, _ => show 2 * 0 ≤ 128; decide
    | [r, s], _, hr, 1, _ =>
      have := (hr r (by simp)).1
      show 2 * (r.length + 0) ≤ 128
      omega
    | [r], _, _, k + 1, hk => simp at hk
    | [r, s], _, _, k + 2, hk => have hk : k + 2 < 2 := hk; omega
    | r :: s :: t :: l, h, _, _, _ => simp at h
theorem numL_rok {l : List C3} (h : rok l = true) : l.length ≤ 64 ∧ NumL l :=
  ⟨(rok_iff.1 h).1.2, fun c hc => by
    obtain ⟨a, b, d⟩ := (rok_iff.1 h).2 c hc
    exact ⟨fin_isN a, fin_isN b, fin_isN d⟩⟩
theorem SatRR.two {rows out : List (List C3)} {k : Nat} {ok : Bool} (h : SatRR rows k out ok) (hl : rows.length ≤ 2) : Two2 out := by
  rcases h with ⟨_, h1, h2⟩ | ⟨_, rfl, _⟩
  · refine two2_of (by omega) fun r hr => ?_
    obtain ⟨i, hi, rfl⟩ := List.mem_iff_getElem.1 hr
    exact numL_rok (h2 i hi (by omega)).yes.1
  · exact two2_of (Nat.zero_le _) fun r hr => by cases hr
theorem SizeRR.two {rows out : List (List C3)} {k : Nat} {ok : Bool} (h : SizeRR rows k out ok) (hl : rows.length ≤ 2) : Two2 out := by
  rcases h with ⟨_, _, rfl⟩ | ⟨_, q, _, h⟩
  · exact two2_of (Nat.zero_le _) fun r hr => by cases hr
  · exact h.two hl
theorem isN_zero : isN 0 = false := by decide +kernel
theorem grey_two {rows : List (List C3)} (h : Two2 rows) : Two2 (greyL rows) := by
  refine two2_of (by unfold greyL; rw [List.length_map]; exact h.1) fun r hr => ?_
  unfold greyL at hr
  obtain ⟨s, hs, rfl⟩ := List.mem_map.1 hr
  obtain ⟨h1, h2⟩ := h.2.1 s hs
  refine ⟨by rw [List.length_map]; exact h1, fun c hc => ?_⟩
  obtain ⟨d, hd, rfl⟩ := List.mem_map.1 hc
  exact ⟨(h2 d hd).1, isN_zero, isN_zero⟩
theorem TakeRR.two {xs ys : List Nat} {least k : Nat} {out : List (List C3)} {ok : Bool} (h : TakeRR xs ys least k out ok) : Two2 out := by
  obtain ⟨rows, o, h1, h⟩ := h
  have hp := h1.ok
  rcases h with ⟨_, _, rfl⟩ | ⟨_, b, _, ⟨_, _, rfl⟩ | ⟨_, u, z, f, _, sz, o2, h4, ⟨_, _, rfl⟩ | ⟨_, h5⟩⟩⟩
  · exact two2_of (Nat.zero_le _) fun r hr => by cases hr
  · exact grey_two hp
  · exact two2_of (Nat.zero_le _) fun r hr => by cases hr
  · exact h5.two (h4.two hp.1).1
def TakeA (xs ys : List Nat) (least k : Nat) (w : World) (e : Ending) (w' : World) : Prop := ∃ v out ss ok, e = .returned (.tuple #[v, .bool ok]) ∧ TakeRR xs ys least k out ok ∧ GridN w' w.heap.size v out ss ∧ Below w.heap.size w w'
theorem take_fix (xs ys : List Nat) (least k : Nat) : ∃ (LL : List (List C3)) (okk : Bool), Two2 LL ∧ ∀ out ok, TakeRR xs ys least k out ok → ok = okk ∧ out = LL := by
  by_cases h : ∃ out ok, TakeRR xs ys least k out ok
  · obtain ⟨out, ok, h⟩ := h
    exact ⟨out, ok, h.two, fun r o h' => h'.same h⟩
  · exact ⟨[], false, two2_of (Nat.zero_le _) (fun r hr => by cases hr), fun r o h' => absurd ⟨r, o, h'⟩ h⟩
theorem take_got {xs ys : List Nat} {least q : Nat} {LL : List (List C3)} {okk : Bool} (hf : ∀ out ok, TakeRR xs ys least q out ok → ok = okk ∧ out = LL) {k : FuncId} {args : Array Value} {w : World} (h : Calls Try.prog k args w fun e w' => TakeA xs ys least q w e w') :
    Calls Try.prog k args w fun e w' => ∃ v ss, e = .returned (.tuple #[v, .bool okk]) ∧ GridN w' w.heap.size v LL ss ∧ Below w.heap.size w w' :=
  h.mono fun e w' ⟨v, out, ss, ok, h1, h2, h3, h4⟩ => by
    obtain ⟨rfl, rfl⟩ := hf out ok h2
    exact ⟨v, ss, h1, h3, h4⟩
end Go.Proofs.Ytgecclccmmcdoaa

/-
  What is proved: what the program takes of two lines of a pair.
  Conditions: the lines can be read.
-/
namespace Go.Proofs.Ytgecclccmmcdoaa
set_option linter.unusedVariables false
open Go.RowKit
attribute [local go_sem] run_store_float run_store_complex unary_negf neg256

set_option maxRecDepth 100000 in
set_option maxHeartbeats 4000000 in
theorem take_any (v v' : Value) (xs ys : List Nat) (l k : Nat) (w : World) (h : FRow w v xs) (h' : FRow w v' ys) (hl : xs.length ≤ 4000000) (hl' : ys.length ≤ 4000000) :
    Calls Try.prog 23 #[v, v', .float .f32 l, .float .f32 k] w fun e w' => TakeA xs ys l k w e w' := by
  have HP := Lib.hid (decodePair_any v v' xs ys w h h' hl hl')
  have HK := fun W hr hr' => Lib.hid (killed_any v v' xs ys l W hr hr' hl hl')
  have HH := fun W hr hr' => Lib.hid (hueGain_any v v' xs ys W hr hr' hl hl')
  have HR := Lib.hid h
  have HR' := Lib.hid h'
  obtain ⟨n, c, o, rfl⟩ := h.lenv2
  obtain ⟨n', c', o', rfl⟩ := h'.lenv2
  clear h h'
  go_enter Try.func23, Try.ntmps23
  go_wp2_with fail
  refine HP.out.mono ?_
  rintro e w1 ⟨vp, rows, sp, ok, rfl, hp, hg, hb1⟩
  obtain ⟨ap, cp, rfl, _⟩ := hg.rows.any
  have hok := hp.ok
  have hrl : rows.length ≤ 1000000 := Nat.le_trans hok.1 (by decide)
  have hrr : ∀ r ∈ rows, r.length ≤ 1000000 := fun r hr => Nat.le_trans (hok.2.1 r hr).1 (by decide)
  have HPR := Lib.hid hp
  have HGR := Lib.hid hg
  have HRR := Lib.hid hrr
  clear hok hrr
  cases ok with
  | false =>
    clear hp hg HP HK HH
    go_wp2
    go_ret2
    exact ⟨_, [], [], false, rfl, ⟨rows, false, HPR.out, .inl ⟨rfl, rfl, rfl⟩⟩, GridN.nil0 _ _, hb1⟩
  | true =>
    have HNE := Lib.hid hp.ne
    clear hp hg HP
    go_wp2_with fail
    refine (HK w1 (HR.out.below hb1) (HR'.out.below hb1)).out.mono ?_
    rintro e w2 ⟨b, rfl, hk, hb2⟩
    have HKL := Lib.hid hk
    have hb02 := below_trans hb1 hb2 hb1.size
    have HG2 := Lib.hid (HGR.out.below hb2)
    clear hk HK hb2
    cases b with
    | true =>
      have HGY := Lib.hid (greyed_rows (.slice ap sp.length cp) rows sp w2 HG2.out.rows hrl HRR.out HNE.out)
      clear HH
      go_wp2_with fail
      refine HGY.out.mono ?_
      rintro e w3 ⟨v3, so, rfl, hg3, hb3⟩
      have HG3 := Lib.hid (hg3.mono hb02.size)
      have hb03 := below_trans hb02 hb3 hb02.size
      clear hg3 HGY hb3
      go_wp2
      go_ret2
      exact ⟨_, _, so, true, rfl, ⟨rows, true, HPR.out, .inr ⟨rfl, true, HKL.out, .inl ⟨rfl, rfl, rfl⟩⟩⟩, HG3.out, hb03⟩
    | false =>
      go_wp2_with fail
      refine (HH w2 (HR.out.below hb02) (HR'.out.below hb02)).out.mono ?_
      rintro e w3 ⟨u, z, f, rfl, hu, hb3⟩
      have HU := Lib.hid hu
      have hb03 := below_trans hb02 hb3 hb02.size
      have HSZ := Lib.hid (toSize_any (.slice ap sp.length cp) rows sp u z w3 (HG2.out.below hb3).rows hrl HRR.out)
      clear hu HH hb3
      go_wp2_with fail
      refine HSZ.out.mono ?_
      rintro e w4 ⟨v4, sz, ssz, o2, rfl, hsz, hg4, hb4⟩
      obtain ⟨a4, c4, rfl, _⟩ := hg4.rows.any
      have htw := hsz.two (Nat.le_trans HPR.out.ok.1 (Nat.le_refl _))
      have HSR := Lib.hid hsz
      have hb04 := below_trans hb03 hb4 hb03.size
      cases o2 with
      | false =>
        clear hsz hg4 hb4 HSZ htw
        go_wp2
        go_ret2
        exact ⟨_, [], [], false, rfl, ⟨rows, true, HPR.out, .inr ⟨rfl, false, HKL.out, .inr ⟨rfl, u, z, f, HU.out, sz, false, HSR.out, .inl ⟨rfl, rfl, rfl⟩⟩⟩⟩, GridN.nil0 _ _, hb04⟩
      | true =>
        have HST := Lib.hid (saturate_any (.slice a4 ssz.length c4) sz ssz k w4 hg4.rows (Nat.le_trans htw.1 (by decide)) (fun r hr => Nat.le_trans (htw.2.1 r hr).1 (by decide)))
        clear hsz hg4 hb4 HSZ htw
        go_wp2_with fail
        refine HST.out.mono ?_
        rintro e w5 ⟨v5, out, so, ok, rfl, h5, hg5, hb5⟩
        have H5 := Lib.hid h5
        have HG5 := Lib.hid (hg5.mono hb04.size)
        have hb05 := below_trans hb04 hb5 hb04.size
        clear h5 hg5 hb5 HST
        go_wp2
        go_ret2
        exact ⟨_, out, so, ok, rfl, ⟨rows, true, HPR.out, .inr ⟨rfl, false, HKL.out, .inr ⟨rfl, u, z, f, HU.out, sz, true, HSR.out, .inr ⟨rfl, H5.out⟩⟩⟩⟩, HG5.out, hb05⟩
end Go.Proofs.Ytgecclccmmcdoaa

/-
  What is proved: what a killed pair is: its rows, when it is killed.
  Conditions: none.
-/
namespace Go.Proofs.Ytgecclccmmcdoaa
set_option linter.unusedVariables false
open Go.RowKit

theorem kzero_order {u : Nat} (h : feq0 u = true) : ltb u 0 = false ∧ ltb u 1065353216 = true := by
  have h0 : FloatKind.f32.format.order u 0 = some .eq := by simpa [feq0] using h
  have h1 : Ieee.single.order u 0 = some .eq := h0
  obtain ⟨s, i, h2⟩ := Flt.eq_zero (show Ieee.single.read 0 = .number false 0 (-149) by decide +kernel) h1
  have hn : Flt.Num Ieee.single u s 0 := by have := Flt.read_num h2; rwa [Nat.zero_mul] at this
  have h3 := Flt.order_num hn (Flt.read_num (show Ieee.single.read 1065353216 = .number false 8388608 (-23) by decide +kernel))
  refine ⟨by unfold ltb; rw [h1]; rfl, ?_⟩
  unfold ltb
  rw [h3]
  cases s <;> decide +kernel
theorem KillR.zero {xs ys : List Nat} {u z : Nat} {ok b : Bool} (hh : HueR xs ys u z ok) (h0 : feq0 u = true) (h : KillR xs ys 1065353216 b) : b = true := by
  obtain ⟨u', z', ok', n, h1, _, rfl⟩ := h
  obtain ⟨_, rfl, _⟩ := hh.same h1
  rw [amt_no (kzero_order h0).1, (kzero_order h0).2, Bool.or_true]
theorem KillR.swing {xs ys : List Nat} {k : Nat} {b : Bool} (hs : SwingR xs ys 0) (h : KillR xs ys k b) : b = true := by
  obtain ⟨u', z', ok', n, _, h2, rfl⟩ := h
  rw [← hs.same h2]
  rfl
/-- A pair that was decoded has two rows. -/
theorem PairR.both {xs ys : List Nat} {rows : List (List C3)} (h : PairR xs ys rows true) : ∃ r0 r1, rows = [r0, r1] ∧ (r0 ≠ [] ∧ r1 ≠ []) ∧ ∀ r ∈ [r0, r1], r.length ≤ 64 ∧ ∀ c ∈ r, Flt.fin c.1 = true := by
  have hne := h.ne
  have hlen := h.ok.2.1
  obtain ⟨ps, qs, o1, o2, a1, a2, ho, a3, _⟩ := h
  obtain ⟨n, _, rfl⟩ := a3 rfl
  have ho := ho.symm
  rw [Bool.and_eq_true, Bool.and_eq_true, decide_eq_true_iff] at ho
  obtain ⟨h1, h2, h3⟩ := ho
  have r1 := (rok_iff.1 (aloneRR_rok a1 h1)).2
  have r2 := (rok_iff.1 (aloneRR_rok a2 h2)).2
  refine ⟨_, _, rfl, ⟨hne _ (by simp), hne _ (by simp)⟩, fun r hr => ⟨(hlen r hr).1, fun c hc => ?_⟩⟩
  have hmem : ∃ i, ∃ h : i < r.length, r[i] = c := List.getElem_of_mem hc
  obtain ⟨i, hi, rfl⟩ := hmem
  rcases List.mem_cons.1 hr with rfl | hr
  · unfold rowA at hi ⊢
    rw [List.getElem_zipWith]
    exact (r1 _ (List.getElem_mem _)).1
  · obtain rfl := List.mem_singleton.1 hr
    unfold rowB at hi ⊢
    rw [List.getElem_zipWith]
    exact (r2 _ (List.getElem_mem _)).1
/-- Two rows in memory, each told by its place. -/
structure TwoG (w : World) (gg cap : Nat) (F : Nat → List C3) : Prop where
  cap : 2 ≤ cap
  ok : ∀ k, k < 2 → ∃ gk ck, w.cell? ⟨gg, k, none⟩ = some (.slice (some ⟨gk, 0, none⟩) (F k).length ck) ∧ RowV w (.slice (some ⟨gk, 0, none⟩) (F k).length ck) (F k) ∧ (F k).length ≤ ck
theorem TwoG.below {w w' : World} {gg cap : Nat} {F : Nat → List C3} (h : TwoG w gg cap F) (hb : Below w.heap.size w w') : TwoG w' gg cap F :=
  ⟨h.cap, fun k hk => by obtain ⟨a, b, c, d, e⟩ := h.ok k hk; exact ⟨a, b, (grown_of hb).cell c (by simp), d.below hb, e⟩⟩
def two (r0 r1 : List C3) (k : Nat) : List C3 := if k = 0 then r0 else r1
theorem gridPair {w : World} {base : Nat} {v : Value} {r0 r1 : List C3} {ss : List SV} (h : GridN w base v [r0, r1] ss) (h0 : r0 ≠ []) (h1 : r1 ≠ []) : ∃ gg cap, v = .slice (some ⟨gg, 0, none⟩) 2 cap ∧ TwoG w gg cap (two r0 r1) := by
  have hl : ss.length = 2 := h.len
  rcases h.own.shape with ⟨_, e0⟩ | ⟨gg, cap, ev, _, _, hc, _⟩
  · rw [e0] at hl; simp at hl
  · rw [hl] at ev hc
    refine ⟨gg, cap, ev, hc, fun k hk => ?_⟩
    obtain ⟨a, c, e, hk'⟩ := rowsC_any h.own.row
    obtain ⟨g2, o2, e2, _, k0⟩ := hk' k (by omega)
    rw [ev] at e
    injection e with e4
    rw [← e4] at e2
    cases e2
    rw [Nat.zero_add] at k0
    have n0 := h.row k (by omega) (by simpa using hk)
    have hg : [r0, r1][k]'(by simpa using hk) = two r0 r1 k := by rcases (by omega : k = 0 ∨ k = 1) with rfl | rfl <;> rfl
    rw [hg] at n0
    have hne : two r0 r1 k ≠ [] := by rcases (by omega : k = 0 ∨ k = 1) with rfl | rfl; exact h0; exact h1
    obtain ⟨x0, y0, s0, t0, _⟩ := n0.some hne
    rw [s0] at k0 n0
    exact ⟨x0, y0, k0, n0.row, t0⟩
theorem two_grey (r0 r1 : List C3) (k : Nat) : two (r0.map gc) (r1.map gc) k = (two r0 r1 k).map gc := by unfold two; split <;> rfl
/-- The grey rows. -/
theorem TwoG.grey {w : World} {gg cap : Nat} {r0 r1 : List C3} (h : TwoG w gg cap (two (r0.map gc) (r1.map gc))) : ∀ k, k < 2 → ∃ gk ck, w.cell? ⟨gg, k, none⟩ = some (.slice (some ⟨gk, 0, none⟩) (two r0 r1 k).length ck) ∧ RowV w (.slice (some ⟨gk, 0, none⟩) (two r0 r1 k).length ck) ((two r0 r1 k).map gc) ∧ (two r0 r1 k).length ≤ ck := by
  intro k hk
  obtain ⟨a, b, c, d, e⟩ := h.ok k hk
  rw [two_grey, List.length_map] at c d e
  exact ⟨a, b, c, d, e⟩
theorem rowAt {w : World} {g n c i : Nat} {cs : List C3} (h : RowV w (.slice (some ⟨g, 0, none⟩) n c) cs) (hi : i < cs.length) : w.cell? ⟨g, i * 2, none⟩ = some (.float .f32 cs[i].1) ∧ w.cell? ⟨g, i * 2 + 1, none⟩ = some (.complex .f32 cs[i].2.1 cs[i].2.2) := by
  rcases h with ⟨e, _⟩ | ⟨g', o', c', e, h1, h2⟩
  · cases e
  · cases e
    have := h2 i hi
    rw [Nat.zero_add] at this
    exact this
/-- What is taken of a pair that is killed, and of one that can't be decoded. -/
theorem TakeRR.dead {xs ys : List Nat} {least k : Nat} {out rows : List (List C3)} {ok : Bool} (h : TakeRR xs ys least k out ok) (hp : PairR xs ys rows true) (hk : KillR xs ys least true) : ok = true ∧ out = greyL rows := by
  obtain ⟨rows', o, h1, h⟩ := h
  obtain ⟨e, rfl⟩ := hp.same h1
  rcases h with ⟨rfl, _⟩ | ⟨_, b, h2, h⟩
  · cases e
  · obtain rfl := hk.same h2
    rcases h with ⟨_, e1, e2⟩ | ⟨e1, _⟩
    · exact ⟨e1, e2⟩
    · cases e1
theorem TakeRR.off {xs ys : List Nat} {least k : Nat} {out rows : List (List C3)} {ok : Bool} (h : TakeRR xs ys least k out ok) (hp : PairR xs ys rows false) : ok = false := by
  obtain ⟨rows', o, h1, h⟩ := h
  obtain ⟨e, rfl⟩ := hp.same h1
  rcases h with ⟨_, e1, _⟩ | ⟨e1, _⟩
  · exact e1
  · rw [e1] at e; cases e
theorem grey_okc {R : List C3} (h : ∀ c ∈ R, Flt.fin c.1 = true) : ((R.map gc).all fun c => okc c.1 c.2.1 c.2.2) = true := by
  rw [List.all_eq_true]
  intro c hc
  obtain ⟨d, hd, rfl⟩ := List.mem_map.1 hc
  have h0 : Flt.fin 0 = true := by decide +kernel
  unfold okc gc
  simp only [h d hd, h0, Bool.and_true]
end Go.Proofs.Ytgecclccmmcdoaa
