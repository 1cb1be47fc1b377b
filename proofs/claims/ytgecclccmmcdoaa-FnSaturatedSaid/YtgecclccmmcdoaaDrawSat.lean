/-
  What is proved: the rows that the model draws for Saturate can be read.
  Conditions: the bytes can be read.
-/
import Derived.Test.YtgecclccmmcdoaaPicFar
import Derived.Test.YtgecclccmmcdoaaSpecPair
import Derived.Test.YtgecclccmmcdoaaPkDraw
import Derived.Test.YtgecclccmmcdoaaPkScale
namespace Go.Proofs.Ytgecclccmmcdoaa
set_option linter.unusedVariables false
open Go.RowKit
attribute [local go_sem] run_store_float run_store_complex unary_negf neg256

theorem rowsPic {w : World} {v : Value} {rs : List (List C3)} (h : PicV w v rs) : ∃ ss, RowsV w v rs ss := by
  rcases h with ⟨rfl, rfl⟩ | ⟨g, o, cap, rfl, h2, h3⟩
  · exact ⟨[], .inl ⟨⟨_, _, rfl⟩, rfl⟩, rfl, fun i h => absurd h (by simp)⟩
  · obtain ⟨ss, e1, e2⟩ := exists_list rs.length (fun i (s : SV) => w.cell? ⟨g, o + i, none⟩ = some s.v ∧ ∀ h : i < rs.length, RowV w s.v rs[i]) (fun i hi => by
      obtain ⟨rv, k1, k2⟩ := h3 i hi
      obtain ⟨a, c, rfl⟩ := k2.lenv
      exact ⟨(a, rs[i].length, c), k1, fun _ => k2⟩)
    refine ⟨ss, .inr ⟨g, o, cap, by rw [e1], by rw [e1]; exact h2, fun j u hu => ?_⟩, e1, fun i hi hi' => (e2 i hi).2 hi'⟩
    have hj : j < ss.length := by
      have := (List.getElem?_eq_some_iff.1 hu).1
      rw [LSc_ok.cells_len] at this
      simpa [LSc] using this
    have h4 := LSc_ok.cells_get ss j 0 hj (by decide)
    rw [show j * LSc.size + 0 = j from Nat.mul_one j, hu] at h4
    have h5 : u = ss[j].v := by injection h4
    rw [h5]
    exact (e2 j hj).1
theorem picCur {w w' : World} {b : Nat} {v : Value} {rs : List (List C3)} (h : PicV w v rs) (hn : ∀ g o n c, v = .slice (some ⟨g, o, none⟩) n c → g ≠ b) (hc : Cur w b) (hg : w.grownBy w' (some b)) : PicV w' v rs := by
  rcases h with h | ⟨g, o, cap, h1, h2, h3⟩
  · exact .inl h
  · refine .inr ⟨g, o, cap, h1, h2, fun i hi => ?_⟩
    obtain ⟨rv, k1, k2⟩ := h3 i hi
    exact ⟨rv, hg.cell k1 (by intro e; exact hn _ _ _ _ h1 (Option.some.inj e)), k2.curF hg hc⟩
theorem rowsCur {w w' : World} {base b : Nat} {v : Value} {rows : List (List C3)} {ss : List SV} (h : GridN w base v rows ss) (hb : b < base) (hg : w.grownBy w' (some b)) : RowsV w' v rows ss :=
  ⟨h.own.row.far hg (fun k hk e => by have := (h.own.lt k hk).1; have := Option.some.inj e; omega), h.len, fun i h1 h2 => ((h.row i h1 h2).far hg (fun k hk e => by have := ((h.row i h1 h2).lt k hk).1; have := Option.some.inj e; omega)).row⟩
def RowsDraw (b : Nat) (w : World) (e : Ending) (w' : World) : Prop := ∃ v rows, (rows.length ≤ 1000 ∧ ∀ r ∈ rows, r.length ≤ 1000000) ∧ e = .returned v ∧ (∀ w'', w'.grownBy w'' (some b) → ∃ ss, RowsV w'' v rows ss) ∧ Cur w' b ∧ w.grownBy w' (some b)
set_option maxHeartbeats 2000000 in
theorem l07Rows_any (b : Nat) (w : World) (hc : Cur w b) :
    Calls Try.prog 73 #[.pointer (some ⟨b, 0, none⟩)] w fun e w' => RowsDraw b w e w' := by
  have hlt := hc.lt
  go_enter Try.func73, Try.ntmps73
  go_wp2_with fail
  refine (l07Pair_any _ _ hc).mono ?_
  rintro e w1 ⟨v, v', xs, ys, hl, rfl, ⟨hv, hv'⟩, hc1, hg1⟩
  have HDP := Lib.hid (specPair_any v v' xs ys w1 hv.row hv'.row (by omega) (by omega))
  clear hv hv' hc
  go_wp2_with fail
  refine HDP.out.mono ?_
  rintro e w2 ⟨v2, rows, s2, ok, rfl, hpr, hgr, hb2⟩
  have hc2 := cur_bel hc1 hb2
  have hg2 := grown_bel hg1 hb2
  have HG := Lib.hid (And.intro hpr hgr)
  have hb1 : b < w1.heap.size := hc1.lt
  clear HDP hpr hgr hc1 hb2
  go_wp2_with fail
  refine (l01Once_any _ 6 _ hc2 (by decide) (by decide)).mono ?_
  rintro e w3 ⟨t, rfl, hc3, hg3⟩
  have hg03 := hg2.trans hg3
  cases t
  · have HK := Lib.hid (show ∀ w'', w3.grownBy w'' (some b) → ∃ ss, RowsV w'' v2 rows ss from fun w'' hw => ⟨s2, rowsCur HG.out.2 hb1 (hg3.trans hw)⟩)
    have hok := HG.out.1.ok
    clear HG hg3 hg2 hc2
    go_wp2
    go_ret
    exact ⟨_, rows, ⟨Nat.le_trans hok.1 (by decide), fun r hr => Nat.le_trans (hok.2.1 r hr).1 (by decide)⟩, rfl, HK.out, hc3, hg03⟩
  · clear HG hg3 hg2 hc2
    go_wp2_with fail
    refine (Far.l02Picture_any _ _ hc3).mono ?_
    rintro e w4 ⟨v4, rs, ht, rfl, ⟨hp, hne⟩, hc4, hg4⟩
    have HK := Lib.hid (show ∀ w'', w4.grownBy w'' (some b) → ∃ ss, RowsV w'' v4 rs ss from fun w'' hw => rowsPic (picCur hp hne hc4 hw))
    have HT := Lib.hid ht
    clear hp hne ht
    go_wp2
    go_ret
    exact ⟨_, rs, ⟨HT.out.2, fun r hr => HT.out.1 r hr⟩, rfl, HK.out, hc4, hg03.trans hg4⟩
def SatDr (w : World) (e : Ending) (w' : World) : Prop := ∃ v rows ss x, (rows.length ≤ 1000 ∧ ∀ r ∈ rows, r.length ≤ 1000000) ∧ e = .returned (.tuple #[v, .float .f32 x]) ∧ RowsV w' v rows ss ∧ Below w.heap.size w w'
set_option maxHeartbeats 2000000 in
theorem drawSat_any (a : Option Addr) (len cap : Nat) (w : World) (hs : Src w w.heap.size a len cap) :
    Calls Try.prog 30 #[.slice a len cap] w fun e w' => SatDr w e w' := by
  have HN := Lib.hid (l01New_any a len cap w hs)
  clear hs
  go_enter Try.func30, Try.ntmps30
  go_wp2_with fail
  refine HN.out.mono ?_
  rintro e w1 ⟨rfl, hc1, hg1⟩
  go_wp2_with fail
  refine (l07Rows_any _ _ hc1).mono ?_
  rintro e w2 ⟨v, rows, hl, rfl, hk, hc2, hg2⟩
  have HK := Lib.hid hk
  have HL := Lib.hid hl
  clear hk hl hc1 HN
  go_wp2_with fail
  refine (l01Real_any _ 3 _ hc2 (by decide) (by decide)).mono ?_
  rintro e w3 ⟨r, rfl, hc3, hg3⟩
  obtain ⟨ss, hr⟩ := HK.out w3 hg3
  have HR := Lib.hid hr
  obtain ⟨z, n, e1, B1⟩ := conv32 r w3
  have hb := drawn hg1 (hg2.trans hg3)
  clear hr HK
  go_wp2
  go_ret2
  exact ⟨v, rows, ss, z, HL.out, rfl, HR.out.below (belowDN (Below.refl _ _) n), belowDN hb n⟩
end Go.Proofs.Ytgecclccmmcdoaa
