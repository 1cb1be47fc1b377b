/-
  What is proved: the walk of the law FnHueLost.
  Conditions: none beyond the arguments' own.
-/
import Derived.Test.YtgecclccmmcdoaaLostR
import Derived.Test.YtgecclccmmcdoaaImplPair
import Derived.Test.YtgecclccmmcdoaaPairedO
import Derived.Test.YtgecclccmmcdoaaPkTx
import Derived.Test.YtgecclccmmcdoaaPlainOk
import Derived.Deep.RegionHeld3
namespace Go.Proofs.Ytgecclccmmcdoaa
set_option linter.unusedVariables false
open Go.RowKit
attribute [local go_sem] run_store_float run_store_complex unary_negf neg256

/-- A picture of paired rows. -/
structure PdP (w' : World) (base W g cap : Nat) (rs : List (List C3)) (ss : List SV) : Prop where
  wide1 : 1 ≤ W ∧ W ≤ 4
  high : rs.length = 4 ∨ rs.length = 8
  grid : GridC w' base (.slice (some ⟨g, 0, none⟩) rs.length cap) rs ss
  wide : ∀ r ∈ rs, r.length = W
  plain : ∀ r ∈ rs, PlainR r
  pair : PairL rs
def DrawPd (w : World) (e : Ending) (w' : World) : Prop := ∃ W g cap base rs ss, w.heap.size ≤ base ∧ PdP w' base W g cap rs ss ∧ e = .returned (.slice (some ⟨g, 0, none⟩) rs.length cap) ∧ Below w.heap.size w w'
set_option maxHeartbeats 1000000 in
theorem drawPaired_any (a : Option Addr) (len cap : Nat) (w : World) (hs : Src w w.heap.size a len cap) :
    Calls Try.prog 13 #[.slice a len cap] w fun e w' => DrawPd w e w' := by
  have HN := Lib.hid (l01New_any a len cap w hs)
  clear hs
  go_enter Try.func13, Try.ntmps13
  go_wp2_with fail
  refine HN.out.mono ?_
  rintro e w1 ⟨rfl, hc1, hg1⟩
  go_wp2_with fail
  refine (l02PairedO_any _ _ hc1).mono ?_
  rintro e w2 ⟨W, g, cap, rs, ss, h1, h2, rfl, hp⟩
  have HP := Lib.hid hp
  have hsz := hg1.size
  have hb := drawn hg1 hp.grown
  clear hp
  go_wp2
  go_ret
  exact ⟨W, g, cap, w1.heap.size, rs, ss, hsz, ⟨h1, h2, HP.out.grid, HP.out.wide, HP.out.plain, HP.out.pair⟩, rfl, hb⟩
theorem PdP.at {w' : World} {base W g cap : Nat} {rs : List (List C3)} {ss : List SV} (h : PdP w' base W g cap rs ss) {r : Nat} (hr : r < rs.length) : ∃ g0 c0, w'.cell? ⟨g, r, none⟩ = some (.slice (some ⟨g0, 0, none⟩) rs[r].length c0) ∧ RowV w' (.slice (some ⟨g0, 0, none⟩) rs[r].length c0) rs[r] := by
  have hw := h.wide rs[r] (List.getElem_mem hr)
  have hi : 0 < rs[r].length := by have := h.wide1; omega
  obtain ⟨gr, cr, h1, _⟩ := h.grid.cell hr hi
  have hs : r < ss.length := by rw [h.grid.len]; exact hr
  obtain ⟨a, c, e, hk⟩ := rowsC_any h.grid.own.row
  obtain ⟨g1, o1, e1, _, h2⟩ := hk r hs
  subst e1
  have e2 : g = g1 ∧ 0 = o1 := by injection e with x1; injection x1 with x1; injection x1 with x1 x2; exact ⟨x1, x2⟩
  obtain ⟨rfl, rfl⟩ := e2
  rw [Nat.zero_add] at h2
  have hv := (h.grid.row r hs hr).row
  rw [h1] at h2
  have e3 := Option.some.inj h2
  rw [← e3] at hv
  exact ⟨gr, cr, h1, hv⟩
theorem PdP.two {w' : World} {base W g cap : Nat} {rs : List (List C3)} {ss : List SV} (h : PdP w' base W g cap rs ss) : rs.length ≤ cap ∧ ∃ cs ds r0 c0 r2 c2, (1 ≤ cs.length ∧ cs.length ≤ 4) ∧ ds.length = cs.length ∧ PlainR cs ∧ PlainR ds ∧ (∀ i (h : i < cs.length) (h' : i < ds.length), cs[i].2 = ds[i].2) ∧
    w'.cell? ⟨g, 0, none⟩ = some (.slice (some ⟨r0, 0, none⟩) cs.length c0) ∧ w'.cell? ⟨g, 2, none⟩ = some (.slice (some ⟨r2, 0, none⟩) cs.length c2) ∧ RowV w' (.slice (some ⟨r0, 0, none⟩) cs.length c0) cs ∧ RowV w' (.slice (some ⟨r2, 0, none⟩) cs.length c2) ds := by
  have hh := h.high
  have h0 : 0 < rs.length := by omega
  have h2 : 2 < rs.length := by omega
  refine ⟨?_, rs[0], rs[2], ?_⟩
  · obtain ⟨a, c, e, hk⟩ := rowsC_any h.grid.own.row
    obtain ⟨_, _, _, h3, _⟩ := hk 0 (by have := h.grid.len; omega)
    have := h.grid.len
    injection e
    omega
  · obtain ⟨g0, c0, k1, k2⟩ := h.at h0
    obtain ⟨g2, c2, k3, k4⟩ := h.at h2
    have w0 := h.wide rs[0] (List.getElem_mem h0)
    have w2 := h.wide rs[2] (List.getElem_mem h2)
    have e : rs[2].length = rs[0].length := by omega
    rw [e] at k3 k4
    have hpr := h.pair 2 (by decide) h2
    rw [getD_lt h2, getD_lt (show 2 - 2 < rs.length by omega)] at hpr
    have := h.wide1
    refine ⟨g0, c0, g2, c2, by omega, e, h.plain _ (List.getElem_mem h0), h.plain _ (List.getElem_mem h2), fun i hi hi' => ?_, k1, k3, k2, k4⟩
    unfold cols at hpr
    have h5 : (rs[2].map (·.2))[i]'(by simpa using hi') = (rs[0].map (·.2))[i]'(by simpa using hi) := by
      simp only [hpr]
    rw [List.getElem_map, List.getElem_map] at h5
    exact h5.symm
theorem RowV.at0 {w : World} {g n c i : Nat} {cs : List C3} (h : RowV w (.slice (some ⟨g, 0, none⟩) n c) cs) (hi : i < cs.length) : (w.cell? ⟨g, i * 2, none⟩ = some (.float .f32 cs[i].1) ∧ w.cell? ⟨g, i * 2 + 1, none⟩ = some (.complex .f32 cs[i].2.1 cs[i].2.2)) ∧ n = cs.length ∧ n ≤ c := by
  rcases h with ⟨e, _⟩ | ⟨g', o', c', e, h1, h2⟩
  · cases e
  · cases e
    have := h2 i hi
    rw [Nat.zero_add] at this
    exact ⟨this, rfl, h1⟩
theorem rowsPair {w : World} {base : Nat} {v : Value} {r0 r1 : List C3} {ss : List SV} (h : GridN w base v [r0, r1] ss) (h0 : r0 ≠ []) (h1 : r1 ≠ []) : ∃ gg cap g0 c0 g1 c1, v = .slice (some ⟨gg, 0, none⟩) 2 cap ∧ 2 ≤ cap ∧ w.cell? ⟨gg, 0, none⟩ = some (.slice (some ⟨g0, 0, none⟩) r0.length c0) ∧ w.cell? ⟨gg, 1, none⟩ = some (.slice (some ⟨g1, 0, none⟩) r1.length c1) ∧
    RNew w base (.slice (some ⟨g0, 0, none⟩) r0.length c0) r0 ∧ RNew w base (.slice (some ⟨g1, 0, none⟩) r1.length c1) r1 ∧ r0.length ≤ c0 ∧ r1.length ≤ c1 := by
  have hl : ss.length = 2 := h.len
  obtain ⟨a, c, e, hk⟩ := rowsC_any h.own.row
  rcases h.own.shape with ⟨_, e0⟩ | ⟨gg, cap, ev, _, _, hc, _⟩
  · rw [e0] at hl; simp at hl
  · rw [hl] at ev hc
    obtain ⟨g2, o2, e2, _, k0⟩ := hk 0 (by omega)
    obtain ⟨g3, o3, e3, _, k1⟩ := hk 1 (by omega)
    rw [ev] at e
    injection e with e4
    rw [← e4] at e2 e3
    cases e2
    cases e3
    have n0 := h.row 0 (by omega) (by simp)
    have n1 := h.row 1 (by omega) (by simp)
    obtain ⟨x0, y0, s0, t0, _⟩ := n0.some h0
    obtain ⟨x1, y1, s1, t1, _⟩ := n1.some h1
    rw [s0] at k0 n0
    rw [s1] at k1 n1
    exact ⟨gg, cap, x0, y0, x1, y1, ev, hc, k0, k1, n0, n1, t0, t1⟩
/-- Are two complex numbers equal? -/
theorem eql_colour (u v u' v' : Nat) (W : World) : (binOp .eql 27 (.complex .f32 u v) (.complex .f32 u' v')).run Try.prog W = .ok (.bool (FloatKind.f32.format.order u u' == some .eq && FloatKind.f32.format.order v v' == some .eq)) W := by
  have u2 := Try.underlying27
  simp [binOp, Op.complexOp, Op.Complex.cmp, Op.floatCmp, asBool]
attribute [local go_sem high] eql_colour neq_colour
/-- The channel of the law: one that turns hues. -/
structure LostC (h : Chn) (α ω ξ η : Int) : Prop where
  plain : PlainH h α ω ξ η
  some : ¬(ξ = 0 ∧ η = 0)
theorem lost_zero {h : Chn} (hp : PlainC h) (hX : Ieee.single.order h.X 0 = some .eq) (hY : Ieee.single.order h.Y 0 = some .eq) : ∃ α ω ξ η, LostC ⟨h.A, h.O, 0, 1065353216⟩ α ω ξ η := by
  obtain ⟨α, ω, ξ, η, ⟨⟨hA, hO, _, _⟩, k1, k2, _, _⟩, _⟩ := hp
  refine ⟨α, ω, 0, 4, ⟨⟨hA, hO, Flt.Q.zero 147, ?_⟩, k1, k2, by decide, by decide⟩, by decide⟩
  exact Flt.q_word (show (1065353216 : Nat) < 2 ^ 32 by decide) (show Ieee.single.read 1065353216 = .number false 8388608 (-23) by decide +kernel) (by decide +kernel)
theorem lost_some {h : Chn} (hp : PlainC h) (hn : ¬(Ieee.single.order h.X 0 = some .eq ∧ Ieee.single.order h.Y 0 = some .eq)) : ∃ α ω ξ η, LostC h α ω ξ η := by
  obtain ⟨α, ω, ξ, η, hh, _⟩ := hp
  refine ⟨α, ω, ξ, η, hh, fun e => hn ⟨?_, ?_⟩⟩
  · have := hh.1.2.2.1
    rw [e.1] at this
    exact Flt.Q.eq this (Flt.Q.zero 147)
  · have := hh.1.2.2.2
    rw [e.2] at this
    exact Flt.Q.eq this (Flt.Q.zero 147)
/-- What holds all through the rounds. -/
structure LostW (w5 : World) (B L g W : Nat) (h : Chn) (cs ds : List C3) (r0 c0 r2 c2 : Nat) : Prop where
  chan : w5.heap[B]? = some (.cells #[.float .f32 h.A, .float .f32 h.O, .complex .f32 h.X h.Y] 29 (0, 0))
  lits : w5.heap[L]? = some (.cells #[.bool false, .bool true] 4 (0, 0))
  row0 : w5.cell? ⟨g, 0, none⟩ = some (.slice (some ⟨r0, 0, none⟩) cs.length c0)
  row2 : w5.cell? ⟨g, 2, none⟩ = some (.slice (some ⟨r2, 0, none⟩) cs.length c2)
  v0 : RowV w5 (.slice (some ⟨r0, 0, none⟩) cs.length c0) cs
  v2 : RowV w5 (.slice (some ⟨r2, 0, none⟩) cs.length c2) ds
theorem LostW.cells {w5 V : World} {B L g W : Nat} {h : Chn} {cs ds : List C3} {r0 c0 r2 c2 : Nat} (hw : LostW w5 B L g W h cs ds r0 c0 r2 c2) (hb : Below w5.heap.size w5 V) :
    V.cell? ⟨B, 0, none⟩ = some (.float .f32 h.A) ∧ V.cell? ⟨B, 1, none⟩ = some (.float .f32 h.O) ∧ V.cell? ⟨B, 2, none⟩ = some (.complex .f32 h.X h.Y) ∧ V.cell? ⟨g, 0, none⟩ = some (.slice (some ⟨r0, 0, none⟩) cs.length c0) ∧ V.cell? ⟨g, 2, none⟩ = some (.slice (some ⟨r2, 0, none⟩) cs.length c2) := by
  have hB : V.heap[B]? = _ := (hb.block B (Array.getElem?_eq_some_iff.1 hw.chan).1).trans hw.chan
  exact ⟨by simp [World.cell?, hB], by simp [World.cell?, hB], by simp [World.cell?, hB], (grown_of hb).cell hw.row0 (by simp), (grown_of hb).cell hw.row2 (by simp)⟩
theorem LostW.lit {w5 V : World} {B L g W : Nat} {h : Chn} {cs ds : List C3} {r0 c0 r2 c2 : Nat} (hw : LostW w5 B L g W h cs ds r0 c0 r2 c2) (hb : Below w5.heap.size w5 V) {k : Nat} (hk : k < 2) : ∃ o : Bool, V.cell? ⟨L, k, none⟩ = some (.bool o) := by
  have hL : V.heap[L]? = _ := (hb.block L (Array.getElem?_eq_some_iff.1 hw.lits).1).trans hw.lits
  rcases (by omega : k = 0 ∨ k = 1) with rfl | rfl
  · exact ⟨false, by simp [World.cell?, hL]⟩
  · exact ⟨true, by simp [World.cell?, hL]⟩
theorem LostW.new {w1 w2 V : World} {g W r0 c0 r2 c2 : Nat} {h : Chn} {cs ds : List C3} (hb2 : Below w1.heap.size w1 w2) (hV : Below w2.heap.size w2 V) (hs : V.heap.size = w2.heap.size + 1)
    (hc : V.heap[w2.heap.size]? = some (.cells #[.float .f32 h.A, .float .f32 h.O, .complex .f32 h.X h.Y] 29 (0, 0)))
    (k0 : w1.cell? ⟨g, 0, none⟩ = some (.slice (some ⟨r0, 0, none⟩) cs.length c0)) (k2 : w1.cell? ⟨g, 2, none⟩ = some (.slice (some ⟨r2, 0, none⟩) cs.length c2))
    (v0 : RowV w1 (.slice (some ⟨r0, 0, none⟩) cs.length c0) cs) (v2 : RowV w1 (.slice (some ⟨r2, 0, none⟩) cs.length c2) ds) : LostW (V.alloc (.cells #[.bool false, .bool true] 4)) w2.heap.size (w2.heap.size + 1) g W h cs ds r0 c0 r2 c2 := by
  have hA : Below V.heap.size V (V.alloc (.cells #[.bool false, .bool true] 4)) := (Below.refl _ _).alloc (Nat.le_refl _) _
  have hb := below_trans (below_trans hb2 hV hb2.size) hA (by have := hb2.size; have := hV.size; omega)
  refine ⟨(hA.block _ (by omega)).trans hc, ?_, (grown_of hb).cell k0 (by simp), (grown_of hb).cell k2 (by simp), v0.below hb, v2.below hb⟩
  have := heap_alloc_new V (.cells #[.bool false, .bool true] 4)
  rwa [hs] at this
set_option maxRecDepth 100000 in
set_option maxHeartbeats 8000000 in
theorem walk_FnHueLost (a0 : Option Addr) (len0 cap0 : Nat) (z0 : List Int) (w : World) (w0 : IsRow .u8 w a0 len0 cap0 z0) :
    Calls Try.prog 3 #[.slice a0 len0 cap0] w fun e w' => e = .returned (.bool true) ∧ Below w.heap.size w w' := by
  by_cases hbig : 1048576 < len0
  · have hbb : decide ((1048576 : Int) < len0) = true := by simp; omega
    have HB := Lib.hid (big_any a0 len0 cap0 w)
    rw [hbb] at HB
    clear hbb
    go_enter Try.func3, Try.ntmps3
    go_wp2_with fail
    refine HB.out.mono ?_
    rintro e w1 ⟨rfl, rfl⟩
    go_wp2
    go_ret
    exact ⟨rfl, Below.refl _ _⟩
  · have hbb : decide ((1048576 : Int) < len0) = false := by simp; omega
    have HB := Lib.hid (big_any a0 len0 cap0 w)
    rw [hbb] at HB
    have HS := Lib.hid (w0.src (by omega))
    have HD := Lib.hid (drawPaired_any a0 len0 cap0 w HS.out)
    clear hbb w0
    go_enter Try.func3, Try.ntmps3
    go_wp2_with fail
    refine HB.out.mono ?_
    rintro e w1 ⟨rfl, rfl⟩
    go_wp2_with fail
    refine HD.out.mono ?_
    rintro e w1 ⟨W, g, cap, base, rs, ss, hbs, hp, rfl, hb1⟩
    have HP := Lib.hid hp
    have HC := Lib.hid (drawCh_any a0 len0 cap0 w1 (HS.out.below hb1 hb1.size))
    clear hp HD HB HS
    go_wp2_with fail
    refine HC.out.mono ?_
    rintro e w2 ⟨A, O, X, Y, hpc, rfl, hb2⟩
    have HPC := Lib.hid hpc
    have hb02 := below_trans hb1 hb2 hb1.size
    have hlen4 : ¬ rs.length < 4 := by have := HP.out.high; omega
    obtain ⟨hcap, cs, ds, r0, c0, r2, c2, hl, hld, hpl, hpl2, hcol, k0, k2, v0, v2⟩ := HP.out.two
    have HK := Lib.hid (And.intro k0 k2)
    have HV := Lib.hid (And.intro v0 v2)
    have HPL := Lib.hid (And.intro hpl (And.intro hpl2 hcol))
    have HLD := Lib.hid hld
    have hAl : Below w2.heap.size w2 (w2.alloc (.cells #[.float .f32 A, .float .f32 O, .complex .f32 X Y] 29)) := (Below.refl _ _).alloc (Nat.le_refl _) _
    have hch := heap_alloc_new w2 (.cells #[.float .f32 A, .float .f32 O, .complex .f32 X Y] 29)
    have hsz : (w2.alloc (.cells #[.float .f32 A, .float .f32 O, .complex .f32 X Y] 29)).heap.size = w2.heap.size + 1 := by simp
    obtain ⟨t, ht⟩ : ∃ t, (FloatKind.f32.format.order X 0 == some .eq && FloatKind.f32.format.order Y 0 == some .eq) = t := ⟨_, rfl⟩
    clear hpc HC hpl hpl2 hcol k0 k2 v0 v2 hld
    cases t
    · obtain ⟨α, ω, ξ, η, hlc⟩ := lost_some HPC.out (fun e => by
        rw [show FloatKind.f32.format.order X 0 = some .eq from e.1, show FloatKind.f32.format.order Y 0 = some .eq from e.2] at ht
        exact absurd ht (by decide))
      have HW := Lib.hid (LostW.new (W := W) (h := ⟨A, O, X, Y⟩) hb2 hAl hsz hch HK.out.1 HK.out.2 HV.out.1 HV.out.2)
      have HLC := Lib.hid hlc
      have hb5 := below_trans (below_trans hb02 hAl hb02.size) ((Below.refl (w2.alloc (.cells #[.float .f32 A, .float .f32 O, .complex .f32 X Y] 29)).heap.size _).alloc (Nat.le_refl _) (.cells #[.bool false, .bool true] 4)) (below_trans hb02 hAl hb02.size).size
      clear hlc hAl hch hsz HPC HK HV
      go_wp2
      generalize ((w2.alloc (.cells #[.float .f32 A, .float .f32 O, .complex .f32 X Y] 29)).alloc (.cells #[.bool false, .bool true] 4)) = w5 at *
      clear ht
      obtain ⟨hc, hhc⟩ : ∃ hc : Chn, (⟨A, O, X, Y⟩ : Chn) = hc := ⟨_, rfl⟩
      rw [hhc] at HW HLC
      generalize w2.heap.size = B at *
      clear hhc hb02 hb2 hb1 HP hbs
      have hpv := plain_valid HLC.out.plain
      have HOK := Lib.hid (fun o => lineT_ok HLC.out.plain HPL.out.1 hl.1 (by omega) o)
      have HOK2 := Lib.hid (fun o => lineT_ok HLC.out.plain HPL.out.2.1 (by have := HLD.out; omega) (by have := HLD.out; omega) o)
      have HPV := Lib.hid hpv
      have HFR := Lib.hid (And.intro (HPL.out.1.fit) (HPL.out.1.rok hl.1 (by omega)))
      have HFR2 := Lib.hid (And.intro (HPL.out.2.1.fit) (HPL.out.2.1.rok (by have := HLD.out; omega) (by have := HLD.out; omega)))
      clear hpv
      have hr0 : (0 : Int) < (rs.length : Int) := by omega
      have hr2 : (2 : Int) < (rs.length : Int) := by omega
      have hr0n : 0 < rs.length := by omega
      have hr2n : 2 < rs.length := by omega
      go_loopw [33] (fun i wr => ∃ k : Nat, k ≤ 2 ∧ i = .int .i64 (k : Int) ∧ Below w5.heap.size w5 wr) (fun i _ => 2 - (intOf i).toNat)
      case atStart => exact ⟨0, Nat.zero_le _, rfl, Below.refl _ _⟩
      case round =>
        obtain ⟨k, hk, rfl, hb⟩ := hrel
        by_cases hlt : k < 2
        · obtain ⟨o, ho⟩ := HW.out.lit hb hlt
          obtain ⟨m0, m1, m2, m3, m4⟩ := HW.out.cells hb
          have HM0 := fun V (hV : Below w5.heap.size w5 V) => Lib.hid (makeLine_any (.slice (some ⟨r0, 0, none⟩) cs.length c0) cs o V (HW.out.v0.below hV) HFR.out.1 HFR.out.2)
          have HT0 := fun v V (hr : FRow V v (lineL cs o)) => Lib.hid (transmit_any hc.A hc.O hc.X hc.Y v (lineL cs o) V hr HPV.out.1 HPV.out.2 (HOK.out o).1 (HOK.out o).2.1)
          go_wp2
          go_region_held3 (fun V => V.cell? ⟨B, 0, none⟩ = some (.float .f32 hc.A) ∧ V.cell? ⟨B, 1, none⟩ = some (.float .f32 hc.O) ∧ V.cell? ⟨B, 2, none⟩ = some (.complex .f32 hc.X hc.Y) ∧ V.cell? ⟨g, 0, none⟩ = some (.slice (some ⟨r0, 0, none⟩) cs.length c0)) (go_keep)
            (first
              | (go_at_call 16; refine (HM0 _ (by first | exact hb.drew | exact hb)).out.mono ?_; rintro e w6 ⟨v6, rfl, hn6, hb6⟩; obtain ⟨a6, c6, hv6⟩ := hn6.row.lenv; subst hv6; have hbw6 := below_trans hb.drew hb6 hb.drew.size; have HN6 := Lib.hid hn6; clear hn6; obtain ⟨n0, n1, n2, n3, n4⟩ := HW.out.cells hbw6)
              | (go_at_call 15; refine (HT0 _ _ (by first | exact HN6.out.row)).out.mono ?_; rintro e w7 ⟨v7, y7, rfl, rfl, hn7, hb7⟩; have hbw7 := below_trans hbw6 hb7 hbw6.size; have HN7 := Lib.hid hn7; clear hn7; obtain ⟨q0, q1, q2, q3, q4⟩ := HW.out.cells hbw7))
          clear m0 m1 m2 m3 m4 n0 n1 n2 n3 n4 HM0 HT0 hb6 hb7 HN6
          have HM2 := fun V (hV : Below w5.heap.size w5 V) => Lib.hid (makeLine_any (.slice (some ⟨r2, 0, none⟩) cs.length c2) ds (!o) V (HW.out.v2.below hV) HFR2.out.1 HFR2.out.2)
          have HT2 := fun v V (hr : FRow V v (lineL ds (!o))) => Lib.hid (transmit_any hc.A hc.O hc.X hc.Y v (lineL ds (!o)) V hr HPV.out.1 HPV.out.2 (HOK2.out (!o)).1 (HOK2.out (!o)).2.1)
          go_wp2
          go_region_held3 (fun V => V.cell? ⟨B, 0, none⟩ = some (.float .f32 hc.A) ∧ V.cell? ⟨B, 1, none⟩ = some (.float .f32 hc.O) ∧ V.cell? ⟨B, 2, none⟩ = some (.complex .f32 hc.X hc.Y) ∧ V.cell? ⟨g, 2, none⟩ = some (.slice (some ⟨r2, 0, none⟩) cs.length c2)) (go_keep)
            (first
              | (go_at_call 16; refine (HM2 _ (by first | exact hbw7.drew | exact hbw7)).out.mono ?_; rintro e w8 ⟨v8, rfl, hn8, hb8⟩; obtain ⟨a8, c8, hv8⟩ := hn8.row.lenv; subst hv8; have hbw8 := below_trans hbw7.drew hb8 hbw7.drew.size; have HN8 := Lib.hid hn8; have HN78 := Lib.hid (show FRow w8 v7 _ from (show FRow w7.drew v7 _ from HN7.out.row).below hb8); clear hn8; obtain ⟨n0, n1, n2, n3, n4⟩ := HW.out.cells hbw8)
              | (go_at_call 15; refine (HT2 _ _ (by first | exact HN8.out.row)).out.mono ?_; rintro e w9 ⟨v9, y9, rfl, rfl, hn9, hb9⟩; have hbw9 := below_trans hbw8 hb9 hbw8.size; have HN9 := Lib.hid hn9.row; have HN79 := Lib.hid (HN78.out.below hb9); clear hn9; obtain ⟨m0, m1, m2, m3, m4⟩ := HW.out.cells hbw9))
          clear q0 q1 q2 q3 q4 n0 n1 n2 n3 n4 m0 m1 m2 m3 m4 HM2 HT2 hb8 hb9 HN8 HN78 HN7 hbw6 hbw7 hbw8
          have HDP := Lib.hid (decodePair_any v7 v9 _ _ w9 HN79.out HN9.out (Nat.le_trans (lineOk_len (HOK.out o).2.2).2.2 (by decide)) (Nat.le_trans (lineOk_len (HOK2.out (!o)).2.2).2.2 (by decide)))
          go_wp2_with fail
          refine HDP.out.mono ?_
          rintro e w10 ⟨v10, rows, sr, okr, rfl, hpr, hg10, hb10⟩
          obtain ⟨rfl, p0, p1, rfl, hlost⟩ := pairT HLC.out.plain HLC.out.some HPL.out.1 hl.1 (by omega) HPL.out.2.1 HLD.out HPL.out.2.2 o hpr
          have HL := Lib.hid hlost
          have hl0 := hlost.l0
          have hl1 := hlost.l1
          obtain ⟨gg, cap10, x0, y0, x1, y1, rfl, hcap10, k0, k1, n0, n1, t0, t1⟩ := rowsPair hg10 (by intro e; subst e; simp at hl0; omega) (by intro e; subst e; simp at hl1; omega)
          rw [hl0] at k0 n0 t0
          rw [hl1] at k1 n1 t1
          have hbw10 := below_trans hbw9 hb10 hbw9.size
          have HK0 := Lib.hid k0
          have HK1 := Lib.hid k1
          have HN0 := Lib.hid n0
          have HN1 := Lib.hid n1
          have HL0 := Lib.hid hl0
          have HL1 := Lib.hid hl1
          obtain ⟨m0, m1, m2, m3, m4⟩ := HW.out.cells hbw10
          have hcc : cs.length ≤ c0 := ((HW.out.v0).at0 (i := 0) (by omega)).2.2
          clear hpr hg10 hlost n0 n1 hl0 hl1 HDP HN79 HN9 hb10 hbw9
          go_wp2
          go_quiet (fail)
          have HB10 := Lib.hid hbw10
          go_wp2
          clear k0 k1 m0 m1 m2 m3 m4 hbw10
          go_loopw [13] (fun i wi => ∃ j : Nat, j ≤ cs.length ∧ i = .int .i64 (j : Int) ∧ Below w10.heap.size w10 wi) (fun i _ => cs.length - (intOf i).toNat)
          case atStart => exact ⟨0, Nat.zero_le _, rfl, by first | exact belowDN (Below.refl _ _) _ | exact Below.refl _ _⟩
          case round =>
            obtain ⟨j, hj, rfl, hbi⟩ := hrel
            have hbwi := below_trans HB10.out hbi HB10.out.size
            obtain ⟨m0, m1, m2, m3, m4⟩ := HW.out.cells hbwi
            have k0 := (grown_of hbi).cell HK0.out (by simp)
            have k1 := (grown_of hbi).cell HK1.out (by simp)
            by_cases hltj : j < cs.length
            · have hj0 : j < p0.length := by rw [HL0.out]; exact hltj
              have hj1 : j < p1.length := by rw [HL1.out]; exact hltj
              obtain ⟨⟨e1, e2, e3, e4⟩, ⟨f1, f2⟩, ⟨f3, f4⟩, f5⟩ := HL.out.due HPL.out.1 HLC.out.plain hltj hj0 hj1
              obtain ⟨x2, x3⟩ := ((HW.out.v0.below hbwi).at0 hltj).1
              obtain ⟨y2, y3, _, _⟩ := (HN0.out.below hbi).rd hj0
              obtain ⟨y4, y5, _, _⟩ := (HN1.out.below hbi).rd hj1
              have a1 := fun W => arith_runT e1 W
              have a2 := fun W => arith_runT e2 W
              have a3 := fun W => arith_runT e3 W
              have a4 := fun W => arith_runT e4 W
              have f1' : FloatKind.f32.format.order p0[j].2.1 (Flt.mulv hc.X cs[j].2.1) = some .eq := f1
              have f2' : FloatKind.f32.format.order p0[j].2.2 (Flt.mulv hc.X cs[j].2.2) = some .eq := f2
              have f3' : FloatKind.f32.format.order p1[j].2.1 (Flt.mulv hc.X cs[j].2.1) = some .eq := f3
              have f4' : FloatKind.f32.format.order p1[j].2.2 (Flt.mulv hc.X cs[j].2.2) = some .eq := f4
              have f5' : FloatKind.f32.format.order p0[j].1 (Flt.sumv (Flt.mulv hc.A cs[j].1) hc.O) = some .eq := f5
              clear e1 e2 e3 e4 f1 f2 f3 f4 f5
              generalize Flt.sumv (Flt.mulv hc.A cs[j].1) hc.O = s5 at *
              generalize Flt.mulv hc.A cs[j].1 = s4 at *
              generalize Flt.mulv hc.X cs[j].2.1 = s1 at *
              generalize Flt.mulv hc.X cs[j].2.2 = s2 at *
              generalize cs[j] = c at *
              generalize p0[j] = d0 at *
              generalize p1[j] = d1 at *
              go_wp2
              go_quiet (fail)
              go_wp2
              go_quiet (fail)
              go_wp2
              go_roundw
              case rel => exact ⟨j + 1, by omega, by go_num, belowDN hbi _⟩
              case measure => simp [intOf]; omega
            · have hjj : j = cs.length := by omega
              obtain ⟨hm, hz⟩ := HL.out.turnV HPL.out.1 HLC.out.plain.2.2.2.1 hl.1 (by omega)
              have HTU := fun V (hV : Below w10.heap.size w10 V) => Lib.hid (hueTurn_any (.slice (some ⟨r0, 0, none⟩) cs.length c0) (.slice (some ⟨x0, 0, none⟩) cs.length y0) cs p0 V (HW.out.v0.below (below_trans HB10.out hV HB10.out.size)) (HN0.out.below hV).row (by omega) (by rw [HL0.out]; omega))
              unfold TurnPost at HTU
              rw [hm] at HTU
              have hz' : FloatKind.f32.format.order (turnV cs p0) 0 = some .eq := hz
              clear hm hz
              generalize turnV cs p0 = tv at *
              subst hjj
              go_wp2
              go_region_held3 (fun V => V.cell? ⟨g, 0, none⟩ = some (.slice (some ⟨r0, 0, none⟩) cs.length c0) ∧ V.cell? ⟨gg, 0, none⟩ = some (.slice (some ⟨x0, 0, none⟩) cs.length y0)) (go_keep)
                (first | (go_at_call 18; refine (HTU _ (by first | exact hbi.drew | exact hbi)).out.mono ?_; rintro e w12 ⟨rfl, hb12⟩; have hbw12 := below_trans hbi.drew hb12 hbi.drew.size; have q0 := (HW.out.cells (below_trans HB10.out hbw12 HB10.out.size)).2.2.2.1; have q1 := (grown_of hbw12).cell HK0.out (by simp)))
              clear m0 m1 m2 m3 m4 k0 k1 q0 q1 HTU
              go_wp2
              go_roundw
              case rel => exact ⟨k + 1, by omega, by go_num, below_trans HB10.out hbw12 HB10.out.size⟩
              case measure => simp [intOf]; omega
        · go_wp2
          go_ret
          exact ⟨rfl, below_trans hb5 hb hb5.size⟩
    · have hXY : FloatKind.f32.format.order X 0 = some .eq ∧ FloatKind.f32.format.order Y 0 = some .eq := by
        rw [Bool.and_eq_true] at ht
        exact ⟨by simpa using ht.1, by simpa using ht.2⟩
      obtain ⟨α, ω, ξ, η, hlc⟩ := lost_zero HPC.out hXY.1 hXY.2
      have hV2 : Below w2.heap.size w2 (w2.alloc (.cells #[.float .f32 A, .float .f32 O, .complex .f32 0 1065353216] 29)) := (Below.refl _ _).alloc (Nat.le_refl _) _
      have hs2 : (w2.alloc (.cells #[.float .f32 A, .float .f32 O, .complex .f32 0 1065353216] 29)).heap.size = w2.heap.size + 1 := by simp
      have hc2 := heap_alloc_new w2 (.cells #[.float .f32 A, .float .f32 O, .complex .f32 0 1065353216] 29)
      have HW := Lib.hid (LostW.new (W := W) (h := ⟨A, O, 0, 1065353216⟩) hb2 hV2 hs2 hc2 HK.out.1 HK.out.2 HV.out.1 HV.out.2)
      have HLC := Lib.hid hlc
      have hb5 := below_trans (below_trans hb02 hV2 hb02.size) ((Below.refl (w2.alloc (.cells #[.float .f32 A, .float .f32 O, .complex .f32 0 1065353216] 29)).heap.size _).alloc (Nat.le_refl _) (.cells #[.bool false, .bool true] 4)) (below_trans hb02 hV2 hb02.size).size
      clear hlc hAl hch hsz HPC HK HV hV2 hs2 hc2 hXY
      go_wp2
      generalize ((w2.alloc (.cells #[.float .f32 A, .float .f32 O, .complex .f32 0 1065353216] 29)).alloc (.cells #[.bool false, .bool true] 4)) = w5 at *
      clear ht
      obtain ⟨hc, hhc⟩ : ∃ hc : Chn, (⟨A, O, 0, 1065353216⟩ : Chn) = hc := ⟨_, rfl⟩
      rw [hhc] at HW HLC
      generalize w2.heap.size = B at *
      clear hhc hb02 hb2 hb1 HP hbs
      have hpv := plain_valid HLC.out.plain
      have HOK := Lib.hid (fun o => lineT_ok HLC.out.plain HPL.out.1 hl.1 (by omega) o)
      have HOK2 := Lib.hid (fun o => lineT_ok HLC.out.plain HPL.out.2.1 (by have := HLD.out; omega) (by have := HLD.out; omega) o)
      have HPV := Lib.hid hpv
      have HFR := Lib.hid (And.intro (HPL.out.1.fit) (HPL.out.1.rok hl.1 (by omega)))
      have HFR2 := Lib.hid (And.intro (HPL.out.2.1.fit) (HPL.out.2.1.rok (by have := HLD.out; omega) (by have := HLD.out; omega)))
      clear hpv
      have hr0 : (0 : Int) < (rs.length : Int) := by omega
      have hr2 : (2 : Int) < (rs.length : Int) := by omega
      have hr0n : 0 < rs.length := by omega
      have hr2n : 2 < rs.length := by omega
      go_loopw [33] (fun i wr => ∃ k : Nat, k ≤ 2 ∧ i = .int .i64 (k : Int) ∧ Below w5.heap.size w5 wr) (fun i _ => 2 - (intOf i).toNat)
      case atStart => exact ⟨0, Nat.zero_le _, rfl, Below.refl _ _⟩
      case round =>
        obtain ⟨k, hk, rfl, hb⟩ := hrel
        by_cases hlt : k < 2
        · obtain ⟨o, ho⟩ := HW.out.lit hb hlt
          obtain ⟨m0, m1, m2, m3, m4⟩ := HW.out.cells hb
          have HM0 := fun V (hV : Below w5.heap.size w5 V) => Lib.hid (makeLine_any (.slice (some ⟨r0, 0, none⟩) cs.length c0) cs o V (HW.out.v0.below hV) HFR.out.1 HFR.out.2)
          have HT0 := fun v V (hr : FRow V v (lineL cs o)) => Lib.hid (transmit_any hc.A hc.O hc.X hc.Y v (lineL cs o) V hr HPV.out.1 HPV.out.2 (HOK.out o).1 (HOK.out o).2.1)
          go_wp2
          go_region_held3 (fun V => V.cell? ⟨B, 0, none⟩ = some (.float .f32 hc.A) ∧ V.cell? ⟨B, 1, none⟩ = some (.float .f32 hc.O) ∧ V.cell? ⟨B, 2, none⟩ = some (.complex .f32 hc.X hc.Y) ∧ V.cell? ⟨g, 0, none⟩ = some (.slice (some ⟨r0, 0, none⟩) cs.length c0)) (go_keep)
            (first
              | (go_at_call 16; refine (HM0 _ (by first | exact hb.drew | exact hb)).out.mono ?_; rintro e w6 ⟨v6, rfl, hn6, hb6⟩; obtain ⟨a6, c6, hv6⟩ := hn6.row.lenv; subst hv6; have hbw6 := below_trans hb.drew hb6 hb.drew.size; have HN6 := Lib.hid hn6; clear hn6; obtain ⟨n0, n1, n2, n3, n4⟩ := HW.out.cells hbw6)
              | (go_at_call 15; refine (HT0 _ _ (by first | exact HN6.out.row)).out.mono ?_; rintro e w7 ⟨v7, y7, rfl, rfl, hn7, hb7⟩; have hbw7 := below_trans hbw6 hb7 hbw6.size; have HN7 := Lib.hid hn7; clear hn7; obtain ⟨q0, q1, q2, q3, q4⟩ := HW.out.cells hbw7))
          clear m0 m1 m2 m3 m4 n0 n1 n2 n3 n4 HM0 HT0 hb6 hb7 HN6
          have HM2 := fun V (hV : Below w5.heap.size w5 V) => Lib.hid (makeLine_any (.slice (some ⟨r2, 0, none⟩) cs.length c2) ds (!o) V (HW.out.v2.below hV) HFR2.out.1 HFR2.out.2)
          have HT2 := fun v V (hr : FRow V v (lineL ds (!o))) => Lib.hid (transmit_any hc.A hc.O hc.X hc.Y v (lineL ds (!o)) V hr HPV.out.1 HPV.out.2 (HOK2.out (!o)).1 (HOK2.out (!o)).2.1)
          go_wp2
          go_region_held3 (fun V => V.cell? ⟨B, 0, none⟩ = some (.float .f32 hc.A) ∧ V.cell? ⟨B, 1, none⟩ = some (.float .f32 hc.O) ∧ V.cell? ⟨B, 2, none⟩ = some (.complex .f32 hc.X hc.Y) ∧ V.cell? ⟨g, 2, none⟩ = some (.slice (some ⟨r2, 0, none⟩) cs.length c2)) (go_keep)
            (first
              | (go_at_call 16; refine (HM2 _ (by first | exact hbw7.drew | exact hbw7)).out.mono ?_; rintro e w8 ⟨v8, rfl, hn8, hb8⟩; obtain ⟨a8, c8, hv8⟩ := hn8.row.lenv; subst hv8; have hbw8 := below_trans hbw7.drew hb8 hbw7.drew.size; have HN8 := Lib.hid hn8; have HN78 := Lib.hid (show FRow w8 v7 _ from (show FRow w7.drew v7 _ from HN7.out.row).below hb8); clear hn8; obtain ⟨n0, n1, n2, n3, n4⟩ := HW.out.cells hbw8)
              | (go_at_call 15; refine (HT2 _ _ (by first | exact HN8.out.row)).out.mono ?_; rintro e w9 ⟨v9, y9, rfl, rfl, hn9, hb9⟩; have hbw9 := below_trans hbw8 hb9 hbw8.size; have HN9 := Lib.hid hn9.row; have HN79 := Lib.hid (HN78.out.below hb9); clear hn9; obtain ⟨m0, m1, m2, m3, m4⟩ := HW.out.cells hbw9))
          clear q0 q1 q2 q3 q4 n0 n1 n2 n3 n4 m0 m1 m2 m3 m4 HM2 HT2 hb8 hb9 HN8 HN78 HN7 hbw6 hbw7 hbw8
          have HDP := Lib.hid (decodePair_any v7 v9 _ _ w9 HN79.out HN9.out (Nat.le_trans (lineOk_len (HOK.out o).2.2).2.2 (by decide)) (Nat.le_trans (lineOk_len (HOK2.out (!o)).2.2).2.2 (by decide)))
          go_wp2_with fail
          refine HDP.out.mono ?_
          rintro e w10 ⟨v10, rows, sr, okr, rfl, hpr, hg10, hb10⟩
          obtain ⟨rfl, p0, p1, rfl, hlost⟩ := pairT HLC.out.plain HLC.out.some HPL.out.1 hl.1 (by omega) HPL.out.2.1 HLD.out HPL.out.2.2 o hpr
          have HL := Lib.hid hlost
          have hl0 := hlost.l0
          have hl1 := hlost.l1
          obtain ⟨gg, cap10, x0, y0, x1, y1, rfl, hcap10, k0, k1, n0, n1, t0, t1⟩ := rowsPair hg10 (by intro e; subst e; simp at hl0; omega) (by intro e; subst e; simp at hl1; omega)
          rw [hl0] at k0 n0 t0
          rw [hl1] at k1 n1 t1
          have hbw10 := below_trans hbw9 hb10 hbw9.size
          have HK0 := Lib.hid k0
          have HK1 := Lib.hid k1
          have HN0 := Lib.hid n0
          have HN1 := Lib.hid n1
          have HL0 := Lib.hid hl0
          have HL1 := Lib.hid hl1
          obtain ⟨m0, m1, m2, m3, m4⟩ := HW.out.cells hbw10
          have hcc : cs.length ≤ c0 := ((HW.out.v0).at0 (i := 0) (by omega)).2.2
          clear hpr hg10 hlost n0 n1 hl0 hl1 HDP HN79 HN9 hb10 hbw9
          go_wp2
          go_quiet (fail)
          have HB10 := Lib.hid hbw10
          go_wp2
          clear k0 k1 m0 m1 m2 m3 m4 hbw10
          go_loopw [13] (fun i wi => ∃ j : Nat, j ≤ cs.length ∧ i = .int .i64 (j : Int) ∧ Below w10.heap.size w10 wi) (fun i _ => cs.length - (intOf i).toNat)
          case atStart => exact ⟨0, Nat.zero_le _, rfl, by first | exact belowDN (Below.refl _ _) _ | exact Below.refl _ _⟩
          case round =>
            obtain ⟨j, hj, rfl, hbi⟩ := hrel
            have hbwi := below_trans HB10.out hbi HB10.out.size
            obtain ⟨m0, m1, m2, m3, m4⟩ := HW.out.cells hbwi
            have k0 := (grown_of hbi).cell HK0.out (by simp)
            have k1 := (grown_of hbi).cell HK1.out (by simp)
            by_cases hltj : j < cs.length
            · have hj0 : j < p0.length := by rw [HL0.out]; exact hltj
              have hj1 : j < p1.length := by rw [HL1.out]; exact hltj
              obtain ⟨⟨e1, e2, e3, e4⟩, ⟨f1, f2⟩, ⟨f3, f4⟩, f5⟩ := HL.out.due HPL.out.1 HLC.out.plain hltj hj0 hj1
              obtain ⟨x2, x3⟩ := ((HW.out.v0.below hbwi).at0 hltj).1
              obtain ⟨y2, y3, _, _⟩ := (HN0.out.below hbi).rd hj0
              obtain ⟨y4, y5, _, _⟩ := (HN1.out.below hbi).rd hj1
              have a1 := fun W => arith_runT e1 W
              have a2 := fun W => arith_runT e2 W
              have a3 := fun W => arith_runT e3 W
              have a4 := fun W => arith_runT e4 W
              have f1' : FloatKind.f32.format.order p0[j].2.1 (Flt.mulv hc.X cs[j].2.1) = some .eq := f1
              have f2' : FloatKind.f32.format.order p0[j].2.2 (Flt.mulv hc.X cs[j].2.2) = some .eq := f2
              have f3' : FloatKind.f32.format.order p1[j].2.1 (Flt.mulv hc.X cs[j].2.1) = some .eq := f3
              have f4' : FloatKind.f32.format.order p1[j].2.2 (Flt.mulv hc.X cs[j].2.2) = some .eq := f4
              have f5' : FloatKind.f32.format.order p0[j].1 (Flt.sumv (Flt.mulv hc.A cs[j].1) hc.O) = some .eq := f5
              clear e1 e2 e3 e4 f1 f2 f3 f4 f5
              generalize Flt.sumv (Flt.mulv hc.A cs[j].1) hc.O = s5 at *
              generalize Flt.mulv hc.A cs[j].1 = s4 at *
              generalize Flt.mulv hc.X cs[j].2.1 = s1 at *
              generalize Flt.mulv hc.X cs[j].2.2 = s2 at *
              generalize cs[j] = c at *
              generalize p0[j] = d0 at *
              generalize p1[j] = d1 at *
              go_wp2
              go_quiet (fail)
              go_wp2
              go_quiet (fail)
              go_wp2
              go_roundw
              case rel => exact ⟨j + 1, by omega, by go_num, belowDN hbi _⟩
              case measure => simp [intOf]; omega
            · have hjj : j = cs.length := by omega
              obtain ⟨hm, hz⟩ := HL.out.turnV HPL.out.1 HLC.out.plain.2.2.2.1 hl.1 (by omega)
              have HTU := fun V (hV : Below w10.heap.size w10 V) => Lib.hid (hueTurn_any (.slice (some ⟨r0, 0, none⟩) cs.length c0) (.slice (some ⟨x0, 0, none⟩) cs.length y0) cs p0 V (HW.out.v0.below (below_trans HB10.out hV HB10.out.size)) (HN0.out.below hV).row (by omega) (by rw [HL0.out]; omega))
              unfold TurnPost at HTU
              rw [hm] at HTU
              have hz' : FloatKind.f32.format.order (turnV cs p0) 0 = some .eq := hz
              clear hm hz
              generalize turnV cs p0 = tv at *
              subst hjj
              go_wp2
              go_region_held3 (fun V => V.cell? ⟨g, 0, none⟩ = some (.slice (some ⟨r0, 0, none⟩) cs.length c0) ∧ V.cell? ⟨gg, 0, none⟩ = some (.slice (some ⟨x0, 0, none⟩) cs.length y0)) (go_keep)
                (first | (go_at_call 18; refine (HTU _ (by first | exact hbi.drew | exact hbi)).out.mono ?_; rintro e w12 ⟨rfl, hb12⟩; have hbw12 := below_trans hbi.drew hb12 hbi.drew.size; have q0 := (HW.out.cells (below_trans HB10.out hbw12 HB10.out.size)).2.2.2.1; have q1 := (grown_of hbw12).cell HK0.out (by simp)))
              clear m0 m1 m2 m3 m4 k0 k1 q0 q1 HTU
              go_wp2
              go_roundw
              case rel => exact ⟨k + 1, by omega, by go_num, below_trans HB10.out hbw12 HB10.out.size⟩
              case measure => simp [intOf]; omega
        · go_wp2
          go_ret
          exact ⟨rfl, below_trans hb5 hb hb5.size⟩
end Go.Proofs.Ytgecclccmmcdoaa
