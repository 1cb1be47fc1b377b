/-
  What is proved: the pictures that the model draws for a link.
  Conditions: the cursor's block holds a cursor.
-/
import Derived.Test.YtobpnoiienpipaaGreatPz22
import Derived.StillTailTactics
import Derived.Deep.RegionHeld3
import Derived.Test.YtobpnoiienpipaaGreatPz14
namespace Go.Proofs.YtobpnoiienpipaaGreat
set_option linter.unusedVariables false
open Go.RowKit
attribute [local go_sem] run_store_float run_store_complex unary_negf neg256

/-- The colour of one cell of one row is written. -/
theorem GridC.putC {w : World} {base g n cap r i gr cr nr u v : Nat} {rs : List (List C3)} {ss : List SV} (h : GridC w base (.slice (some ⟨g, 0, none⟩) n cap) rs ss) (hr : r < rs.length) (hi : i < rs[r].length)
    (hc : w.cell? ⟨g, r, none⟩ = some (.slice (some ⟨gr, 0, none⟩) nr cr)) : GridC (w.setCell ⟨gr, i * 2 + 1, none⟩ (.complex .f32 u v)) base (.slice (some ⟨g, 0, none⟩) n cap) (Go.Proofs.YtobpnoiienpipaaGreat.put2 rs r i ((at2 rs r i).1, u, v)) ss := by
  have hs : r < ss.length := by rw [h.len]; exact hr
  obtain ⟨a, c', h1, h2⟩ := rowsC_any h.own.row
  obtain ⟨g1, o1, e, _, hcell⟩ := h2 r hs
  subst e
  have e1 : g1 = g ∧ o1 = 0 := by injection h1 with x1; injection x1 with x1; injection x1 with x1 x2; exact ⟨x1.symm, x2.symm⟩
  obtain ⟨rfl, rfl⟩ := e1
  rw [Nat.zero_add, hc] at hcell
  have hv : ss[r].v = .slice (some ⟨gr, 0, none⟩) nr cr := (Option.some.inj hcell).symm
  have hrow := h.row r hs hr
  rw [hv] at hrow
  have hb : ss[r].v.ownBlock = some gr := by rw [hv]; rfl
  unfold Go.Proofs.YtobpnoiienpipaaGreat.put2
  rw [at2_of hr hi, getD_lt hr]
  refine h.put hs (by rw [hb]; exact Lib.grownBy_setCell w gr (i * 2 + 1) _) ?_
  rw [hv]
  exact Lay.Own.put LC_ok (L := LC) (z := (rs[r][i].1, u, v)) hrow hi (show 1 < LC.size by decide) (show i * 2 + 1 = i * LC.size + 1 from rfl) (u := .complex .f32 u v) rfl
structure PL (w wr : World) (b W g cap : Nat) (rs : List (List C3)) (ss : List SV) : Prop where
  grid : GridC wr w.heap.size (.slice (some ⟨g, 0, none⟩) rs.length cap) rs ss
  cur : Cur wr b
  grown : w.grownBy wr (some b)
  wide : ∀ r ∈ rs, r.length = W
theorem PL.next {w wr w' : World} {b W g cap : Nat} {rs : List (List C3)} {ss : List SV} (h : PL w wr b W g cap rs ss) (hb : b < w.heap.size) (hc : Cur w' b) (hg : wr.grownBy w' (some b)) : PL w w' b W g cap rs ss :=
  ⟨h.grid.kept hg (fun r e => by cases e; exact .inl hb), hc, h.grown.trans hg, h.wide⟩
/-- One cell is written, whole. -/
theorem PL.put {w wr : World} {b W g cap r i gr cr nr : Nat} {rs : List (List C3)} {ss : List SV} {c : C3} (h : PL w wr b W g cap rs ss) (hb : b < w.heap.size) (hr : r < rs.length) (hi : i < W) (hgr : w.heap.size ≤ gr)
    (hc : wr.cell? ⟨g, r, none⟩ = some (.slice (some ⟨gr, 0, none⟩) nr cr)) : PL w ((wr.setCell ⟨gr, i * 2, none⟩ (.float .f32 c.1)).setCell ⟨gr, i * 2 + 1, none⟩ (.complex .f32 c.2.1 c.2.2)) b W g cap (put2 rs r i c) ss :=
  ⟨by rw [put2_len]; exact h.grid.put2 hr (by rw [h.wide _ (List.getElem_mem hr)]; exact hi) hc,
   (h.cur.set (p := ⟨gr, i * 2, none⟩) (Nat.lt_of_lt_of_le hb hgr) _).set (p := ⟨gr, i * 2 + 1, none⟩) (Nat.lt_of_lt_of_le hb hgr) _,
   grown_set (grown_set h.grown (p := ⟨gr, i * 2, none⟩) hgr _) (p := ⟨gr, i * 2 + 1, none⟩) hgr _, put2_wide h.wide hr⟩
/-- The colour of one cell is written. -/
theorem PL.putC {w wr : World} {b W g cap r i gr cr nr u v : Nat} {rs : List (List C3)} {ss : List SV} (h : PL w wr b W g cap rs ss) (hb : b < w.heap.size) (hr : r < rs.length) (hi : i < W) (hgr : w.heap.size ≤ gr)
    (hc : wr.cell? ⟨g, r, none⟩ = some (.slice (some ⟨gr, 0, none⟩) nr cr)) : PL w (wr.setCell ⟨gr, i * 2 + 1, none⟩ (.complex .f32 u v)) b W g cap (put2 rs r i ((at2 rs r i).1, u, v)) ss :=
  ⟨by rw [put2_len]; exact h.grid.putC hr (by rw [h.wide _ (List.getElem_mem hr)]; exact hi) hc,
   h.cur.set (p := ⟨gr, i * 2 + 1, none⟩) (Nat.lt_of_lt_of_le hb hgr) _, grown_set h.grown (p := ⟨gr, i * 2 + 1, none⟩) hgr _, put2_wide h.wide hr⟩
theorem PL.cell {w wr : World} {b W g cap r i : Nat} {rs : List (List C3)} {ss : List SV} (h : PL w wr b W g cap rs ss) (hr : r < rs.length) (hi : i < W) :
    ∃ gr cr, wr.cell? ⟨g, r, none⟩ = some (.slice (some ⟨gr, 0, none⟩) W cr) ∧ W ≤ cr ∧ wr.cell? ⟨gr, i * 2, none⟩ = some (.float .f32 (at2 rs r i).1) ∧ wr.cell? ⟨gr, i * 2 + 1, none⟩ = some (.complex .f32 (at2 rs r i).2.1 (at2 rs r i).2.2) ∧ wr.frozen? ⟨gr, i * 2, none⟩ = false ∧ wr.frozen? ⟨gr, i * 2 + 1, none⟩ = false ∧ w.heap.size ≤ gr ∧ gr ≠ g := by
  have hw := h.wide _ (List.getElem_mem hr)
  have hil : i < rs[r].length := by rw [hw]; exact hi
  have := h.grid.cell hr hil
  rw [hw, ← at2_of hr hil] at this
  exact this
def PicLP (b : Nat) (w : World) (e : Ending) (w' : World) : Prop := ∃ W g cap rs ss, (1 ≤ W ∧ W ≤ 4) ∧ (rs.length = 4 ∨ rs.length = 8) ∧ e = .returned (.slice (some ⟨g, 0, none⟩) rs.length cap) ∧ PL w w' b W g cap rs ss ∧ DoneL rs W rs.length 0
theorem PicLP.mk {b W g cap n : Nat} {w w' : World} {rs : List (List C3)} {ss : List SV} (hn : rs.length = n) (h1 : 1 ≤ W ∧ W ≤ 4) (h2 : n = 4 ∨ n = 8) (h : PL w w' b W g cap rs ss) (hd : DoneL rs W n 0) : PicLP b w (.returned (.slice (some ⟨g, 0, none⟩) n cap)) w' := by
  subst hn; exact ⟨W, g, cap, rs, ss, h1, h2, rfl, h, hd⟩
/-- Between the two writes of a cell the colour is the older one. -/
theorem GridC.mid {w : World} {base g n cap r i gr cr nr : Nat} {rs : List (List C3)} {ss : List SV} (h : GridC w base (.slice (some ⟨g, 0, none⟩) n cap) rs ss) (hr : r < rs.length) (hi : i < rs[r].length)
    (hc : w.cell? ⟨g, r, none⟩ = some (.slice (some ⟨gr, 0, none⟩) nr cr)) (x : Nat) : (w.setCell ⟨gr, i * 2, none⟩ (.float .f32 x)).cell? ⟨gr, i * 2 + 1, none⟩ = some (.complex .f32 (at2 rs r i).2.1 (at2 rs r i).2.2) ∧ (w.setCell ⟨gr, i * 2, none⟩ (.float .f32 x)).frozen? ⟨gr, i * 2 + 1, none⟩ = false := by
  have hs : r < ss.length := by rw [h.len]; exact hr
  obtain ⟨a, c', h1, h2⟩ := rowsC_any h.own.row
  obtain ⟨g1, o1, e, _, hcell⟩ := h2 r hs
  subst e
  have e1 : g1 = g ∧ o1 = 0 := by injection h1 with x1; injection x1 with x1; injection x1 with x1 x2; exact ⟨x1.symm, x2.symm⟩
  obtain ⟨rfl, rfl⟩ := e1
  rw [Nat.zero_add, hc] at hcell
  have hv : ss[r].v = .slice (some ⟨gr, 0, none⟩) nr cr := (Option.some.inj hcell).symm
  have hrow := h.row r hs hr
  rw [hv] at hrow
  have p1 := Lay.Own.put LC_ok (L := LC) (z := (x, rs[r][i].2)) hrow hi (show 0 < LC.size by decide) (show i * 2 = i * LC.size + 0 from rfl) (u := .float .f32 x) rfl
  have p2 := at_cC p1 (show i < (rs[r].set i (x, rs[r][i].2)).length by rw [List.length_set]; exact hi)
  rw [List.getElem_set_self] at p2
  rw [at2_of hr hi]
  exact p2
theorem PL.drew {w wr : World} {b W g cap : Nat} {rs : List (List C3)} {ss : List SV} (h : PL w wr b W g cap rs ss) (hb : b < w.heap.size) : PL w wr.drew b W g cap rs ss :=
  h.next hb (h.cur.drewN 1) (grownN (World.grownBy.refl wr (some b)) 1)
set_option maxHeartbeats 8000000 in
set_option maxRecDepth 100000 in
theorem l08Picture_any (b : Nat) (w : World) (hc : Cur w b) :
    Calls Tryz.prog 24 #[.pointer (some ⟨b, 0, none⟩)] w fun e w' => PicLP b w e w' := by
  have hlt := hc.lt
  go_enter Tryz.func24, Tryz.ntmps24
  go_wp2_with fail
  refine (l02PairedO_any b _ hc).mono ?_
  rintro e w1 ⟨W, g, cap, rs0, ss, hW, hH, rfl, hpo⟩
  have HP := Lib.hid (show PL w w1 b W g cap rs0 ss from ⟨hpo.grid, hpo.cur, hpo.grown, hpo.wide⟩)
  obtain ⟨H, hHH⟩ : ∃ H, rs0.length = H := ⟨_, rfl⟩
  rw [hHH] at hH ⊢
  have HH0 := Lib.hid hHH
  have HHR := Lib.hid hH
  have hHs : 4 ≤ H ∧ H ≤ 8 := by omega
  have hgc : H ≤ cap := by
    rcases hpo.grid.own.shape with ⟨h, _⟩ | ⟨g', c', h, _, _, h2, _⟩
    · cases h
    · injection h with e1 e2 e3
      have := hpo.grid.len
      omega
  clear hc hpo hHH hH
  go_wp2
  go_loopw [4] (fun rv wr => ∃ (r : Nat) (rs : List (List C3)), r ≤ H ∧ rv = .int .i64 (r : Int) ∧ rs.length = H ∧ PL w wr b W g cap rs ss ∧ DoneL rs W r 0) (fun rv _ => H - (intOf rv).toNat)
  case atStart => exact ⟨0, rs0, Nat.zero_le _, rfl, HH0.out, HP.out, DoneL.start _ _⟩
  case round =>
    obtain ⟨r, rs, hr, rfl, hrl, hpl, hdl⟩ := hrel
    have HPL := Lib.hid hpl
    have HDL := Lib.hid hdl
    have HRL := Lib.hid hrl
    clear hrl hpl hdl HP
    by_cases hrh : r < H
    · obtain ⟨wo, hwo⟩ : ∃ wo, wr = wo := ⟨_, rfl⟩
      rw [hwo] at HPL ⊢
      clear hwo wr
      go_wp2
      go_loopw [5] (fun iv wr => ∃ (i : Nat) (rs : List (List C3)), i ≤ W ∧ iv = .int .i64 (i : Int) ∧ rs.length = H ∧ PL w wr b W g cap rs ss ∧ DoneL rs W r i) (fun iv _ => W - (intOf iv).toNat)
      case atStart => exact ⟨0, rs, Nat.zero_le _, rfl, HRL.out, HPL.out, HDL.out⟩
      case round =>
        obtain ⟨i, rs, hi, rfl, hrl, hpl, hdl⟩ := hrel
        have HPI := Lib.hid hpl
        have HDI := Lib.hid hdl
        have HRI := Lib.hid hrl
        obtain ⟨gr0, cr0, k0, hcr0, z1, z2, z3, z4, z5, z6⟩ := hpl.cell (i := 0) (show r < rs.length by omega) (by omega)
        clear hrl hpl hdl HPL HDL HRL z1 z2 z3 z4 z5 z6
        by_cases hiw : i < W
        · have hcur := HPI.out.cur
          go_wp2_with fail
          refine (l01Below_any b _ _ hcur (by decide) (by decide)).mono ?_
          rintro e w3 ⟨x, hx, _, rfl, hc3, hg3⟩
          have hx := hx (by decide)
          have HP3 := Lib.hid (HPI.out.next hlt hc3 hg3)
          obtain ⟨fx, hfx, sx⟩ := Flt.Sx.sixteenth (n := (x : Int)) (by omega)
          have hrx := fun W => run_float_arith (P := Tryz.prog) W .quo 25 .f32 _ _ _ hfx
          have SX := Lib.hid sx
          clear hcur hg3 HPI hfx sx k0
          go_wp2_with fail
          refine (l01Below_any b _ _ hc3 (by decide) (by decide)).mono ?_
          rintro e w4 ⟨u, hu, _, rfl, hc4, hg4⟩
          have hu := hu (by decide)
          have HP4 := Lib.hid (HP3.out.next hlt hc4 hg4)
          obtain ⟨fu, hfu, su⟩ := Flt.Sx.sixteenth (n := (u : Int) - 32) (by omega)
          have hru := fun W => run_float_arith (P := Tryz.prog) W .quo 25 .f32 _ _ _ hfu
          have SU := Lib.hid su
          clear hc3 hg4 HP3 hfu su
          go_wp2_with fail
          refine (l01Below_any b _ _ hc4 (by decide) (by decide)).mono ?_
          rintro e w5 ⟨v, hv, _, rfl, hc5, hg5⟩
          have hv := hv (by decide)
          have HP5 := Lib.hid (HP4.out.next hlt hc5 hg5)
          obtain ⟨fv, hfv, sv⟩ := Flt.Sx.sixteenth (n := (v : Int) - 32) (by omega)
          have hrv := fun W => run_float_arith (P := Tryz.prog) W .quo 25 .f32 _ _ _ hfv
          have SV := Lib.hid sv
          have HLC := Lib.hid (show LinkC (fx, fu, fv) from ⟨_, _, _, SX.out, SU.out, SV.out, ⟨by omega, by omega⟩, by omega, by omega⟩)
          clear hc4 hg5 HP4 hfv sv hc5
          have hrl : r < rs.length := by have := HRI.out; omega
          obtain ⟨gr, cr, p0, hcr, p1, p2, p3, p4, p5, p6⟩ := HP5.out.cell hrl hiw
          have HPUT := Lib.hid (HP5.out.put (c := (fx, fu, fv)) hlt hrl hiw p5 p0)
          have HRP := Lib.hid (show (put2 rs r i (fx, fu, fv)).length = H by rw [put2_len]; exact HRI.out)
          obtain ⟨m1, m2⟩ := HP5.out.grid.mid hrl (show i < rs[r].length by rw [HP5.out.wide _ (List.getElem_mem hrl)]; exact hiw) p0 fx
          by_cases hr4 : 2 ≤ r % 4
          · have hd : decide (2 ≤ (r : Int) % 4) = true := decide_eq_true (by omega)
            obtain ⟨q, hqr⟩ : ∃ q, q + 2 = r := ⟨r - 2, by omega⟩
            have hrl2 : q < (put2 rs r i (fx, fu, fv)).length := by have := HRP.out; omega
            have hrl3 : r < (put2 rs r i (fx, fu, fv)).length := by have := HRP.out; omega
            obtain ⟨W6, hW6⟩ : ∃ W6, (w5.setCell ⟨gr, i * 2, none⟩ (.float .f32 fx)).setCell ⟨gr, i * 2 + 1, none⟩ (.complex .f32 fu fv) = W6 := ⟨_, rfl⟩
            rw [hW6] at HPUT
            have HP6 := Lib.hid (HPUT.out.drew hlt)
            obtain ⟨wd, hwd⟩ : ∃ wd, W6.drew = wd := ⟨_, rfl⟩
            rw [hwd] at HP6
            obtain ⟨ga, ca, a0, hca, a1, a2, a3, a4, a5, a6⟩ := HP6.out.cell hrl3 hiw
            obtain ⟨gb, cb, b0, hcb, b1, b2, b3, b4, b5, b6⟩ := HP6.out.cell hrl2 hiw
            have HPC := Lib.hid (HP6.out.putC (u := (at2 (put2 rs r i (fx, fu, fv)) q i).2.1) (v := (at2 (put2 rs r i (fx, fu, fv)) q i).2.2) hlt hrl3 hiw a5 a0)
            clear hrl hrl2 hrl3 p5 p6 a1 a3 a5 a6 b1 b3 b4 b5 b6
            have hr2 : IntKind.i64.wrap ((r : Int) - 2) = (q : Int) := by rw [IntWalk.i64_in _ (by omega)]; omega
            have hqH : q < H := by omega
            go_wp2_with fail
            try rw [hW6]
            refine wp_region_still_tail 14 (by kernel_rfl) (by kernel_rfl) ?_
            simp only [List.take_succ_cons, List.take_zero, List.drop_succ_cons, List.drop_zero]
            change wpStill _ _ W6.drew (fun a' => wpList _ _ _ _ a' W6.drew) _ _
            rw [hwd]
            repeat still_step
            try refine wpStill_nil ?_
            go_wp2
            have hrl : r < rs.length := by have := HRI.out; omega
            have hil : i < rs[r].length := by rw [HP5.out.wide _ (List.getElem_mem hrl)]; exact hiw
            have e1 : at2 (put2 rs r i (fx, fu, fv)) r i = (fx, fu, fv) := by rw [put2_at hrl hil, if_pos ⟨rfl, rfl⟩]
            have e2 : at2 (put2 rs r i (fx, fu, fv)) q i = at2 rs q i := by rw [put2_at hrl hil, if_neg (by omega)]
            have hp := HPC.out
            rw [put2_put hrl, e1, e2] at hp
            rw [e2]
            have hq1 : LinkC (at2 rs q i) := HDI.out.link q i (by have := HRI.out; omega) hiw (.inl (by omega))
            have hq2 : LinkC (fx, (at2 rs q i).2.1, (at2 rs q i).2.2) := by
              obtain ⟨a, c, d, h1, h2, h3, h4, h5, h6⟩ := HLC.out
              obtain ⟨a', c', d', k1, k2, k3, k4, k5, k6⟩ := hq1
              exact ⟨a, c', d', h1, k2, k3, h4, k5, k6⟩
            refine ⟨⟨i + 1, put2 rs r i (fx, (at2 rs q i).2.1, (at2 rs q i).2.2), by omega, by go_num, by rw [put2_len]; exact HRI.out, hp, HDI.out.next HP5.out.wide hrl hiw hq2 (fun _ => ?_)⟩, by simp [intOf]; omega⟩
            rw [show r - 2 = q by omega]
          · have hd : decide (2 ≤ (r : Int) % 4) = false := decide_eq_false (by omega)
            have HDN := Lib.hid (HDI.out.next (c := (fx, fu, fv)) HP5.out.wide hrl hiw HLC.out (fun h => absurd h hr4))
            clear hr4
            go_wp2
            go_roundw
            case rel => exact ⟨i + 1, put2 rs r i (fx, fu, fv), by omega, by go_num, HRP.out, HPUT.out, HDN.out⟩
            case measure => simp [intOf]; omega
        · have hie : i = W := by omega
          subst hie
          go_wp2
          go_roundw
          case rel => exact ⟨r + 1, rs, by omega, by go_num, HRI.out, HPI.out, HDI.out.row⟩
          case measure => simp [intOf]; omega
    · have hre : r = H := by omega
      subst hre
      go_wp2
      go_ret
      exact PicLP.mk HRL.out hW HHR.out HPL.out HDL.out
end Go.Proofs.YtobpnoiienpipaaGreat

/-
  What is proved: what the model draws as a link: a picture and a channel.
  Conditions: the bytes can be read.
-/
namespace Go.Proofs.YtobpnoiienpipaaGreat
set_option linter.unusedVariables false
open Go.RowKit
open Flt (Q)
attribute [local go_sem] run_store_float run_store_complex unary_negf neg256

theorem half_of {n : Int} (h : n.natAbs < 2 ^ 20) : ∃ r, floatBits .quo .f32 (floatOfInt .f32 n) 1073741824 = some r ∧ Q 148 r n := by
  obtain ⟨r, h1, h2⟩ := (q_int h).quo (f := 148) (show Ieee.single.read 1073741824 = .number false 8388608 (-22) by decide +kernel) (by omega) (by decide) (by decide)
  exact ⟨r, h1, h2⟩
def ThreeG (x : Int) : Prop := x = 1 ∨ x = 2 ∨ x = 4
def FourG (x : Int) : Prop := x = 1 ∨ x = 2 ∨ x = -1 ∨ x = -2
/-- A channel of a link. -/
def LinkH (h : Chn) : Prop := ∃ α ω ξ η : Int, ThreeG α ∧ FourG ξ ∧ ω.natAbs ≤ 32 ∧ η.natAbs ≤ 4 ∧ Q 148 h.A α ∧ Q 146 h.O ω ∧ Q 147 h.X (α * ξ) ∧ Q 146 h.Y (α * η)
theorem ThreeG.le {x : Int} (h : ThreeG x) : x.natAbs ≤ 4 := by rcases h with rfl | rfl | rfl <;> decide
theorem FourG.le {x : Int} (h : FourG x) : x.natAbs ≤ 2 := by rcases h with rfl | rfl | rfl | rfl <;> decide
theorem gain_x {A X : Nat} {α ξ : Int} (hA : Q 148 A α) (hX : Q 148 X ξ) (h1 : α.natAbs ≤ 4) (h2 : ξ.natAbs ≤ 4) : ∃ r, floatBits .mul .f32 A X = some r ∧ Q 147 r (α * ξ) := by
  have hm := Nat.mul_le_mul h1 h2
  rw [← Int.natAbs_mul] at hm
  obtain ⟨r, k1, k2⟩ := hA.mul hX (Nat.lt_of_le_of_lt hm (by decide)) (by omega) (by omega)
  exact ⟨r, k1, k2⟩
theorem gain_y {A Y : Nat} {α η : Int} (hA : Q 148 A α) (hY : Q 147 Y η) (h1 : α.natAbs ≤ 4) (h2 : η.natAbs ≤ 4) : ∃ r, floatBits .mul .f32 A Y = some r ∧ Q 146 r (α * η) := by
  have hm := Nat.mul_le_mul h1 h2
  rw [← Int.natAbs_mul] at hm
  obtain ⟨r, k1, k2⟩ := hA.mul hY (Nat.lt_of_le_of_lt hm (by decide)) (by omega) (by omega)
  exact ⟨r, k1, k2⟩
def LkPost (b : Nat) (w : World) (e : Ending) (w' : World) : Prop := ∃ A O X Y, LinkH ⟨A, O, X, Y⟩ ∧ e = .returned (.agg #[.float .f32 A, .float .f32 O, .complex .f32 X Y]) ∧ Cur w' b ∧ w.grownBy w' (some b)
theorem q_lt {e x : Nat} {a : Int} (h : Q e x a) : x < 2 ^ 32 := h.1
set_option maxHeartbeats 1000000 in
theorem l08Channel_any (b : Nat) (w : World) (hc : Cur w b) :
    Calls Tryz.prog 25 #[.pointer (some ⟨b, 0, none⟩)] w fun e w' => LkPost b w e w' := by
  have hlt := hc.lt
  have hcA := hc.alloc (.cells #[.float .f32 0, .float .f32 0, .complex .f32 0 0] 28)
  have hgA := World.grownBy_alloc w (.cells #[.float .f32 0, .float .f32 0, .complex .f32 0 0] 28) (some b)
  have hnew := heap_alloc_new w (.cells #[.float .f32 0, .float .f32 0, .complex .f32 0 0] 28)
  have hsA : w.heap.size < (w.alloc (.cells #[.float .f32 0, .float .f32 0, .complex .f32 0 0] 28)).heap.size := by simp
  have hszA : (w.alloc (.cells #[.float .f32 0, .float .f32 0, .complex .f32 0 0] 28)).heap.size = w.heap.size + 1 := by simp
  have HN := Lib.hid hnew
  clear hc hnew
  go_enter Tryz.func25, Tryz.ntmps25
  go_wp2_with fail
  generalize w.alloc (.cells #[.float .f32 0, .float .f32 0, .complex .f32 0 0] 28) = wA at *
  have hnl := Nums.lit (P := ThreeG) wA 3 [1, 2, 4] (by unfold ThreeG; decide)
  rw [hszA] at hnl
  have HNL := Lib.hid hnl
  clear hnl hszA
  refine (l01PickInt_any ThreeG b _ 3 3 _ (hcA.alloc _) (by decide) (by decide) (by have := hcA.lt; omega) (by decide) HNL.out).mono ?_
  rintro e w1 ⟨x1, hx1, rfl, hc1, hgx⟩
  have hg1 := (World.grownBy_alloc wA (.cells #[.int .i64 1, .int .i64 2, .int .i64 4] 3) (some b)).trans hgx
  have hx1l := hx1.le
  obtain ⟨A, hA, gA⟩ := half_of (n := x1) (by omega)
  have qA := fun W => run_float_arith (P := Tryz.prog) W .quo 25 .f32 _ _ _ hA
  have HA := Lib.hid gA
  have HX1 := Lib.hid hx1
  clear hA gA hx1 hgx HNL
  go_wp2_with fail
  have HNL := Lib.hid (Nums.lit (P := FourG) w1 3 [1, 2, -1, -2] (by unfold FourG; decide))
  refine (l01PickInt_any FourG b _ 4 4 _ (hc1.alloc _) (by decide) (by decide) (by have := hc1.lt; omega) (by decide) HNL.out).mono ?_
  rintro e w2 ⟨x2, hx2, rfl, hc2, hgx⟩
  have hg2 := (World.grownBy_alloc w1 (.cells #[.int .i64 1, .int .i64 2, .int .i64 (-1), .int .i64 (-2)] 3) (some b)).trans hgx
  have hx2l := hx2.le
  obtain ⟨X0, hX, qX⟩ := half_of (n := x2) (by omega)
  have qx := fun W => run_float_arith (P := Tryz.prog) W .quo 25 .f32 _ _ _ hX
  have HX2 := Lib.hid hx2
  obtain ⟨X, hX', qX'⟩ := gain_x HA.out qX (by omega) (by omega)
  have qx' := fun W => run_float_arith (P := Tryz.prog) W .mul 25 .f32 _ _ _ hX'
  have HX := Lib.hid qX'
  clear hX qX hX' qX' hx2 hgx HNL
  go_wp2_with fail
  refine (l01Below_any b _ _ hc2 (by decide) (by decide)).mono ?_
  rintro e w3 ⟨x3, hx3, _, rfl, hc3, hg3⟩
  have hx3 := hx3 (by decide)
  obtain ⟨Y0, hY, qY⟩ := quarter (n := (x3 : Int) - 4) (by omega)
  have qy := fun W => run_float_arith (P := Tryz.prog) W .quo 25 .f32 _ _ _ hY
  obtain ⟨Y, hY', qY'⟩ := gain_y HA.out qY (by omega) (by omega)
  have qy' := fun W => run_float_arith (P := Tryz.prog) W .mul 25 .f32 _ _ _ hY'
  have HY := Lib.hid qY'
  clear hY qY hY' qY'
  go_wp2_with fail
  refine (l01Below_any b _ _ hc3 (by decide) (by decide)).mono ?_
  rintro e w4 ⟨x4, hx4, _, rfl, hc4, hg4⟩
  have hx4 := hx4 (by decide)
  obtain ⟨O, hO, qO⟩ := eighth (n := (x4 : Int) - 32) (by omega)
  have qo := fun W => run_float_arith (P := Tryz.prog) W .quo 25 .f32 _ _ _ hO
  have HO := Lib.hid qO
  clear hO qO
  have hg := ((hg1.trans hg2).trans hg3).trans hg4
  have hB : w4.heap[w.heap.size]? = some (.cells #[.float .f32 0, .float .f32 0, .complex .f32 0 0] 28 (0, 0)) := (hg.block _ hsA (by intro h; cases h; omega)).trans HN.out
  have c0 : w4.cell? ⟨w.heap.size, 0, none⟩ = some (.float .f32 0) := by simp [World.cell?, hB]
  have c1 : w4.cell? ⟨w.heap.size, 1, none⟩ = some (.float .f32 0) := by simp [World.cell?, hB]
  have c2 : w4.cell? ⟨w.heap.size, 2, none⟩ = some (.complex .f32 0 0) := by simp [World.cell?, hB]
  have f0 : w4.frozen? ⟨w.heap.size, 0, none⟩ = false := by simp [World.frozen?, hB]
  have f1 : w4.frozen? ⟨w.heap.size, 1, none⟩ = false := by simp [World.frozen?, hB]
  have f2 : w4.frozen? ⟨w.heap.size, 2, none⟩ = false := by simp [World.frozen?, hB]
  have hB2 := heap_put (i := 2) (v := .complex .f32 X Y) (heap_put (i := 1) (v := .float .f32 O) (heap_put (i := 0) (v := .float .f32 A) hB))
  have hgr := grown_set (grown_set (grown_set (hgA.trans hg) (p := ⟨w.heap.size, 0, none⟩) (Nat.le_refl _) (.float .f32 A)) (p := ⟨w.heap.size, 1, none⟩) (Nat.le_refl _) (.float .f32 O)) (p := ⟨w.heap.size, 2, none⟩) (Nat.le_refl _) (.complex .f32 X Y)
  have hcr := ((hc4.set (p := ⟨w.heap.size, 0, none⟩) hlt (.float .f32 A)).set (p := ⟨w.heap.size, 1, none⟩) hlt (.float .f32 O)).set (p := ⟨w.heap.size, 2, none⟩) hlt (.complex .f32 X Y)
  have HPC := Lib.hid (show LinkH ⟨A, O, X, Y⟩ from ⟨_, _, _, _, HX1.out, HX2.out, by omega, by omega, HA.out, HO.out, HX.out, HY.out⟩)
  clear hB hc1 hc2 hc3 hc4 hg1 hg2 hg3 hg4 hg hgA hcA
  have HB := Lib.hid hB2
  clear hB2
  go_wp2
  generalize (((w4.setCell ⟨w.heap.size, 0, none⟩ (.float .f32 A)).setCell ⟨w.heap.size, 1, none⟩ (.float .f32 O)).setCell ⟨w.heap.size, 2, none⟩ (.complex .f32 X Y)) = w5 at *
  have d0 : w5.cell? ⟨w.heap.size, 0, none⟩ = some (.float .f32 A) := by have := HB.out; simp [World.cell?, this]
  have d1 : w5.cell? ⟨w.heap.size, 1, none⟩ = some (.float .f32 O) := by have := HB.out; simp [World.cell?, this]
  have d2 : w5.cell? ⟨w.heap.size, 2, none⟩ = some (.complex .f32 X Y) := by have := HB.out; simp [World.cell?, this]
  refine bodyPost_ret (v := .agg #[.float .f32 A, .float .f32 O, .complex .f32 X Y]) ?_ rfl ⟨A, O, X, Y, HPC.out, rfl, hcr, hgr⟩
  simp [results, Tryz.results25, go_sem, d0, d1, d2]
structure LinkP (w w' : World) (W g cap base : Nat) (rs : List (List C3)) (ss : List SV) (A O X Y : Nat) : Prop where
  wide1 : 1 ≤ W ∧ W ≤ 4
  high : rs.length = 4 ∨ rs.length = 8
  chan : LinkH ⟨A, O, X, Y⟩
  baseL : w.heap.size ≤ base
  grid : GridC w' base (.slice (some ⟨g, 0, none⟩) rs.length cap) rs ss
  done : DoneL rs W rs.length 0
  wide : ∀ r ∈ rs, r.length = W
  below : Below w.heap.size w w'
def DrawLk (w : World) (e : Ending) (w' : World) : Prop := ∃ W g cap base rs ss A O X Y, LinkP w w' W g cap base rs ss A O X Y ∧ e = .returned (.tuple #[.slice (some ⟨g, 0, none⟩) rs.length cap, .agg #[.float .f32 A, .float .f32 O, .complex .f32 X Y]])
set_option maxHeartbeats 1000000 in
theorem drawLink_any (a : Option Addr) (len cap : Nat) (w : World) (hs : Src w w.heap.size a len cap) :
    Calls Tryz.prog 6 #[.slice a len cap] w fun e w' => DrawLk w e w' := by
  have hR := HoldC.new w (A := 0) (O := 0) (X := 0) (Y := 0) (by decide)
  have hbR : Below w.heap.size w (w.alloc (.cells #[.float .f32 0, .float .f32 0, .complex .f32 0 0] 28)) := (Below.refl _ _).alloc (Nat.le_refl _) _
  have hszR : (w.alloc (.cells #[.float .f32 0, .float .f32 0, .complex .f32 0 0] 28)).heap.size = w.heap.size + 1 := by simp
  have HN := Lib.hid (l01New_any a len cap (w.alloc (.cells #[.float .f32 0, .float .f32 0, .complex .f32 0 0] 28)) (hs.below hbR (by omega)))
  have HR := Lib.hid hR
  clear hs hR
  go_enter Tryz.func6, Tryz.ntmps6
  go_wp2_with fail
  generalize w.alloc (.cells #[.float .f32 0, .float .f32 0, .complex .f32 0 0] 28) = wR at *
  refine HN.out.mono ?_
  rintro e w1 ⟨rfl, hc1, hg1⟩
  rw [hszR] at hc1
  go_wp2_with fail
  refine (l08Picture_any _ _ hc1).mono ?_
  rintro e w2 ⟨W, g, cp, rs, ss, hW, hH, rfl, hpl, hdl⟩
  have hgp := hpl.grown
  have hc2 := hpl.cur
  have HP := Lib.hid hpl
  have HD := Lib.hid hdl
  have HH := Lib.hid hH
  clear hpl hdl hH
  go_wp2_with fail
  refine (l08Channel_any _ _ hc2).mono ?_
  rintro e w3 ⟨A, O, X, Y, hp, rfl, hc3, hg3⟩
  have HC := Lib.hid hp
  have hlt1 := hc1.lt
  have HG3 := Lib.hid ((HP.out.next hlt1 hc3 hg3).grid)
  have hs1 : w.heap.size + 1 < w1.heap.size := hlt1
  have hR2 := ((HR.out.kept hg1 (by simp)).kept hgp (by intro e; have := Option.some.inj e; omega)).kept hg3 (by intro e; have := Option.some.inj e; omega)
  have HE := Lib.hid (hR2.put (A' := A) (O' := O) (X' := X) (Y' := Y) ⟨q_lt (Classical.choose_spec (Classical.choose_spec (Classical.choose_spec (Classical.choose_spec hp)))).2.2.2.2.2.2.1, q_lt (Classical.choose_spec (Classical.choose_spec (Classical.choose_spec (Classical.choose_spec hp)))).2.2.2.2.2.2.2⟩)
  have hb2 := below_trans hbR (drawn hg1 (hszR.symm ▸ hgp.trans hg3)) (by omega)
  have HB2 := Lib.hid (show Below w.heap.size w (putC w3 w.heap.size A O X Y) from ((hb2.setCell (p := ⟨w.heap.size, 0, none⟩) (Nat.le_refl _) _).setCell (p := ⟨w.heap.size, 1, none⟩) (Nat.le_refl _) _).setCell (p := ⟨w.heap.size, 2, none⟩) (Nat.le_refl _) _)
  have HG4 := Lib.hid (show GridC (putC w3 w.heap.size A O X Y) w1.heap.size (.slice (some ⟨g, 0, none⟩) rs.length cp) rs ss from HG3.out.kept (row := some w.heap.size) (((Lib.grownBy_setCell w3 w.heap.size 0 _).trans (Lib.grownBy_setCell _ w.heap.size 1 _)).trans (Lib.grownBy_setCell _ w.heap.size 2 _)) (fun r e => by cases e; left; omega))
  obtain ⟨r0, r1, r2, s0, s1, s2⟩ := hR2.all
  clear hp hR2 HR hb2 hbR hg1 hgp hg3 hc1 hc2 hc3 HN HG3
  go_wp2
  unfold putC at HE HB2 HG4
  generalize (((w3.setCell ⟨w.heap.size, 0, none⟩ (.float .f32 A)).setCell ⟨w.heap.size, 1, none⟩ (.float .f32 O)).setCell ⟨w.heap.size, 2, none⟩ (.complex .f32 X Y)) = w9 at *
  obtain ⟨d0, d1, d2, _, _, _⟩ := HE.out.all
  refine bodyPost_ret (v := .tuple #[.slice (some ⟨g, 0, none⟩) rs.length cp, .agg #[.float .f32 A, .float .f32 O, .complex .f32 X Y]]) ?_ rfl ⟨W, g, cp, w1.heap.size, rs, ss, A, O, X, Y, ⟨hW, HH.out, HC.out, by omega, HG4.out, HD.out, HP.out.wide, HB2.out⟩, rfl⟩
  simp [results, Tryz.results6, go_sem, d0, d1, d2]
end Go.Proofs.YtobpnoiienpipaaGreat
