/-
  What is proved: the pictures of paired rows that the model draws: plain rows, which may be written.
  Conditions: the cursor's block holds a cursor.
-/
import Derived.Test.YtobpnoiienpipaaGreatPz20
namespace Go.Proofs.YtobpnoiienpipaaGreat
set_option linter.unusedVariables false
open Go.RowKit
attribute [local go_sem] run_store_float run_store_complex unary_negf neg256

/-- The colours of a row. -/
def cols (cs : List C3) : List (Nat × Nat) := cs.map (·.2)
/-- Rows r that are 2 or 3 modulo 4 have the colours of the rows r - 2. -/
def PairL (rs : List (List C3)) : Prop := ∀ r, 2 ≤ r % 4 → r < rs.length → cols (rs.getD r []) = cols (rs.getD (r - 2) [])
structure PO (w wr : World) (b W g cap : Nat) (rs : List (List C3)) (ss : List SV) : Prop where
  grid : GridC wr w.heap.size (.slice (some ⟨g, 0, none⟩) rs.length cap) rs ss
  cur : Cur wr b
  grown : w.grownBy wr (some b)
  wide : ∀ r ∈ rs, r.length = W
  plain : ∀ r ∈ rs, PlainR r
  pair : PairL rs
theorem PO.start (w : World) (b W : Nat) (hc : Cur w b) : PO w (w.alloc (.cells #[] 40)) b W w.heap.size 0 [] [] :=
  ⟨GridC.nil w, hc.alloc _, World.grownBy_alloc w _ _, (fun r h => by cases h), (fun r h => by cases h), fun r _ h => absurd h (Nat.not_lt_zero _)⟩
theorem PO.next {w wr w' : World} {b W g cap : Nat} {rs : List (List C3)} {ss : List SV} (h : PO w wr b W g cap rs ss) (hb : b < w.heap.size) (hc : Cur w' b) (hg : wr.grownBy w' (some b)) : PO w w' b W g cap rs ss :=
  ⟨h.grid.kept hg (fun r e => by cases e; exact .inl hb), hc, h.grown.trans hg, h.wide, h.plain, h.pair⟩
theorem getD_lt {α : Type} {l : List α} {d : α} {i : Nat} (h : i < l.length) : l.getD i d = l[i] := by
  rw [List.getD_eq_getElem?_getD, List.getElem?_eq_getElem h]; rfl
theorem getD_app {α : Type} {l : List α} {x d : α} {i : Nat} (h : i < l.length) : (l ++ [x]).getD i d = l.getD i d := by
  rw [getD_lt h, getD_lt (by rw [List.length_append]; omega), List.getElem_append_left h]
theorem getD_end {α : Type} {l : List α} {x d : α} : (l ++ [x]).getD l.length d = x := by
  rw [getD_lt (by simp)]; simp
theorem PairL.snoc {rs : List (List C3)} {cs : List C3} (h : PairL rs) (hc : 2 ≤ rs.length % 4 → cols cs = cols (rs.getD (rs.length - 2) [])) : PairL (rs ++ [cs]) := by
  intro r h2 hr
  rw [List.length_append, List.length_singleton] at hr
  by_cases e : r < rs.length
  · rw [getD_app e, getD_app (by omega)]; exact h r h2 e
  · have e' : r = rs.length := by omega
    subst e'
    rw [getD_end, getD_app (by omega)]
    exact hc h2
theorem take_cols {ds cs : List C3} {y u v : Nat} (hc : cols cs = (cols ds).take cs.length) (hk : cs.length < ds.length) (e : ds[cs.length].2 = (u, v)) : cols (cs ++ [(y, u, v)]) = (cols ds).take (cs ++ [(y, u, v)]).length := by
  have hl : cs.length < (cols ds).length := by unfold cols; rw [List.length_map]; exact hk
  unfold cols at hl ⊢
  rw [List.map_append, List.length_append, List.length_singleton, List.take_succ_eq_append_getElem hl]
  unfold cols at hc
  rw [← hc, List.getElem_map, e]
  rfl
theorem PO.app {w wo wi w' : World} {b W g cap g2 cap2 ig icap : Nat} {rs : List (List C3)} {ss : List SV} {cs : List C3} (h : PO w wo b W g cap rs ss) (hb : b < w.heap.size) (hi : InRow wo wi b ig icap cs) (hcs : cs.length = W) (hp : PlainR cs) (hpair : 2 ≤ rs.length % 4 → cols cs = cols (rs.getD (rs.length - 2) []))
    (o : Obj) (ho : LSc.Own w' w.heap.size (.slice (some ⟨g2, 0, none⟩) (rs.length + 1) cap2) (ss ++ [(some ⟨ig, 0, none⟩, cs.length, icap)])) (hg : (wi.alloc o).grownBy w' (some g)) (hor : g2 = g ∨ wi.heap.size < g2) : PO w w' b W g2 cap2 (rs ++ [cs]) (ss ++ [(some ⟨ig, 0, none⟩, cs.length, icap)]) := by
  have hg1 := h.grid.own.lt g rfl
  have hii := hi.own.lt ig rfl
  have hgrid := h.grid.kept hi.grown (fun r e => by cases e; exact .inl hb)
  have hgr : wi.grownBy w' (some g) := putGrown (World.grownBy.refl _ _) (Nat.le_refl _) hg (.inl rfl)
  have hsz := hi.grown.size
  have hbs := hi.cur.lt
  have hws := h.grown.size
  have hrow : OwnC w' w.heap.size (.slice (some ⟨ig, 0, none⟩) cs.length icap) cs := (Lay.Own.kept (L := LC) hi.own hgr (.inr (by intro e; have := Option.some.inj e; simp at this; omega))).mono hws
  have hapart := h.grid.own.lt g rfl
  -- the row's block is newer than all that the picture has
  have hnew : wo.heap.size ≤ ig := hii.1
  have hgrid' : GridC w' w.heap.size (.slice (some ⟨g2, 0, none⟩) (rs.length + 1) cap2) (rs ++ [cs]) (ss ++ [(some ⟨ig, 0, none⟩, cs.length, icap)]) := by
    have h0 := h.grid
    have hlt0 : ∀ i (hi : i < ss.length) k, ss[i].v.ownBlock = some k → k < wo.heap.size := fun i hi k e => ((h0.row i hi (by rw [← h0.len]; exact hi)).lt k e).2
    have hl := h0.len
    refine ⟨ho, by simp [hl], fun i h1 h2 => ?_, fun i j h1 h2 hij k hk' => ?_, fun i h1 k hk' => ?_⟩
    · by_cases hi' : i < ss.length
      · rw [List.getElem_append_left hi', List.getElem_append_left (by omega)]
        exact Lay.Own.turn (L := LC) (hgrid.row i hi' (by omega)) (Turn.grown hgr) (fun k e e' => hgrid.out i hi' k e e')
      · have e : i = ss.length := by simp at h1; omega
        subst e
        rw [List.getElem_append_right (by omega), List.getElem_append_right (by omega)]
        simp only [hl, Nat.sub_self, List.getElem_cons_zero]
        exact hrow
    · by_cases hi' : i < ss.length
      · rw [List.getElem_append_left hi'] at hk'
        by_cases hj : j < ss.length
        · rw [List.getElem_append_left hj]; exact h0.apart i j hi' hj hij k hk'
        · rw [List.getElem_append_right (by omega)]
          intro e
          have e0 : j - ss.length = 0 := by simp at h2; omega
          simp only [e0, List.getElem_cons_zero] at e
          have e1 : ig = k := Option.some.inj e
          have := hlt0 i hi' k hk'
          omega
      · rw [List.getElem_append_right (by omega)] at hk'
        have e0 : i - ss.length = 0 := by simp at h1; omega
        simp only [e0, List.getElem_cons_zero] at hk'
        have e1 : ig = k := Option.some.inj hk'
        by_cases hj : j < ss.length
        · rw [List.getElem_append_left hj]
          intro e
          have := hlt0 j hj k e
          omega
        · simp at h1 h2; omega
    · by_cases hi' : i < ss.length
      · rw [List.getElem_append_left hi'] at hk'
        have hlk := hlt0 i hi' k hk'
        rcases hor with rfl | h6
        · exact h0.out i hi' k hk'
        · intro e; have e2 : g2 = k := Option.some.inj e; omega
      · rw [List.getElem_append_right (by omega)] at hk'
        have e0 : i - ss.length = 0 := by simp at h1; omega
        simp only [e0, List.getElem_cons_zero] at hk'
        have e1 : ig = k := Option.some.inj hk'
        intro e
        have e2 : g2 = k := Option.some.inj e
        rcases hor with rfl | h6
        · omega
        · omega
  refine ⟨by rw [List.length_append]; exact hgrid', hi.cur.grown hgr (fun r e => by cases e; omega), grown_own (h.grown.trans hi.grown) hgr (fun r e => by cases e; omega), fun r hr => ?_, fun r hr => ?_, h.pair.snoc hpair⟩
  · rcases List.mem_append.1 hr with hr | hr
    · exact h.wide r hr
    · rw [List.mem_singleton.1 hr]; exact hcs
  · rcases List.mem_append.1 hr with hr | hr
    · exact h.plain r hr
    · rw [List.mem_singleton.1 hr]; exact hp
theorem row_lits (w : World) (o : Obj) (y u v : Nat) : RowV ((w.alloc o).alloc (.cells #[.float .f32 y, .complex .f32 u v] 61)) (.slice (some ⟨w.heap.size + 1, 0, none⟩) 1 1) [(y, u, v)] := by
  have h1 := row_lit (w.alloc o) y u v
  rwa [World.size_alloc] at h1
def PairedO (b : Nat) (w : World) (e : Ending) (w' : World) : Prop := ∃ W g cap rs ss, (1 ≤ W ∧ W ≤ 4) ∧ (rs.length = 4 ∨ rs.length = 8) ∧ e = .returned (.slice (some ⟨g, 0, none⟩) rs.length cap) ∧ PO w w' b W g cap rs ss
theorem PairedO.mk {b W g cap : Nat} {w w' : World} {rs : List (List C3)} {ss : List SV} (h1 : 1 ≤ W ∧ W ≤ 4) (h2 : rs.length = 4 ∨ rs.length = 8) (h : PO w w' b W g cap rs ss) : PairedO b w (.returned (.slice (some ⟨g, 0, none⟩) rs.length cap)) w' := ⟨W, g, cap, rs, ss, h1, h2, rfl, h⟩
set_option maxHeartbeats 4000000 in
set_option maxRecDepth 100000 in
theorem l02PairedO_any (b : Nat) (w : World) (hc : Cur w b) :
    Calls Tryz.prog 52 #[.pointer (some ⟨b, 0, none⟩)] w fun e w' => PairedO b w e w' := by
  have hlt := hc.lt
  have HS := Lib.hid (fun W => PO.start w b W hc)
  clear hc
  go_enter Tryz.func52, Tryz.ntmps52
  go_wp2_with fail
  refine (l01Below_any b _ _ (HS.out 0).cur (by decide) (by decide)).mono ?_
  rintro e w1 ⟨x, hx, _, rfl, hc1, hg1⟩
  have hx := hx (by decide)
  have HS1 := Lib.hid (fun W => (HS.out W).next hlt hc1 hg1)
  clear HS hc1 hg1
  go_wp2_with fail
  refine (l01Below_any b _ _ (HS1.out 0).cur (by decide) (by decide)).mono ?_
  rintro e w2 ⟨y, hy, _, rfl, hc2, hg2⟩
  have hy := hy (by decide)
  have HS2 := Lib.hid (fun W => (HS1.out W).next hlt hc2 hg2)
  clear HS1 hc2 hg2
  go_wp2
  obtain ⟨W, hW⟩ : ∃ W : Nat, W = 1 + x := ⟨_, rfl⟩
  have hW1 : (1 : Int) + (x : Int) = (W : Int) := by omega
  have hWr : 1 ≤ W ∧ W ≤ 4 := by omega
  obtain ⟨H, hH⟩ : ∃ H : Nat, H = 4 * (1 + y) := ⟨_, rfl⟩
  have hH1 : (4 : Int) * (1 + (y : Int)) = (H : Int) := by omega
  have hHr : H = 4 ∨ H = 8 := by omega
  have hHs : H ≤ 8 := by omega
  have HHR := Lib.hid hHr
  have HP := Lib.hid (HS2.out W)
  clear HS2 hHr
  try simp only [hW1, hH1]
  clear hW1 hH1 hW hH hx hy
  go_loopw [3, 6] (fun out r wr => ∃ (g cap : Nat) (rs : List (List C3)) (ss : List SV), rs.length ≤ H ∧ out = .slice (some ⟨g, 0, none⟩) rs.length cap ∧ r = .int .i64 (rs.length : Int) ∧ PO w wr b W g cap rs ss) (fun _ r _ => H - (intOf r).toNat)
  case atStart => exact ⟨_, 0, [], [], Nat.zero_le _, rfl, rfl, HP.out⟩
  case round =>
    obtain ⟨g, cap, rs, ss, hrl, rfl, rfl, hr⟩ := hrel
    have HR := Lib.hid hr
    clear hr HP
    by_cases hlr : rs.length < H
    · obtain ⟨ws, rfl⟩ : ∃ ws, ws = wr := ⟨_, rfl⟩
      have hs0 := HR.out.grown.size
      have hltr : b < ws.heap.size := by omega
      have HI := Lib.hid (InRow.start HR.out.cur)
      go_wp2
      go_loopw [7, 8] (fun row i wi => ∃ (ig icap : Nat) (cs : List C3), cs.length ≤ W ∧ row = .slice (some ⟨ig, 0, none⟩) cs.length icap ∧ i = .int .i64 (cs.length : Int) ∧ InRow ws wi b ig icap cs ∧ PlainR cs ∧ (2 ≤ rs.length % 4 → cols cs = (cols (rs.getD (rs.length - 2) [])).take cs.length)) (fun _ i _ => W - (intOf i).toNat)
      case atStart => exact ⟨_, 0, [], Nat.zero_le _, rfl, rfl, HI.out, (fun c h => by cases h), fun _ => rfl⟩
      case round =>
        obtain ⟨ig, icap, cs, hcl, rfl, rfl, hir, hpl, hpr⟩ := hrel
        have HIR := Lib.hid hir
        have HPL := Lib.hid hpl
        have HPR := Lib.hid hpr
        clear hir HI hpl hpr
        by_cases hlc : cs.length < W
        · go_wp2_with fail
          refine (l02Plain_any b _ HIR.out.cur).mono ?_
          rintro e w3 ⟨py, pu, pz, qa, qb, qd, hpc, rfl, hc3, hg3⟩
          have hi3 := HIR.out.next hltr hc3 hg3
          have HI3 := Lib.hid hi3
          have HI4 := Lib.hid (fun o => HI3.out.far (w' := w3.alloc o) hltr (Nat.le_refl _) (.inl (World.grownBy_alloc w3 o none)))
          have HAP := Lib.hid (fun c (o o' : Obj) (w6 : World) (g6 cap6 : Nat) h1 h2 => (HI4.out o').app (c := c) (w' := w6) (g6 := g6) (cap6 := cap6) hltr o h1 h2)
          have hbase := hi3.grown.size
          have HPC := Lib.hid hpc
          by_cases hr4 : rs.length % 4 < 2
          · have hd : decide (2 ≤ (rs.length : Int) % 4) = false := by simp; omega
            have HL := Lib.hid (row_lits w3 (.cells #[.float .f32 py, .complex .f32 pu pz] 61) py pu pz)
            have HNR := Lib.hid (show ¬ 2 ≤ rs.length % 4 by omega)
            clear hi3 hc3 hg3 hpc HIR hr4
            go_wp2_with (at_builtin; refine own_append rfl (.tmp 44) (.tmp 46) rfl ws.heap.size (.slice (some ⟨ig, 0, none⟩) cs.length icap) cs [(py, pu, pz)] rfl ((HI4.out _).own.alloc _) _ _ _ rfl HL.out (by simp) (by simp; omega) (by simp; omega) ?_; intro g6 cap6 w6 ho6 hg6 hor6 hlt6)
            have HF := Lib.hid (HAP.out _ _ _ w6 g6 cap6 ho6 hg6)
            clear ho6 hg6 hor6 hlt6 hd
            go_roundw
            case rel => exact ⟨g6, cap6, cs ++ [(py, pu, pz)], by simp; omega, by simp, by simp, HF.out, HPL.out.snoc HPC.out, fun h => absurd h HNR.out⟩
            case measure => simp [intOf]; omega
          · have hd : decide (2 ≤ (rs.length : Int) % 4) = true := by simp; omega
            have hp3 := HR.out.next hlt hi3.cur hi3.grown
            have hr2 : rs.length - 2 < rs.length := by omega
            have hw2 := hp3.wide rs[rs.length - 2] (List.getElem_mem hr2)
            have hlw : cs.length < (rs[rs.length - 2]).length := by omega
            obtain ⟨gr, cr, k0, hcr, ky, k1, kf, kg, kb, kn⟩ := hp3.grid.cell hr2 hlw
            clear ky kf kg kb kn
            obtain ⟨qa', qb', qd', hpc2⟩ := hp3.plain _ (List.getElem_mem hr2) _ (List.getElem_mem hlw)
            obtain ⟨cu, cz, hcc⟩ : ∃ u z, (rs[rs.length - 2])[cs.length].2 = (u, z) := ⟨_, _, rfl⟩
            have hPCN : PC (py, cu, cz) qa qb' qd' := by
              have e1 : (rs[rs.length - 2])[cs.length].2.1 = cu := by rw [hcc]
              have e2 : (rs[rs.length - 2])[cs.length].2.2 = cz := by rw [hcc]
              obtain ⟨_, p2, p3, _, p5, p6⟩ := hpc2
              obtain ⟨p1, _, _, p4, _, _⟩ := HPC.out
              exact ⟨p1, by rw [← e1]; exact p2, by rw [← e2]; exact p3, p4, p5, p6⟩
            have HPN := Lib.hid hPCN
            have HCN := Lib.hid (show 2 ≤ rs.length % 4 → cols (cs ++ [(py, cu, cz)]) = (cols (rs.getD (rs.length - 2) [])).take (cs ++ [(py, cu, cz)]).length from fun h => by
              have h0 := HPR.out h
              rw [getD_lt hr2] at h0 ⊢
              exact take_cols h0 hlw hcc)
            rw [hcc] at k1
            simp only at k1
            have hcrw : W ≤ cr := by omega
            rw [hw2] at k0
            have hbA := (Below.refl w3.heap.size w3).alloc (Nat.le_refl _) (.cells #[.float .f32 py, .complex .f32 pu pz] 61)
            have m0 := (grown_of hbA).cell k0 (by simp)
            have m1 := (grown_of hbA).cell k1 (by simp)
            have hs1 : ((rs.length : Int) - 2) = ((rs.length - 2 : Nat) : Int) := by omega
            have HL := Lib.hid (row_lits w3 (.cells #[.float .f32 py, .complex .f32 cu cz] 61) py cu cz)
            clear hi3 hc3 hg3 HIR hr4 k0 k1 hp3 hbA hPCN hpc2 hcc hlw hw2 hpc hcr
            go_wp2_with (at_builtin; refine own_append rfl (.tmp 44) (.tmp 46) rfl ws.heap.size (.slice (some ⟨ig, 0, none⟩) cs.length icap) cs [(py, cu, cz)] rfl ((HI4.out _).own.alloc _) _ _ _ rfl HL.out (by simp) (by simp; omega) (by simp; omega) ?_; intro g6 cap6 w6 ho6 hg6 hor6 hlt6)
            have HF := Lib.hid (HAP.out _ _ _ w6 g6 cap6 ho6 hg6)
            clear ho6 hg6 hor6 hlt6 hd hs1 m0 m1
            go_roundw
            case rel => exact ⟨g6, cap6, cs ++ [(py, cu, cz)], by simp; omega, by simp, by simp, HF.out, HPL.out.snoc HPN.out, HCN.out⟩
            case measure => simp [intOf]; omega
        · have hcw : cs.length = W := by omega
          have hp3 := HR.out.next hlt HIR.out.cur HIR.out.grown
          have hbase := hp3.grown.size
          have HO := Lib.hid (hp3.grid.own.alloc (.cells #[.slice (some ⟨ig, 0, none⟩) cs.length icap] 40))
          have HSL := Lib.hid (show ss.length = rs.length from hp3.grid.len)
          have HW2 := Lib.hid (fun (h : 2 ≤ rs.length % 4) => show cols cs = cols (rs.getD (rs.length - 2) []) from by
            have h0 := HPR.out h
            have hr2 : rs.length - 2 < rs.length := by omega
            have hw2 := hp3.wide rs[rs.length - 2] (List.getElem_mem hr2)
            rw [getD_lt hr2] at h0 ⊢
            rw [h0, List.take_of_length_le (by unfold cols; rw [List.length_map]; omega)])
          have HAP := Lib.hid (fun (o : Obj) (w6 : World) (g6 cap6 : Nat) h1 h2 h3 => HR.out.app (w' := w6) (g2 := g6) (cap2 := cap6) hlt HIR.out hcw HPL.out HW2.out o h1 h2 h3)
          have HLC := Lib.hid (lit_cells wr [.slice (some ⟨ig, 0, none⟩) cs.length icap] 40)
          clear hp3 hcw
          go_wp2_with (at_builtin; refine LSc_ok.snoc rfl (.tmp 48) (.tmp 50) rfl w.heap.size (.slice (some ⟨g, 0, none⟩) rs.length cap) ss rs.length rfl HO.out HSL.out _ rfl (some ⟨ig, 0, none⟩, cs.length, icap) HLC.out (by omega) (by simp; omega) ?_; intro g6 cap6 w6 ho6 hg6 hor6 hlt6)
          have HF := Lib.hid (HAP.out _ w6 g6 cap6 ho6 hg6 (by
            rcases hor6 with h | h
            · exact .inl (Option.some.inj h).symm
            · simp at h; exact .inr (by omega)))
          clear ho6 hg6 hor6 hlt6
          go_roundw
          case rel => exact ⟨g6, cap6, rs ++ [cs], _, by simp; omega, by simp, by simp, HF.out⟩
          case measure => simp [intOf]; omega
    · have hrh : rs.length = H := by omega
      have HH := Lib.hid hrh
      clear hrh
      go_wp2
      go_ret
      exact PairedO.mk hWr (by rw [HH.out]; exact HHR.out) HR.out
end Go.Proofs.YtobpnoiienpipaaGreat

/-
  What is proved: pictures of which one cell is written; what a link can carry.
  Conditions: those that each fact names.
-/
namespace Go.Proofs.YtobpnoiienpipaaGreat
set_option linter.unusedVariables false
open Go.RowKit

/-- A cell of a picture. -/
def at2 (rs : List (List C3)) (r i : Nat) : C3 := (rs.getD r []).getD i (0, 0, 0)
def put2 (rs : List (List C3)) (r i : Nat) (c : C3) : List (List C3) := rs.set r ((rs.getD r []).set i c)
theorem at2_of {rs : List (List C3)} {r i : Nat} (hr : r < rs.length) (hi : i < rs[r].length) : at2 rs r i = rs[r][i] := by
  unfold at2; rw [getD_lt hr, getD_lt hi]
theorem put2_len (rs : List (List C3)) (r i : Nat) (c : C3) : (put2 rs r i c).length = rs.length := by unfold put2; rw [List.length_set]
theorem put2_wide {rs : List (List C3)} {W r i : Nat} {c : C3} (h : ∀ x ∈ rs, x.length = W) (hr : r < rs.length) : ∀ x ∈ put2 rs r i c, x.length = W := by
  intro x hx
  unfold put2 at hx
  rcases List.mem_or_eq_of_mem_set hx with hx | rfl
  · exact h x hx
  · rw [List.length_set, getD_lt hr]; exact h _ (List.getElem_mem hr)
theorem getD_set_self {α : Type} {l : List α} {x d : α} {i : Nat} (h : i < l.length) : (l.set i x).getD i d = x := by
  rw [getD_lt (by rw [List.length_set]; exact h), List.getElem_set_self]
theorem getD_set_ne {α : Type} {l : List α} {x d : α} {i j : Nat} (h : j ≠ i) : (l.set i x).getD j d = l.getD j d := by
  rw [List.getD_eq_getElem?_getD, List.getElem?_set_ne (fun e => h e.symm), ← List.getD_eq_getElem?_getD]
theorem put2_at {rs : List (List C3)} {r i : Nat} {c : C3} (hr : r < rs.length) (hi : i < rs[r].length) (r' i' : Nat) : at2 (put2 rs r i c) r' i' = if r' = r ∧ i' = i then c else at2 rs r' i' := by
  unfold at2 put2
  by_cases e : r' = r
  · subst e
    rw [getD_set_self hr]
    by_cases e2 : i' = i
    · subst e2
      rw [if_pos ⟨rfl, rfl⟩, getD_set_self (by rw [getD_lt hr]; exact hi)]
    · rw [if_neg (fun h => e2 h.2), getD_set_ne e2]
  · rw [if_neg (fun h => e h.1), getD_set_ne e]
theorem put2_put {rs : List (List C3)} {r i : Nat} {c d : C3} (hr : r < rs.length) : put2 (put2 rs r i c) r i d = put2 rs r i d := by
  unfold put2
  rw [getD_set_self hr, List.set_set, List.set_set]
/-- A cell that a link carries: the brightness from 0 to 60, the parts of the colour of an amount of 2 at most, all of them sixteenths. -/
def LinkC (c : C3) : Prop := ∃ a b d : Int, Flt.Sx c.1 a ∧ Flt.Sx c.2.1 b ∧ Flt.Sx c.2.2 d ∧ (0 ≤ a ∧ a ≤ 960) ∧ b.natAbs ≤ 32 ∧ d.natAbs ≤ 32
/-- Is cell (r', i') written ahead of cell (r, i)? -/
def Ahead (r i r' i' : Nat) : Prop := r' < r ∨ (r' = r ∧ i' < i)
/-- The cells ahead of (r, i) are such as a link carries, and paired. -/
structure DoneL (rs : List (List C3)) (W r i : Nat) : Prop where
  link : ∀ r' i', r' < rs.length → i' < W → Ahead r i r' i' → LinkC (at2 rs r' i')
  pair : ∀ r' i', r' < rs.length → i' < W → Ahead r i r' i' → 2 ≤ r' % 4 → (at2 rs r' i').2 = (at2 rs (r' - 2) i').2
theorem DoneL.start (rs : List (List C3)) (W : Nat) : DoneL rs W 0 0 :=
  ⟨fun r' i' _ _ h => by rcases h with h | ⟨_, h⟩ <;> omega, fun r' i' _ _ h => by rcases h with h | ⟨_, h⟩ <;> omega⟩
theorem ahead_prev {r i r' i' : Nat} (h : Ahead r (i + 1) r' i') (e : ¬(r' = r ∧ i' = i)) : Ahead r i r' i' := by
  rcases h with h | ⟨h, h2⟩
  · exact .inl h
  · exact .inr ⟨h, by omega⟩
theorem DoneL.next {rs : List (List C3)} {W r i : Nat} {c : C3} (h : DoneL rs W r i) (hw : ∀ x ∈ rs, x.length = W) (hr : r < rs.length) (hi : i < W) (hc : LinkC c) (hp : 2 ≤ r % 4 → c.2 = (at2 rs (r - 2) i).2) : DoneL (put2 rs r i c) W r (i + 1) := by
  have hil : i < rs[r].length := by rw [hw _ (List.getElem_mem hr)]; exact hi
  refine ⟨fun r' i' h1 h2 h3 => ?_, fun r' i' h1 h2 h3 h4 => ?_⟩
  · rw [put2_len] at h1
    rw [put2_at hr hil]
    by_cases e : r' = r ∧ i' = i
    · rw [if_pos e]; exact hc
    · rw [if_neg e]; exact h.link r' i' h1 h2 (ahead_prev h3 e)
  · rw [put2_len] at h1
    have hb : ¬ (r' - 2 = r ∧ i' = i) := fun e => by rcases h3 with h3 | ⟨h3, h5⟩ <;> omega
    rw [put2_at hr hil, put2_at hr hil (r' - 2), if_neg hb]
    by_cases e : r' = r ∧ i' = i
    · rw [if_pos e, e.1, e.2]
      rw [e.1] at h4
      exact hp h4
    · rw [if_neg e]
      exact h.pair r' i' h1 h2 (ahead_prev h3 e) h4
theorem ahead_row {W r r' i' : Nat} (h2 : i' < W) (h : Ahead (r + 1) 0 r' i') : Ahead r W r' i' := by
  rcases h with h | ⟨h, h5⟩
  · by_cases e : r' = r
    · exact .inr ⟨e, h2⟩
    · exact .inl (by omega)
  · omega
theorem DoneL.row {rs : List (List C3)} {W r : Nat} (h : DoneL rs W r W) : DoneL rs W (r + 1) 0 :=
  ⟨fun r' i' h1 h2 h3 => h.link r' i' h1 h2 (ahead_row h2 h3), fun r' i' h1 h2 h3 h4 => h.pair r' i' h1 h2 (ahead_row h2 h3) h4⟩
/-- One cell of one row is written. -/
theorem GridC.put2 {w : World} {base g n cap r i gr cr nr : Nat} {rs : List (List C3)} {ss : List SV} {c : C3} (h : GridC w base (.slice (some ⟨g, 0, none⟩) n cap) rs ss) (hr : r < rs.length) (hi : i < rs[r].length)
    (hc : w.cell? ⟨g, r, none⟩ = some (.slice (some ⟨gr, 0, none⟩) nr cr)) : GridC ((w.setCell ⟨gr, i * 2, none⟩ (.float .f32 c.1)).setCell ⟨gr, i * 2 + 1, none⟩ (.complex .f32 c.2.1 c.2.2)) base (.slice (some ⟨g, 0, none⟩) n cap) (put2 rs r i c) ss := by
  have hs : r < ss.length := by rw [h.len]; exact hr
  obtain ⟨a, c', h1, h2⟩ := rowsC_any h.own.row
  obtain ⟨g1, o1, e, _, hcell⟩ := h2 r hs
  subst e
  have e1 : g1 = g ∧ o1 = 0 := by injection h1 with x1; injection x1 with x1; injection x1 with x1 x2; exact ⟨x1.symm, x2.symm⟩
  obtain ⟨rfl, rfl⟩ := e1
  rw [Nat.zero_add, hc] at hcell
  have hv : ss[r].v = .slice (some ⟨gr, 0, none⟩) nr cr := (Option.some.inj hcell).symm
  have hrow := h.row r hs hr
  rw [hv] at hrow
  have hb : ss[r].v.ownBlock = some gr := by rw [hv]; rfl
  unfold Go.Proofs.YtobpnoiienpipaaGreat.put2
  rw [getD_lt hr]
  refine h.put hs (by rw [hb]; exact (Lib.grownBy_setCell w gr (i * 2) _).trans (Lib.grownBy_setCell _ gr (i * 2 + 1) _)) ?_
  rw [hv]
  have p1 := Lay.Own.put LC_ok (L := LC) (z := (c.1, rs[r][i].2)) hrow hi (show 0 < LC.size by decide) (show i * 2 = i * LC.size + 0 from rfl) (u := .float .f32 c.1) rfl
  have p2 := Lay.Own.put LC_ok (L := LC) (z := c) p1 (by rw [List.length_set]; exact hi) (show 1 < LC.size by decide) (show i * 2 + 1 = i * LC.size + 1 from rfl) (u := .complex .f32 c.2.1 c.2.2) (by rw [List.getElem_set_self]; rfl)
  rw [List.set_set] at p2
  exact p2
end Go.Proofs.YtobpnoiienpipaaGreat
