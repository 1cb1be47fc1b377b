/-
  What is proved: what the model draws for chapter 6: streams of lines, some without pulses.
  Conditions: the cursor's block holds a cursor; the bytes can be read.
-/
import Derived.Test.YtmelnpimoiipgaaSpecErase
import Derived.Test.YtmelnpimoiipgaaDrawLine
import Derived.Test.YtmelnpimoiipgaaDraw5
namespace Go.Proofs.Ytmelnpimoiipgaa
set_option linter.unusedVariables false
open Go.RowKit
attribute [local go_sem] run_store_float run_store_complex unary_negf neg256

def StreamP (b : Nat) (w : World) (e : Ending) (w' : World) : Prop := ∃ v ys, ∃ n : Nat, (ys.length ≤ 25000 ∧ 1 ≤ n ∧ n ≤ 3) ∧ e = .returned (.tuple #[v, .int .i64 (24 + 4 * (n : Int))]) ∧ FRow w' v ys ∧ Cur w' b ∧ w.grownBy w' (some b)
theorem StreamP.mk {b n : Nat} {x : Int} {w w' : World} {v : Value} {ys : List Nat} (hx : x = 24 + 4 * (n : Int)) (h : ys.length ≤ 25000 ∧ 1 ≤ n ∧ n ≤ 3) (hr : FRow w' v ys) (hc : Cur w' b) (hg : w.grownBy w' (some b)) : StreamP b w (.returned (.tuple #[v, .int .i64 x])) w' := by
  subst hx; exact ⟨v, ys, n, h, rfl, hr, hc, hg⟩
theorem box_facts {W : World} {x y u v : Nat} (h : W.heap[x]? = some (.cells #[.float .f32 y, .complex .f32 u v] 40 (0, 0))) : W.cell? ⟨x, 0, none⟩ = some (.float .f32 y) ∧ W.cell? ⟨x, 1, none⟩ = some (.complex .f32 u v) ∧ W.frozen? ⟨x, 0, none⟩ = false ∧ W.frozen? ⟨x, 1, none⟩ = false := by
  simp [World.cell?, World.frozen?, h]
/-- A row of the inner loop: the world of the outer one stays but for the cursor. -/
structure InRow (wo wr : World) (b g cap : Nat) (cs : List C3) : Prop where
  own : OwnC wr wo.heap.size (.slice (some ⟨g, 0, none⟩) cs.length cap) cs
  cur : Cur wr b
  grown : wo.grownBy wr (some b)
theorem InRow.start {wo : World} {b : Nat} (hc : Cur wo b) : InRow wo (wo.alloc (.cells #[] 40)) b wo.heap.size 0 [] :=
  ⟨OwnC.made0 wo, hc.alloc _, World.grownBy_alloc wo _ _⟩
theorem InRow.next {wo wr w' : World} {b g cap : Nat} {cs : List C3} (h : InRow wo wr b g cap cs) (hb : b < wo.heap.size) (hc : Cur w' b) (hg : wr.grownBy w' (some b)) : InRow wo w' b g cap cs := by
  have hge := (h.own.lt g rfl).1
  exact ⟨h.own.kept hg (.inr (by intro e; have := Option.some.inj e; simp at this; omega)), hc, h.grown.trans hg⟩
/-- What changes blocks that are newer than the row's changes nothing. -/
theorem InRow.far {wo wr w' : World} {b g cap x : Nat} {cs : List C3} (h : InRow wo wr b g cap cs) (hb : b < wo.heap.size) (hx : wr.heap.size ≤ x) (hg : wr.grownBy w' none ∨ wr.grownBy w' (some x)) : InRow wo w' b g cap cs := by
  have hge := h.own.lt g rfl
  have key : ∃ row, wr.grownBy w' row ∧ (∀ r, row = some r → wr.heap.size ≤ r) := by
    rcases hg with hg | hg
    · exact ⟨none, hg, fun r e => by cases e⟩
    · exact ⟨some x, hg, fun r e => by cases e; exact hx⟩
  obtain ⟨row, hg, hr⟩ := key
  refine ⟨h.own.kept hg (.inr ?_), h.cur.grown hg (fun r e => by have := hr r e; have := h.cur.lt; omega), grown_own h.grown hg (fun r e => by have := hr r e; have := h.grown.size; omega)⟩
  intro e
  have := hr g e.symm
  omega
theorem InRow.app {wo wr w' : World} {b g cap g6 cap6 : Nat} {cs : List C3} {c : C3} (h : InRow wo wr b g cap cs) (hb : b < wo.heap.size) (o : Obj) (hown : OwnC w' wo.heap.size (.slice (some ⟨g6, 0, none⟩) (cs.length + [c].length) cap6) (cs ++ [c])) (hg : (wr.alloc o).grownBy w' (some g)) : InRow wo w' b g6 cap6 (cs ++ [c]) := by
  have hge := h.own.lt g rfl
  refine ⟨by simpa using hown, (h.cur.alloc o).grown hg (fun r e => by cases e; omega), ?_⟩
  exact grown_own (h.grown.trans (World.grownBy_alloc wr o _)) hg (fun r e => by cases e; exact hge.1)
theorem snoc_len {α : Type} {xs : List α} {x : α} {n : Nat} (h : xs.length = n) : (xs ++ [x]).length = n + 1 := by simp [h]
set_option maxHeartbeats 16000000 in
set_option maxRecDepth 100000 in
theorem l06Stream_any (b : Nat) (w : World) (hc : Cur w b) :
    Calls Try.prog 53 #[.pointer (some ⟨b, 0, none⟩)] w fun e w' => StreamP b w e w' := by
  have hbw := hc.lt
  have HOW := Lib.hid (OwnF.made0 w)
  have hcA := hc.alloc (.cells #[] 25)
  have hgA := World.grownBy_alloc w (.cells #[] 25) (some b)
  have hsA : w.heap.size < (w.alloc (.cells #[] 25)).heap.size := by simp
  clear hc
  go_enter Try.func53, Try.ntmps53
  go_wp2_with fail
  generalize w.alloc (.cells #[] 25) = wA at *
  refine (l01Below_any _ _ _ hcA (by decide) (by decide)).mono ?_
  rintro e w1 ⟨nx, hnx, _, rfl, hc1, hg1⟩
  have hnx := hnx (by decide)
  go_wp2_with fail
  refine (l01Below_any _ _ _ hc1 (by decide) (by decide)).mono ?_
  rintro e w2 ⟨kx, hkx, _, rfl, hc2, hg2⟩
  have hkx := hkx (by decide)
  have hg02 := (hgA.trans hg1).trans hg2
  have HO2 := Lib.hid (HOW.out.kept (hg1.trans hg2) (.inr (by intro e; have := Option.some.inj e; simp at this; omega)))
  have hs2 : w.heap.size < w2.heap.size := by have h1 := hg1.size; have h2 := hg2.size; omega
  clear hcA hgA hc1 hg1 hg2 HOW
  go_wp2
  go_loopw [4, 6] (fun outv kv wr => ∃ (k g m cap : Nat) (ys : List Nat), k ≤ 6 ∧ kv = .int .i64 (k : Int) ∧ outv = .slice (some ⟨g, 0, none⟩) m cap ∧ ys.length = m ∧ m + k * 4101 ≤ 24606 ∧ OwnF wr w.heap.size (.slice (some ⟨g, 0, none⟩) m cap) ys ∧ Cur wr b ∧ w.grownBy wr (some b)) (fun _ kv _ => (intOf kv).toNat)
  case atStart => exact ⟨kx, _, 0, 0, [], by omega, rfl, rfl, rfl, by omega, HO2.out, hc2, hg02⟩
  case round =>
    obtain ⟨k, g, m, cap, ys, hk, rfl, rfl, hys, hm, ho, hcr, hgr⟩ := hrel
    have HO := Lib.hid (And.intro hys ho)
    have hgb : w.heap.size ≤ g := (ho.lt g rfl).1
    have hgs : g < wr.heap.size := (ho.lt g rfl).2
    have hsr : w.heap.size ≤ wr.heap.size := hgr.size
    have hbr : b < wr.heap.size := hcr.lt
    clear hys ho HO2 hc2 hg02
    by_cases hk0 : 0 < k
    · obtain ⟨wo, hwo⟩ : ∃ wo, wr = wo := ⟨_, rfl⟩
      rw [hwo] at HO hgs hsr hbr hcr hgr ⊢
      clear hwo wr
      have HIR := Lib.hid (InRow.start hcr)
      have HGR := Lib.hid hgr
      clear hcr hgr
      go_wp2
      go_loopw [7, 8] (fun rowv iv wr => ∃ (i gr capr : Nat) (cs : List C3), i ≤ nx + 1 ∧ iv = .int .i64 (i : Int) ∧ cs.length = i ∧ rowv = .slice (some ⟨gr, 0, none⟩) cs.length capr ∧ InRow wo wr b gr capr cs) (fun _ iv _ => nx + 1 - (intOf iv).toNat)
      case atStart => exact ⟨0, _, 0, [], Nat.zero_le _, rfl, rfl, rfl, HIR.out⟩
      case round =>
        obtain ⟨i, gr, capr, cs, hi, rfl, hcs, rfl, hir⟩ := hrel
        have HIN := Lib.hid hir
        have HCS := Lib.hid hcs
        clear hcs HIR
        by_cases hin : i < nx + 1
        · have hcur := hir.cur
          clear hir
          go_wp2_with fail
          refine (l02Plain_any _ _ hcur).mono ?_
          rintro e w3 ⟨y, u, v, p, q, r, hpc, rfl, hc3, hg3⟩
          have HI3 := Lib.hid (HIN.out.next hbr hc3 hg3)
          have hnew := fun z => heap_alloc_new w3 (.cells #[.float .f32 z, .complex .f32 u v] 40)
          have HI4 := Lib.hid (fun o => HI3.out.far (w' := w3.alloc o) hbr (Nat.le_refl _) (.inl (World.grownBy_alloc w3 o none)))
          have hz0 := heap_alloc_new w3 (.cells #[.float .f32 0, .complex .f32 0 0] 40)
          obtain ⟨c0, c1, f0, f1⟩ := box_facts hz0
          obtain ⟨d0, d1, e0, e1⟩ := box_facts (hnew y)
          obtain ⟨d0', d1', e0', e1'⟩ := box_facts (hnew (Op.negFloat .f32 y))
          have HL := Lib.hid (fun z => (show RowV ((w3.alloc (.cells #[.float .f32 z, .complex .f32 u v] 40)).alloc (.cells #[.float .f32 z, .complex .f32 u v] 40)) (.slice (some ⟨w3.heap.size + 1, 0, none⟩) 1 1) [(z, u, v)] from by
            have h1 := row_lit (w3.alloc (.cells #[.float .f32 z, .complex .f32 u v] 40)) z u v
            rwa [World.size_alloc] at h1))
          have HAP := Lib.hid (fun z (o o' : Obj) (w6 : World) (g6 cap6 : Nat) h1 h2 => (HI4.out o').app (c := (z, u, v)) (w' := w6) (g6 := g6) (cap6 := cap6) hbr o h1 h2)
          have HSZ := Lib.hid HI3.out.grown.size
          clear hnew hpc hg3 hc3 hcur HIN hz0
          cases hq : (FloatKind.f32.format.order y 0 == some .lt) with
          | true =>
            go_wp2_with (at_builtin; refine own_append rfl (.tmp 36) (.tmp 38) rfl wo.heap.size (.slice (some ⟨gr, 0, none⟩) cs.length capr) cs [(Op.negFloat .f32 y, u, v)] rfl ((HI4.out _).own.alloc _) _ _ _ rfl (HL.out _) (by simp) (by have := HCS.out; simp; omega) (by have := HSZ.out; simp at this ⊢; omega) ?_; intro g6 cap6 w6 ho6 hg6 hor6 hlt6)
            have HI6 := Lib.hid (HAP.out _ _ _ w6 g6 cap6 ho6 hg6)
            clear ho6 hg6 hor6
            go_wp2
            go_roundw
            case rel => exact ⟨i + 1, g6, cap6, cs ++ [(Op.negFloat .f32 y, u, v)], by omega, by go_num, by simp [HCS.out], by simp, HI6.out⟩
            case measure => simp [intOf]; omega
          | false =>
            go_wp2_with (at_builtin; refine own_append rfl (.tmp 36) (.tmp 38) rfl wo.heap.size (.slice (some ⟨gr, 0, none⟩) cs.length capr) cs [(y, u, v)] rfl ((HI4.out _).own.alloc _) _ _ _ rfl (HL.out _) (by simp) (by have := HCS.out; simp; omega) (by have := HSZ.out; simp at this ⊢; omega) ?_; intro g6 cap6 w6 ho6 hg6 hor6 hlt6)
            have HI6 := Lib.hid (HAP.out _ _ _ w6 g6 cap6 ho6 hg6)
            clear ho6 hg6 hor6
            go_wp2
            go_roundw
            case rel => exact ⟨i + 1, g6, cap6, cs ++ [(y, u, v)], by omega, by go_num, by simp [HCS.out], by simp, HI6.out⟩
            case measure => simp [intOf]; omega
        · have hcl : cs.length ≤ 3 := by have := HCS.out; omega
          have hO1 := HO.out.2.kept hir.grown (.inr (by intro e; have := Option.some.inj e; simp at this; omega))
          have hgW := HGR.out.trans hir.grown
          have hcW := hir.cur
          have hsW : w.heap.size ≤ wr.heap.size := hgW.size
          have hbW : b < wr.heap.size := hcW.lt
          have hgW0 : g < wr.heap.size := (hO1.lt g rfl).2
          have HMK := Lib.hid (fun odd => specMake_any (.slice (some ⟨gr, 0, none⟩) cs.length capr) cs odd wr hir.own.row (by omega))
          have HYS := Lib.hid HO.out.1
          have HO1 := Lib.hid hO1
          clear hir hO1 HIN HO HGR
          go_wp2_with fail
          refine (HMK.out _).mono ?_
          rintro e w4 ⟨gl, nl, capl, zs, rfl, hzl, hnl, hol, hb4⟩
          have HZ := Lib.hid hzl
          have hc4 := hcW.grown (grown_of hb4) (fun r e => by cases e)
          have hg4 := grownOf hgW hb4
          have HO4 := Lib.hid (HO1.out.kept (grown_of hb4) (.inr (by intro e; cases e)))
          have HL4 := Lib.hid hol
          have hgl : wr.heap.size ≤ gl := (hol.lt gl rfl).1
          clear hzl hcW hgW hb4 hol HO1 HMK
          go_wp2_with fail
          refine (l01Once_any _ _ _ hc4 (by decide) (by decide)).mono ?_
          rintro e w5 ⟨t, rfl, hc5, hg5⟩
          have HO5 := Lib.hid (HO4.out.kept hg5 (.inr (by intro e; have := Option.some.inj e; simp at this; omega)))
          have HL5 := Lib.hid (HL4.out.kept hg5 (.inr (by intro e; have := Option.some.inj e; simp at this; omega)))
          have hg5' := hg4.trans hg5
          clear hc4 hg4 hg5 HO4 HL4
          cases t
          · skip
            go_wp2_with fail
            refine (l01Once_any _ _ _ hc5 (by decide) (by decide)).mono ?_
            rintro e w8 ⟨t, rfl, hc8, hg8⟩
            have HO8 := Lib.hid (HO5.out.kept hg8 (.inr (by intro e; have := Option.some.inj e; simp at this; omega)))
            have HL8 := Lib.hid (HL5.out.kept hg8 (.inr (by intro e; have := Option.some.inj e; simp at this; omega)))
            have hg8' := hg5'.trans hg8
            have hs8 : wr.heap.size ≤ w8.heap.size := by have h1 := (HL8.out.lt gl rfl).2; omega
            clear hc5 hg5' hg8 HO5 HL5
            cases t
            · have HROW := Lib.hid HL8.out.new.row
              go_wp2_with (at_builtin; refine ownF_row rfl (.tmp 56) (.tmp 57) rfl w.heap.size g m cap ys (zs) rfl HYS.out HO8.out _ rfl HROW.out nl HZ.out (by omega) (by omega) ?_; intro ga capa wa hoa hga hora hlta)
              have hca := hc8.grown hga (fun r e => by cases e; omega)
              have hgga := grown_own hg8' hga (fun r e => by cases e; omega)
              have HOA := Lib.hid hoa
              have HLN := Lib.hid (show (ys ++ (zs)).length = m + nl by rw [List.length_append, HYS.out, HZ.out])
              clear hga hora hoa hc8 hg8'
              go_wp2
              go_roundw
              case rel => exact ⟨k - 1, ga, m + nl, capa, ys ++ (zs), by omega, by go_num, rfl, HLN.out, by omega, HOA.out, hca, hgga⟩
              case measure => simp [intOf]; omega
            · have hc9 := hc8.alloc (.cells #[.float .f32 1065353216] 25)
              have HLC := Lib.hid (lit_cell 1065353216)
              have HO9 := Lib.hid (HO8.out.alloc (.cells #[.float .f32 1065353216] 25))
              go_wp2_with (first | (at_builtin; refine ownF_snoc rfl (.tmp 53) (.tmp 54) rfl wr.heap.size (.slice (some ⟨gl, 0, none⟩) nl capl) zs nl rfl (HL8.out.alloc _) HZ.out _ rfl 1065353216 (HLC.out _) (by omega) (by simp; omega) ?_; intro g9 cap9 w9 ho9 hg9 hor9 hlt9; replace hg9 : (w8.alloc (.cells #[.float .f32 1065353216] 25)).grownBy w9 (some gl) := hg9; have hgl9 : wr.heap.size ≤ g9 := (ho9.lt g9 rfl).1; have hc9' := hc9.grown hg9 (fun r e => by cases e; omega); have hg9' := (grown_own (hg8'.trans (World.grownBy_alloc w8 (.cells #[.float .f32 1065353216] 25) _)) hg9 (fun r e => by cases e; omega)); have HO9' := Lib.hid (HO9.out.kept hg9 (.inr (by intro e; have := Option.some.inj e; simp at this; omega))); have HROW := Lib.hid ho9.new.row; have HZ9 := Lib.hid (show (zs ++ [1065353216]).length = nl + 1 from snoc_len HZ.out); have hs9 : wr.heap.size ≤ w9.heap.size := Nat.le_trans hgl9 (Nat.le_of_lt hlt9); clear hc9 hg9 hor9 ho9 HO9 HO8 HL8 hg8' hc8) | (at_builtin; refine ownF_row rfl (.tmp 56) (.tmp 57) rfl w.heap.size g m cap ys (zs ++ [1065353216]) rfl HYS.out HO9'.out _ rfl HROW.out (nl + 1) HZ9.out (by omega) (by omega) ?_; intro ga capa wa hoa hga hora hlta))
              have hca := hc9'.grown hga (fun r e => by cases e; omega)
              have hgga := grown_own hg9' hga (fun r e => by cases e; omega)
              have HOA := Lib.hid hoa
              have HLN := Lib.hid (show (ys ++ (zs ++ [1065353216])).length = m + (nl + 1) by rw [List.length_append, HYS.out, HZ9.out])
              clear hga hora hoa hc9' hg9'
              go_wp2
              go_roundw
              case rel => exact ⟨k - 1, ga, m + (nl + 1), capa, ys ++ (zs ++ [1065353216]), by omega, by go_num, rfl, HLN.out, by omega, HOA.out, hca, hgga⟩
              case measure => simp [intOf]; omega
          · go_wp2_with fail
            refine (l01Below_any _ _ _ hc5 (by decide) (by decide)).mono ?_
            rintro e w6 ⟨px, hpx, _, rfl, hc6, hg6⟩
            have hpx := hpx (by decide)
            have HO6 := Lib.hid (HO5.out.kept hg6 (.inr (by intro e; have := Option.some.inj e; simp at this; omega)))
            have HL6 := Lib.hid (HL5.out.kept hg6 (.inr (by intro e; have := Option.some.inj e; simp at this; omega)))
            have hg6' := hg5'.trans hg6
            have hs6 : wr.heap.size ≤ w6.heap.size := by have h1 := (HL6.out.lt gl rfl).2; omega
            have HER := Lib.hid (specEraseO_any (.slice (some ⟨gl, 0, none⟩) nl capl) zs (px : Int) 8 w6 HL6.out.new.row ⟨by omega, by omega⟩ ⟨by decide, by decide⟩ (by have := HZ.out; omega))
            clear hc5 hg5' hg6 HO5 HL5
            go_wp2_with fail
            refine HER.out.mono ?_
            rintro e w7 ⟨gl7, capl7, rfl, hol7, hb7⟩
            have hgl7 : w6.heap.size ≤ gl7 := (hol7.lt gl7 rfl).1
            have hc7 := hc6.grown (grown_of hb7) (fun r e => by cases e)
            have hg7' := grownOf hg6' hb7
            have HO7 := Lib.hid (HO6.out.kept (grown_of hb7) (.inr (by intro e; cases e)))
            have hl7 : (erased zs (px : Int) 8).length = nl := by rw [erased_len]; exact HZ.out
            rw [hl7] at hol7 ⊢
            have HL7 := Lib.hid (hol7.mono hs6)
            have HZ7 := Lib.hid hl7
            clear hc6 hg6' HO6 HL6 HZ HER hol7 hb7 hl7 hgl
            generalize erased zs (px : Int) 8 = zs7 at *
            obtain ⟨gl, hgg⟩ : ∃ x, gl7 = x := ⟨_, rfl⟩
            rw [hgg] at hgl7 HL7 ⊢
            clear hgg gl7
            have hgl : wr.heap.size ≤ gl := by omega
            obtain ⟨zs, hzz⟩ : ∃ x, zs7 = x := ⟨_, rfl⟩
            rw [hzz] at HL7 HZ7
            clear hzz zs7
            have HZ := HZ7
            have HC7 : capl7 = capl7 := rfl
            go_wp2_with fail
            refine (l01Once_any _ _ _ hc7 (by decide) (by decide)).mono ?_
            rintro e w8 ⟨t, rfl, hc8, hg8⟩
            have HO8 := Lib.hid (HO7.out.kept hg8 (.inr (by intro e; have := Option.some.inj e; simp at this; omega)))
            have HL8 := Lib.hid (HL7.out.kept hg8 (.inr (by intro e; have := Option.some.inj e; simp at this; omega)))
            have hg8' := hg7'.trans hg8
            have hs8 : wr.heap.size ≤ w8.heap.size := by have h1 := (HL8.out.lt gl rfl).2; omega
            clear hc7 hg7' hg8 HO7 HL7
            cases t
            · have HROW := Lib.hid HL8.out.new.row
              go_wp2_with (at_builtin; refine ownF_row rfl (.tmp 56) (.tmp 57) rfl w.heap.size g m cap ys (zs) rfl HYS.out HO8.out _ rfl HROW.out nl HZ.out (by omega) (by omega) ?_; intro ga capa wa hoa hga hora hlta)
              have hca := hc8.grown hga (fun r e => by cases e; omega)
              have hgga := grown_own hg8' hga (fun r e => by cases e; omega)
              have HOA := Lib.hid hoa
              have HLN := Lib.hid (show (ys ++ (zs)).length = m + nl by rw [List.length_append, HYS.out, HZ.out])
              clear hga hora hoa hc8 hg8'
              go_wp2
              go_roundw
              case rel => exact ⟨k - 1, ga, m + nl, capa, ys ++ (zs), by omega, by go_num, rfl, HLN.out, by omega, HOA.out, hca, hgga⟩
              case measure => simp [intOf]; omega
            · have hc9 := hc8.alloc (.cells #[.float .f32 1065353216] 25)
              have HLC := Lib.hid (lit_cell 1065353216)
              have HO9 := Lib.hid (HO8.out.alloc (.cells #[.float .f32 1065353216] 25))
              go_wp2_with (first | (at_builtin; refine ownF_snoc rfl (.tmp 53) (.tmp 54) rfl wr.heap.size (.slice (some ⟨gl, 0, none⟩) nl capl7) zs nl rfl (HL8.out.alloc _) HZ.out _ rfl 1065353216 (HLC.out _) (by omega) (by simp; omega) ?_; intro g9 cap9 w9 ho9 hg9 hor9 hlt9; replace hg9 : (w8.alloc (.cells #[.float .f32 1065353216] 25)).grownBy w9 (some gl) := hg9; have hgl9 : wr.heap.size ≤ g9 := (ho9.lt g9 rfl).1; have hc9' := hc9.grown hg9 (fun r e => by cases e; omega); have hg9' := (grown_own (hg8'.trans (World.grownBy_alloc w8 (.cells #[.float .f32 1065353216] 25) _)) hg9 (fun r e => by cases e; omega)); have HO9' := Lib.hid (HO9.out.kept hg9 (.inr (by intro e; have := Option.some.inj e; simp at this; omega))); have HROW := Lib.hid ho9.new.row; have HZ9 := Lib.hid (show (zs ++ [1065353216]).length = nl + 1 from snoc_len HZ.out); have hs9 : wr.heap.size ≤ w9.heap.size := Nat.le_trans hgl9 (Nat.le_of_lt hlt9); clear hc9 hg9 hor9 ho9 HO9 HO8 HL8 hg8' hc8) | (at_builtin; refine ownF_row rfl (.tmp 56) (.tmp 57) rfl w.heap.size g m cap ys (zs ++ [1065353216]) rfl HYS.out HO9'.out _ rfl HROW.out (nl + 1) HZ9.out (by omega) (by omega) ?_; intro ga capa wa hoa hga hora hlta))
              have hca := hc9'.grown hga (fun r e => by cases e; omega)
              have hgga := grown_own hg9' hga (fun r e => by cases e; omega)
              have HOA := Lib.hid hoa
              have HLN := Lib.hid (show (ys ++ (zs ++ [1065353216])).length = m + (nl + 1) by rw [List.length_append, HYS.out, HZ9.out])
              clear hga hora hoa hc9' hg9'
              go_wp2
              go_roundw
              case rel => exact ⟨k - 1, ga, m + (nl + 1), capa, ys ++ (zs ++ [1065353216]), by omega, by go_num, rfl, HLN.out, by omega, HOA.out, hca, hgga⟩
              case measure => simp [intOf]; omega
    · have hkz : k = 0 := by omega
      subst hkz
      go_wp2_with fail
      refine (l01Once_any _ _ _ hcr (by decide) (by decide)).mono ?_
      rintro e w3 ⟨t, rfl, hc3, hg3⟩
      have HO3 := Lib.hid (HO.out.2.kept hg3 (.inr (by intro e; have := Option.some.inj e; simp at this; omega)))
      have HYS := Lib.hid HO.out.1
      have hg := hgr.trans hg3
      clear hcr hgr hg3 HO
      cases t
      · go_wp2
        go_ret2
        exact StreamP.mk (n := nx + 1) (by omega) ⟨by have := HYS.out; omega, by omega, by omega⟩ HO3.out.new.row hc3 hg
      · by_cases hm3 : 3 < m
        · have hcap : m ≤ cap := by
            rcases HO3.out.shape with ⟨h, _⟩ | ⟨g', cap', h, _, _, h2, _⟩
            · cases h
            · cases h; have := HYS.out; omega
          go_wp2_with fail
          refine (l01Below_any _ _ _ hc3 (by decide) (by decide)).mono ?_
          rintro e w4 ⟨x, hx, _, rfl, hc4, hg4⟩
          have hx := hx (by decide)
          have HO4 := Lib.hid (HO3.out.kept hg4 (.inr (by intro e; have := Option.some.inj e; simp at this; omega)))
          have hg5 := hg.trans hg4
          have HRW := Lib.hid (show FRow w4 (.slice (some ⟨g, x, none⟩) (m - x) (cap - x)) (ys.drop x) from .inr ⟨g, x, cap - x, by rw [List.length_drop, HYS.out], by rw [List.length_drop, HYS.out]; omega, fun i hi => by
            rw [List.getElem_drop]
            exact (HO4.out.read (i := x + i) (by rw [List.length_drop] at hi; omega)).1⟩)
          have hi1 : (0 : Int) ≤ (x : Int) := by omega
          have hi2 : (x : Int) ≤ (m : Int) := by omega
          have hi4 : ¬ cap = x := by omega
          have hi5 : ¬ x = cap := by omega
          clear hc3 hg hg4
          go_wp2
          go_ret2
          exact StreamP.mk (n := nx + 1) (by omega) ⟨by rw [List.length_drop]; have := HYS.out; omega, by omega, by omega⟩ HRW.out hc4 hg5
        · go_wp2
          go_ret2
          exact StreamP.mk (n := nx + 1) (by omega) ⟨by have := HYS.out; omega, by omega, by omega⟩ HO3.out.new.row hc3 hg
end Go.Proofs.Ytmelnpimoiipgaa
