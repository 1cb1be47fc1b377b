/-
  What is proved: the walk of the model's Echo.
  Conditions: the samples can be read.
-/
import Derived.Test.YtnedmhhodmmddaaEchoW
import Derived.Deep.AppendLies
import Derived.Deep.RegionHeld3
namespace Go.Proofs.Ytnedmhhodmmddaa
set_option linter.unusedVariables false
open Go.RowKit
attribute [local go_sem] run_store_float run_store_complex unary_negf neg256

theorem specEchoR_no {xs : List Nat} {n : Int} {k : Nat} (h : sampOk xs = false) : OutR (InR (EchoR xs n k) xs) [] false := by
  refine ⟨[], false, ?_, .inr ⟨.inl rfl, rfl, rfl⟩⟩
  unfold InR; rw [h]; exact ⟨rfl, rfl⟩
theorem specEchoR_del {xs : List Nat} {n : Int} {k : Nat} (h : sampOk xs = true) (hd : delayOk n = false) : OutR (InR (EchoR xs n k) xs) [] false := by
  refine ⟨[], false, ?_, .inr ⟨.inl rfl, rfl, rfl⟩⟩
  unfold InR; rw [h]; exact EchoR.no xs hd
theorem specEchoR_loud {xs rs : List Nat} {n : Int} {k : Nat} (h : sampOk xs = true) (hd : delayOk n = true) (hl : rs.length = xs.length) (he : EchoL k xs (delayed xs n.toNat) rs) (hs : sampOk rs = false) : OutR (InR (EchoR xs n k) xs) [] false := by
  refine ⟨rs, true, ?_, .inr ⟨.inr hs, rfl, rfl⟩⟩
  unfold InR; rw [h]; exact EchoR.yes hd hl he
theorem specEchoR_yes {xs rs : List Nat} {n : Int} {k : Nat} (h : sampOk xs = true) (hd : delayOk n = true) (hl : rs.length = xs.length) (he : EchoL k xs (delayed xs n.toNat) rs) (hs : sampOk rs = true) : OutR (InR (EchoR xs n k) xs) rs true := by
  refine ⟨rs, true, ?_, .inl ⟨rfl, hs, rfl, rfl⟩⟩
  unfold InR; rw [h]; exact EchoR.yes hd hl he
theorem Sm.fin1 {x y : Nat} (h : Sm x y) : fin1 x = fin1 y := by
  rcases h with rfl | ⟨hx, hy⟩
  · rfl
  · have e : ∀ z, isN z = true → Go.Proofs.Ytnedmhhodmmddaa.fin1 z = false := by
      intro z hz
      have h1 : Ieee.single.order 3296722944 z = none := Flt.order_nan (.inr hz)
      unfold Go.Proofs.Ytnedmhhodmmddaa.fin1 lo1
      rw [h1]
      rfl
    rw [e x hx, e y hy]
theorem SmL.sampOk {xs ys : List Nat} (h : SmL xs ys) : sampOk xs = sampOk ys := by
  have key : ∀ {xs ys : List Nat}, SmL xs ys → xs.all fin1 = true → ys.all fin1 = true := by
    intro xs ys h ha
    rw [List.all_eq_true] at ha ⊢
    intro y hy
    obtain ⟨i, hi, rfl⟩ := List.mem_iff_getElem.1 hy
    have hi' : i < xs.length := by have := h.1; omega
    rw [← (h.2 i hi' hi).fin1]
    exact ha _ (List.getElem_mem hi')
  have hs : SmL ys xs := ⟨h.1.symm, fun i h1 h2 => (h.2 i h2 h1).symm⟩
  unfold Go.Proofs.Ytnedmhhodmmddaa.sampOk
  rw [h.1]
  cases hx : xs.all Go.Proofs.Ytnedmhhodmmddaa.fin1 with
  | true => rw [key h hx]
  | false =>
    cases hy : ys.all Go.Proofs.Ytnedmhhodmmddaa.fin1 with
    | true => rw [key hs hy] at hx; cases hx
    | false => rfl
theorem outR_same {xs : List Nat} {n : Int} {k : Nat} {ys zs : List Nat} {ok ok' : Bool} (h : OutR (InR (EchoR xs n k) xs) ys ok) (h' : OutR (InR (EchoR xs n k) xs) zs ok') : ok = ok' ∧ SmL ys zs := by
  obtain ⟨r, o, hi, hr⟩ := h
  obtain ⟨r', o', hi', hr'⟩ := h'
  have key : o = o' ∧ SmL r r' := by
    unfold InR at hi hi'
    split at hi
    · rename_i hs
      rw [if_pos hs] at hi'
      rcases hi with ⟨d1, rfl, l1, e1⟩ | ⟨d1, rfl, rfl⟩
      · rcases hi' with ⟨d2, rfl, l2, e2⟩ | ⟨d2, rfl, rfl⟩
        · exact ⟨rfl, e1.same e2 (by omega)⟩
        · rw [d1] at d2; cases d2
      · rcases hi' with ⟨d2, rfl, l2, e2⟩ | ⟨d2, rfl, rfl⟩
        · rw [d1] at d2; cases d2
        · exact ⟨rfl, SmL.refl _⟩
    · rename_i hs
      rw [if_neg hs] at hi'
      obtain ⟨rfl, rfl⟩ := hi
      obtain ⟨rfl, rfl⟩ := hi'
      exact ⟨rfl, SmL.refl _⟩
  obtain ⟨rfl, hrr⟩ := key
  have hso := hrr.sampOk
  rcases hr with ⟨rfl, s1, rfl, rfl⟩ | ⟨s1, rfl, rfl⟩
  · rcases hr' with ⟨_, s2, rfl, rfl⟩ | ⟨s2, rfl, rfl⟩
    · exact ⟨rfl, hrr⟩
    · rcases s2 with s2 | s2
      · cases s2
      · rw [hso, s2] at s1; cases s1
  · rcases hr' with ⟨e, s2, rfl, rfl⟩ | ⟨s2, rfl, rfl⟩
    · rcases s1 with s1 | s1
      · rw [e] at s1; cases s1
      · rw [hso, s2] at s1; cases s1
    · exact ⟨rfl, SmL.refl _⟩
theorem outR_len {xs : List Nat} {n : Int} {k : Nat} {ys : List Nat} {ok : Bool} (h : OutR (InR (EchoR xs n k) xs) ys ok) : ys.length ≤ xs.length := by
  obtain ⟨r, o, hi, hr⟩ := h
  rcases hr with ⟨_, _, rfl, _⟩ | ⟨_, rfl, _⟩
  · unfold InR at hi
    split at hi
    · exact EchoR.len hi
    · rw [hi.1]; exact Nat.zero_le _
  · exact Nat.zero_le _
set_option maxHeartbeats 4000000 in
theorem specEcho_any (n : Int) (m : Nat) (v : Value) (xs : List Nat) (w : World) (h : FRow w v xs) (hn : I64 n) (hl : xs.length ≤ 4000000) :
    Calls Try.prog 29 #[v, .int .i64 n, .float .f32 m] w fun e w' => OnB (OutR (InR (EchoR xs n m) xs)) w e w' := by
  obtain ⟨a, c, rfl, hcell⟩ := h.any
  have hbel := (Below.refl w.heap.size w).alloc (Nat.le_refl _) (.cells #[] 30)
  have hown := OwnF.made0 w
  have hsz : w.heap.size < (w.alloc (.cells #[] 30)).heap.size := by simp
  have HC := Lib.hid hcell
  have HOW := Lib.hid hown
  have HR := Lib.hid (h.below hbel)
  have HD := fun W hr => Lib.hid (specDelay_any (.slice a xs.length c) xs n W hr hn (by omega))
  have HS := fun V zs W hr hz => Lib.hid (specSamplesOk_any V zs W hr hz)
  clear hcell h hown
  go_enter Try.func29, Try.ntmps29
  go_wp2_with fail
  generalize w.alloc (.cells #[] 30) = w1 at *
  refine (HD _ HR.out).out.mono ?_
  rintro e w2 ⟨v2, ds, rfl, hd, hnd, hb2⟩
  have hb02 := below_trans hbel hb2 hbel.size
  have hs2 : w.heap.size < w2.heap.size := Nat.lt_of_lt_of_le hsz hb2.size
  have HR2 := Lib.hid (HR.out.below hb2)
  have HO2 := Lib.hid (HOW.out.kept (grown_of hb2) (.inr (by intro e; cases e)))
  cases hok : sampOk xs with
  | false =>
    have HQ := Lib.hid (specEchoR_no (n := n) (k := m) hok)
    have HSX := Lib.hid (specSamplesOk_any (.slice a xs.length c) xs w2 HR2.out hl)
    rw [hok] at HSX
    clear hok hd hnd HD HS
    go_wp2_with fail
    refine HSX.out.mono ?_
    rintro e w3 ⟨rfl, rfl⟩
    have HN := Lib.hid HO2.out.new
    go_wp2
    go_ret2
    exact ⟨_, [], false, rfl, HQ.out, HN.out, hb02⟩
  | true =>
    have HSX := Lib.hid (specSamplesOk_any (.slice a xs.length c) xs w2 HR2.out hl)
    rw [hok] at HSX
    cases hdok : delayOk n with
    | false =>
      have HQ := Lib.hid (specEchoR_del (n := n) (k := m) hok hdok)
      clear hok hd hnd HD HS hdok
      go_wp2_with fail
      refine HSX.out.mono ?_
      rintro e w3 ⟨rfl, rfl⟩
      have HN := Lib.hid HO2.out.new
      go_wp2
      go_ret2
      exact ⟨_, [], false, rfl, HQ.out, HN.out, hb02⟩
    | true =>
      have hds : ds = delayed xs n.toNat := by rw [show ds = _ from hd, if_pos hdok]
      subst hds
      have HOK2 := Lib.hid (And.intro hok hdok)
      have hbk := hnd.lt
      obtain ⟨a', c', rfl, hcell'⟩ := hnd.row.any
      obtain ⟨ys, hys⟩ : ∃ ys, delayed xs n.toNat = ys := ⟨_, rfl⟩
      have hyl : ys.length = xs.length := by rw [← hys, delayed_len]
      rw [hys] at hcell'
      have HY := Lib.hid hyl
      have HYS := Lib.hid hys
      have HBK := Lib.hid hbk
      have HC' := Lib.hid hcell'
      rw [delayed_len]
      clear hok hd hnd HD hdok hcell' HR hys hyl HOW hbk
      go_wp2_with fail
      refine HSX.out.mono ?_
      rintro e w3 ⟨rfl, rfl⟩
      go_wp2
      go_loopw [8, 11] (fun out i wr => ∃ (k g cap : Nat) (rs : List Nat), k ≤ xs.length ∧ i = .int .i64 (k : Int) ∧ out = .slice (some ⟨g, 0, none⟩) k cap ∧ w2.grownBy wr (some w.heap.size) ∧ Below w.heap.size w wr ∧ (g = w.heap.size ∨ w2.heap.size ≤ g) ∧ rs.length = k ∧ EchoL m xs ys rs ∧ OwnF wr w.heap.size (.slice (some ⟨g, 0, none⟩) k cap) rs) (fun _ i _ => xs.length - (intOf i).toNat)
      case atStart => exact ⟨0, _, 0, [], Nat.zero_le _, rfl, rfl, World.grownBy.refl _ _, hb02, .inl rfl, rfl, EchoL.nil _ _ _, HO2.out⟩
      case round =>
        obtain ⟨k, g, cap, rs, hk, rfl, rfl, hg2r, hb, hlo, hrl, hrr, hown⟩ := hrel
        have HOK := Lib.hid hown
        have HR := Lib.hid (And.intro hrl hrr)
        have hs2r : w2.heap.size ≤ wr.heap.size := hg2r.size
        clear hown hrl hrr
        by_cases hlt : k < xs.length
        · obtain ⟨g1, o1, rfl, hcap1, hcc⟩ := HC.out k hlt
          have hlt' : k < ys.length := by have := HY.out; omega
          obtain ⟨g2, o2, rfl, hcap2, hcc'⟩ := HC'.out k hlt'
          rw [HY.out] at hcap2
          have hg2b : w1.heap.size ≤ g2 := (HBK.out g2 rfl).1
          have hg2n : g2 ≠ w.heap.size := by omega
          have hc0 := (grown_of hb).cell hcc (by simp)
          have hc0' := hg2r.cell hcc' (by intro e; simp at e; omega)
          have HLT := Lib.hid hlt'
          obtain ⟨x, hx⟩ : ∃ x, xs[k] = x := ⟨_, rfl⟩
          obtain ⟨y, hy⟩ : ∃ y, ys[k]'hlt' = y := ⟨_, rfl⟩
          rw [hx] at hc0
          rw [hy] at hc0'
          have HXY := Lib.hid (And.intro hx hy)
          have HL6 := Lib.hid (fun w6 (hb6 : Below w.heap.size w w6) (hg6 : w2.grownBy w6 (some w.heap.size)) => And.intro ((grown_of hb6).cell hcc (by simp)) (hg6.cell hcc' (by intro e; simp at e; omega)))
          rw [hx, hy] at HL6
          have HSZ := Lib.hid hb.size
          clear hcc hcc' hx hy hg2b hg2n
          rcases res_any .mul (.inr (.inr (.inl rfl))) m y with ⟨mm, hm, hmrun⟩ | hmrun
          · rcases res_any .add (.inl rfl) x mm with ⟨r, hr, hrun⟩ | hrun
            · skip
              have HRR := Lib.hid (show AddK m x y r from ⟨mm, hm, hr⟩)
              have HOA := Lib.hid (fun (o : Obj) => (show OwnF (wr.alloc o).drew w.heap.size (.slice (some ⟨g, 0, none⟩) k cap) rs from HOK.out.alloc o))
              have HLC := Lib.hid (fun (z : Nat) => (show (wr.alloc (.cells #[.float .f32 z] 30)).drew.cell? ⟨wr.heap.size, 0, none⟩ = some (.float .f32 z) from lit_cell z wr))
              have HBB := Lib.hid (fun (o : Obj) (w6 : World) (hg6 : (wr.alloc o).drew.grownBy w6 (Value.slice (some ⟨g, 0, none⟩) k cap).ownBlock) => And.intro (putGrown hg2r hs2r (show (wr.alloc o).grownBy w6 (some g) from ⟨hg6.os, hg6.tape, hg6.output, hg6.size, hg6.block⟩) hlo) (snoc_below hb HOK.out o (show (wr.alloc o).grownBy w6 _ from ⟨hg6.os, hg6.tape, hg6.output, hg6.size, hg6.block⟩)))
              clear hm hr hg2r
              go_wp2
              go_region_held3 (fun W => W.cell? ⟨g1, o1 + k, none⟩ = some (.float .f32 x) ∧ W.cell? ⟨g2, o2 + k, none⟩ = some (.float .f32 y)) (go_keep)
                (first | (refine stepF_snoc (by rfl) (.tmp 33) (.tmp 45) (by rfl) w.heap.size _ rs k (by rfl) (HOA.out _) HR.out.1 wr.heap.size (by rfl) r (HLC.out _) (by omega) (by have := HSZ.out; simp; omega) ?_; intro g6 cap6 w6 ho6 hg6 hor6 hlt6; obtain ⟨hg26, hb6⟩ := HBB.out _ _ hg6; obtain ⟨k0, k1⟩ := HL6.out w6 hb6 hg26))
              all_goals
                have HO6 := Lib.hid ho6
                have HR6 := Lib.hid (HR.out.2.snoc HR.out.1 hlt HLT.out (by rw [HXY.out.1, HXY.out.2]; exact HRR.out))
                have hlo6 : g6 = w.heap.size ∨ w2.heap.size ≤ g6 := by
                  rcases hor6 with h | h
                  · have := Option.some.inj h; subst this; exact hlo
                  · have := hs2r; simp at h; exact .inr (by omega)
                clear ho6 hg6 hor6 k0 k1
                go_wp2
                go_roundw
                case rel => exact ⟨k + 1, g6, cap6, rs ++ [r], by omega, by go_num, rfl, hg26, hb6, hlo6, by simp [HR.out.1], HR6.out, HO6.out⟩
                case measure => simp [intOf]; omega
            · obtain ⟨r, hr, hrd⟩ := hrun wr.drew
              have HRR := Lib.hid (show AddK m x y r from ⟨mm, hm, hr⟩)
              have HOA := Lib.hid (fun (o : Obj) => (show OwnF (wr.alloc o).drew.drew w.heap.size (.slice (some ⟨g, 0, none⟩) k cap) rs from HOK.out.alloc o))
              have HLC := Lib.hid (fun (z : Nat) => (show (wr.alloc (.cells #[.float .f32 z] 30)).drew.drew.cell? ⟨wr.heap.size, 0, none⟩ = some (.float .f32 z) from lit_cell z wr))
              have HBB := Lib.hid (fun (o : Obj) (w6 : World) (hg6 : (wr.alloc o).drew.drew.grownBy w6 (Value.slice (some ⟨g, 0, none⟩) k cap).ownBlock) => And.intro (putGrown hg2r hs2r (show (wr.alloc o).grownBy w6 (some g) from ⟨hg6.os, hg6.tape, hg6.output, hg6.size, hg6.block⟩) hlo) (snoc_below hb HOK.out o (show (wr.alloc o).grownBy w6 _ from ⟨hg6.os, hg6.tape, hg6.output, hg6.size, hg6.block⟩)))
              clear hm hr hrun hg2r
              go_wp2
              go_region_law
                (first | (refine stepF_snoc (by rfl) (.tmp 33) (.tmp 45) (by rfl) w.heap.size _ rs k (by rfl) (HOA.out _) HR.out.1 wr.heap.size (by rfl) r (HLC.out _) (by omega) (by have := HSZ.out; simp; omega) ?_; intro g6 cap6 w6 ho6 hg6 hor6 hlt6; obtain ⟨hg26, hb6⟩ := HBB.out _ _ hg6; obtain ⟨k0, k1⟩ := HL6.out w6 hb6 hg26))
              all_goals
                have HO6 := Lib.hid ho6
                have HR6 := Lib.hid (HR.out.2.snoc HR.out.1 hlt HLT.out (by rw [HXY.out.1, HXY.out.2]; exact HRR.out))
                have hlo6 : g6 = w.heap.size ∨ w2.heap.size ≤ g6 := by
                  rcases hor6 with h | h
                  · have := Option.some.inj h; subst this; exact hlo
                  · have := hs2r; simp at h; exact .inr (by omega)
                clear ho6 hg6 hor6 k0 k1
                go_wp2
                go_roundw
                case rel => exact ⟨k + 1, g6, cap6, rs ++ [r], by omega, by go_num, rfl, hg26, hb6, hlo6, by simp [HR.out.1], HR6.out, HO6.out⟩
                case measure => simp [intOf]; omega
          · obtain ⟨mm, hm, hmd⟩ := hmrun wr.drew
            rcases res_any .add (.inl rfl) x mm with ⟨r, hr, hrun⟩ | hrun
            · skip
              have HRR := Lib.hid (show AddK m x y r from ⟨mm, hm, hr⟩)
              have HOA := Lib.hid (fun (o : Obj) => (show OwnF (wr.alloc o).drew.drew w.heap.size (.slice (some ⟨g, 0, none⟩) k cap) rs from HOK.out.alloc o))
              have HLC := Lib.hid (fun (z : Nat) => (show (wr.alloc (.cells #[.float .f32 z] 30)).drew.drew.cell? ⟨wr.heap.size, 0, none⟩ = some (.float .f32 z) from lit_cell z wr))
              have HBB := Lib.hid (fun (o : Obj) (w6 : World) (hg6 : (wr.alloc o).drew.drew.grownBy w6 (Value.slice (some ⟨g, 0, none⟩) k cap).ownBlock) => And.intro (putGrown hg2r hs2r (show (wr.alloc o).grownBy w6 (some g) from ⟨hg6.os, hg6.tape, hg6.output, hg6.size, hg6.block⟩) hlo) (snoc_below hb HOK.out o (show (wr.alloc o).grownBy w6 _ from ⟨hg6.os, hg6.tape, hg6.output, hg6.size, hg6.block⟩)))
              clear hm hr hmrun hg2r
              go_wp2
              go_region_law
                (first | (refine stepF_snoc (by rfl) (.tmp 33) (.tmp 45) (by rfl) w.heap.size _ rs k (by rfl) (HOA.out _) HR.out.1 wr.heap.size (by rfl) r (HLC.out _) (by omega) (by have := HSZ.out; simp; omega) ?_; intro g6 cap6 w6 ho6 hg6 hor6 hlt6; obtain ⟨hg26, hb6⟩ := HBB.out _ _ hg6; obtain ⟨k0, k1⟩ := HL6.out w6 hb6 hg26))
              all_goals
                have HO6 := Lib.hid ho6
                have HR6 := Lib.hid (HR.out.2.snoc HR.out.1 hlt HLT.out (by rw [HXY.out.1, HXY.out.2]; exact HRR.out))
                have hlo6 : g6 = w.heap.size ∨ w2.heap.size ≤ g6 := by
                  rcases hor6 with h | h
                  · have := Option.some.inj h; subst this; exact hlo
                  · have := hs2r; simp at h; exact .inr (by omega)
                clear ho6 hg6 hor6 k0 k1
                go_wp2
                go_roundw
                case rel => exact ⟨k + 1, g6, cap6, rs ++ [r], by omega, by go_num, rfl, hg26, hb6, hlo6, by simp [HR.out.1], HR6.out, HO6.out⟩
                case measure => simp [intOf]; omega
            · obtain ⟨r, hr, hrd⟩ := hrun wr.drew.drew
              have HRR := Lib.hid (show AddK m x y r from ⟨mm, hm, hr⟩)
              have HOA := Lib.hid (fun (o : Obj) => (show OwnF (wr.alloc o).drew.drew.drew w.heap.size (.slice (some ⟨g, 0, none⟩) k cap) rs from HOK.out.alloc o))
              have HLC := Lib.hid (fun (z : Nat) => (show (wr.alloc (.cells #[.float .f32 z] 30)).drew.drew.drew.cell? ⟨wr.heap.size, 0, none⟩ = some (.float .f32 z) from lit_cell z wr))
              have HBB := Lib.hid (fun (o : Obj) (w6 : World) (hg6 : (wr.alloc o).drew.drew.drew.grownBy w6 (Value.slice (some ⟨g, 0, none⟩) k cap).ownBlock) => And.intro (putGrown hg2r hs2r (show (wr.alloc o).grownBy w6 (some g) from ⟨hg6.os, hg6.tape, hg6.output, hg6.size, hg6.block⟩) hlo) (snoc_below hb HOK.out o (show (wr.alloc o).grownBy w6 _ from ⟨hg6.os, hg6.tape, hg6.output, hg6.size, hg6.block⟩)))
              clear hm hr hmrun hrun hg2r
              go_wp2
              go_region_law
                (first | (refine stepF_snoc (by rfl) (.tmp 33) (.tmp 45) (by rfl) w.heap.size _ rs k (by rfl) (HOA.out _) HR.out.1 wr.heap.size (by rfl) r (HLC.out _) (by omega) (by have := HSZ.out; simp; omega) ?_; intro g6 cap6 w6 ho6 hg6 hor6 hlt6; obtain ⟨hg26, hb6⟩ := HBB.out _ _ hg6; obtain ⟨k0, k1⟩ := HL6.out w6 hb6 hg26))
              all_goals
                have HO6 := Lib.hid ho6
                have HR6 := Lib.hid (HR.out.2.snoc HR.out.1 hlt HLT.out (by rw [HXY.out.1, HXY.out.2]; exact HRR.out))
                have hlo6 : g6 = w.heap.size ∨ w2.heap.size ≤ g6 := by
                  rcases hor6 with h | h
                  · have := Option.some.inj h; subst this; exact hlo
                  · have := hs2r; simp at h; exact .inr (by omega)
                clear ho6 hg6 hor6 k0 k1
                go_wp2
                go_roundw
                case rel => exact ⟨k + 1, g6, cap6, rs ++ [r], by omega, by go_num, rfl, hg26, hb6, hlo6, by simp [HR.out.1], HR6.out, HO6.out⟩
                case measure => simp [intOf]; omega
        · have hkk : k = xs.length := by omega
          subst hkk
          have HRW := Lib.hid (show FRow wr (.slice (some ⟨g, 0, none⟩) xs.length cap) rs from HOK.out.new.row)
          have HNN := Lib.hid (show FNew wr w.heap.size (.slice (some ⟨g, 0, none⟩) xs.length cap) rs from HOK.out.new)
          have HSO := Lib.hid (specSamplesOk_any (.slice (some ⟨g, 0, none⟩) xs.length cap) rs wr HRW.out (by have := HR.out.1; omega))
          cases hrs : sampOk rs with
          | false =>
            rw [hrs] at HSO
            have HQ := Lib.hid (specEchoR_loud (k := m) HOK2.out.1 HOK2.out.2 HR.out.1 (by rw [HYS.out]; exact HR.out.2) hrs)
            clear hrs
            go_wp2_with fail
            refine HSO.out.mono ?_
            rintro e w7 ⟨rfl, rfl⟩
            have HN := Lib.hid ((OwnF.made0 wr).new.mono hb.size)
            have hb8 := hb.alloc hb.size (.cells #[] 30)
            go_wp2
            go_ret2
            exact ⟨_, [], false, rfl, HQ.out, HN.out, hb8⟩
          | true =>
            rw [hrs] at HSO
            have HQ := Lib.hid (specEchoR_yes (k := m) HOK2.out.1 HOK2.out.2 HR.out.1 (by rw [HYS.out]; exact HR.out.2) hrs)
            clear hrs
            go_wp2_with fail
            refine HSO.out.mono ?_
            rintro e w7 ⟨rfl, rfl⟩
            go_wp2
            go_ret2
            exact ⟨_, rs, true, rfl, HQ.out, HNN.out, hb⟩
end Go.Proofs.Ytnedmhhodmmddaa
