/-
  What is proved: the walk of the law FnLevelled.
  Conditions: none beyond the argument's own.
-/
import Derived.Test.YtmelnpimoiipgaaPlainOwn
import Derived.Test.YtmelnpimoiipgaaLevelB
import Derived.Test.YtmelnpimoiipgaaTransmit
import Derived.Test.YtmelnpimoiipgaaEquals
import Derived.Test.YtmelnpimoiipgaaDraw5
import Derived.Test.YtmelnpimoiipgaaExact6
import Derived.Test.YtmelnpimoiipgaaImplToLev
namespace Go.Proofs.Ytmelnpimoiipgaa
set_option linter.unusedVariables false
open Go.RowKit
open Flt (Q Mag sumv subv mulv quov)
attribute [local go_sem] run_store_float run_store_complex unary_negf neg256

/-- A cell with its brightness' sign turned, if it is negative. -/
def absC (c : C3) : C3 := if (Ieee.single.order c.1 0 == some .lt) = true then (Op.negFloat .f32 c.1, c.2) else c
theorem absC_yes {c : C3} (h : (Ieee.single.order c.1 0 == some .lt) = true) : absC c = (Op.negFloat .f32 c.1, c.2) := if_pos h
theorem absC_no {c : C3} (h : (Ieee.single.order c.1 0 == some .lt) = false) : absC c = c := if_neg (by rw [h]; decide)
theorem absC_plain {cs : List C3} (h : PlainR cs) : PlainR (cs.map absC) := by
  intro d hd
  obtain ⟨c, hc, rfl⟩ := List.mem_map.1 hd
  obtain ⟨a, b, e, hp⟩ := h c hc
  unfold absC
  split
  · exact ⟨-a, b, e, hp.1.neg, hp.2.1, hp.2.2.1, by have := hp.2.2.2.1; omega, hp.2.2.2.2⟩
  · exact ⟨a, b, e, hp⟩
theorem abs_len (cs : List C3) : (cs.map absC).length = cs.length := List.length_map _
theorem put_y {w : World} {base g n cap k : Nat} {cs : List C3} (h : OwnC w base (.slice (some ⟨g, 0, none⟩) n cap) cs) (hk : k < cs.length) (y : Nat) : OwnC (w.setCell ⟨g, k * 2, none⟩ (.float .f32 y)) base (.slice (some ⟨g, 0, none⟩) n cap) (cs.set k (y, cs[k].2)) :=
  Lay.Own.put LC_ok (L := LC) h hk (show 0 < LC.size by decide) (show k * 2 = k * LC.size + 0 from rfl) rfl
theorem at_y {w : World} {base g n cap k : Nat} {cs : List C3} (h : OwnC w base (.slice (some ⟨g, 0, none⟩) n cap) cs) (hk : k < cs.length) : w.cell? ⟨g, k * 2, none⟩ = some (.float .f32 cs[k].1) ∧ w.frozen? ⟨g, k * 2, none⟩ = false := by
  refine ⟨?_, (Lay.Own.at LC_ok (L := LC) h hk (show 0 < LC.size by decide) (show k * 2 = k * LC.size + 0 from rfl)).2⟩
  rcases h.row with ⟨h1, _⟩ | ⟨g', o', cap', h1, _, hc⟩
  · cases h1
  · injection h1 with e1 e2 e3
    injection e1 with e1
    injection e1 with e1 e4
    subst e1 e4
    have := (hc k hk).1
    rwa [Nat.zero_add] at this
theorem plain_real {A O X Y : Nat} {α ω ξ η : Int} (h : PlainH ⟨A, O, X, Y⟩ α ω ξ η) : PlainH ⟨A, O, A, 0⟩ α ω α 0 := by
  obtain ⟨⟨hA, hO, _, _⟩, ha, hw, _, _⟩ := h
  exact ⟨⟨hA, hO, hA, Q.zero _⟩, ha, hw, by omega, by decide⟩
set_option maxHeartbeats 8000000 in
set_option maxRecDepth 100000 in
theorem walk_FnLevelled (a0 : Option Addr) (len0 cap0 : Nat) (z0 : List Int) (w : World) (w0 : IsRow .u8 w a0 len0 cap0 z0) :
    Calls Try.prog 6 #[.slice a0 len0 cap0] w fun e w' => e = .returned (.bool true) ∧ Below w.heap.size w w' := by
  by_cases hbig : 1048576 < len0
  · have hbb : decide ((1048576 : Int) < len0) = true := by simp; omega
    have HB := Lib.hid (big_any a0 len0 cap0 w)
    rw [hbb] at HB
    clear hbb
    go_enter Try.func6, Try.ntmps6
    go_wp2_with fail
    refine HB.out.mono ?_
    rintro e w1 ⟨rfl, rfl⟩
    go_wp2
    go_ret
    exact ⟨rfl, Below.refl _ _⟩
  · have hbb : decide ((1048576 : Int) < len0) = false := by simp; omega
    have HB := Lib.hid (big_any a0 len0 cap0 w)
    rw [hbb] at HB
    have HD := Lib.hid (drawPlainO_any a0 len0 cap0 w (w0.src (by omega)))
    have HSR := Lib.hid (w0.src (by omega))
    clear hbb w0
    go_enter Try.func6, Try.ntmps6
    go_wp2_with fail
    refine HB.out.mono ?_
    rintro e w1 ⟨rfl, rfl⟩
    go_wp2_with fail
    refine HD.out.mono ?_
    rintro e w1 ⟨g, cap, cs, ⟨hl1, hl2⟩, hp, rfl, ho, hb1⟩
    have HP := Lib.hid hp
    have HO := Lib.hid ho
    have HML := Lib.hid (abs_len cs)
    clear hp ho HD HB
    go_wp2
    go_loopw [4] (fun kv wr => ∃ k : Nat, k ≤ cs.length ∧ kv = .int .i64 (k : Int) ∧ OwnC wr w.heap.size (.slice (some ⟨g, 0, none⟩) cs.length cap) ((cs.map absC).take k ++ cs.drop k) ∧ Below w.heap.size w wr) (fun kv _ => cs.length - (intOf kv).toNat)
    case atStart => exact ⟨0, Nat.zero_le _, rfl, by simpa using HO.out, hb1⟩
    case round =>
      obtain ⟨k, hk, rfl, ho, hb⟩ := hrel
      have HOK := Lib.hid ho
      have hgb : w.heap.size ≤ g := (ho.lt g rfl).1
      clear ho HO
      by_cases hlt : k < cs.length
      · have htl : k < ((cs.map absC).take k ++ cs.drop k).length := by rw [take_drop_len HML.out hk]; exact hlt
        have hlm : k < (cs.map absC).length := by rw [HML.out]; exact hlt
        obtain ⟨hc, hf⟩ := at_y HOK.out htl
        rw [take_drop_at HML.out hlt htl] at hc
        have hput := put_y HOK.out htl (Op.negFloat .f32 cs[k].1)
        rw [take_drop_at HML.out hlt htl] at hput
        have hbs := hb.setCell (p := ⟨g, k * 2, none⟩) hgb (.float .f32 (Op.negFloat .f32 cs[k].1))
        cases hq : (Ieee.single.order cs[k].1 0 == some .lt) with
        | true =>
          have hq' : (FloatKind.f32.format.order cs[k].1 0 == some .lt) = true := hq
          rw [set_take_drop hlm hlt (by rw [List.getElem_map]; exact absC_yes hq)] at hput
          have HPUT := Lib.hid hput
          clear hput hq htl hlm
          generalize cs[k].1 = y at *
          go_wp2
          go_roundw
          case rel => exact ⟨k + 1, by omega, by go_num, HPUT.out, hbs⟩
          case measure => simp [intOf]; omega
        | false =>
          have hq' : (FloatKind.f32.format.order cs[k].1 0 == some .lt) = false := hq
          have hst := set_take_drop (z := cs[k]) hlm hlt (by rw [List.getElem_map]; exact absC_no hq)
          have HSAME := Lib.hid (show (cs.map absC).take (k + 1) ++ cs.drop (k + 1) = (cs.map absC).take k ++ cs.drop k by
            rw [← hst]
            conv => lhs; rw [← take_drop_at HML.out hlt htl]
            exact List.set_getElem_self htl)
          clear hput hq htl hlm hst hbs
          generalize cs[k].1 = y at *
          go_wp2
          go_roundw
          case rel => exact ⟨k + 1, by omega, by go_num, by rw [HSAME.out]; exact HOK.out, hb⟩
          case measure => simp [intOf]; omega
      · have hkk : k = cs.length := by omega
        subst hkk
        have hfin : OwnC wr w.heap.size (.slice (some ⟨g, 0, none⟩) cs.length cap) (cs.map absC) := by
          have := HOK.out
          rwa [List.take_of_length_le (by rw [HML.out]; exact Nat.le_refl _), List.drop_length, List.append_nil] at this
        have hpl := absC_plain HP.out
        have hml := HML.out
        obtain ⟨ds, hds⟩ : ∃ ds, cs.map absC = ds := ⟨_, rfl⟩
        rw [hds] at hfin hpl hml
        have HMK := Lib.hid (fun odd => makeLine_any (.slice (some ⟨g, 0, none⟩) cs.length cap) ds odd wr hfin.row hpl.fit (hpl.rok (by omega) (by omega)))
        have HPL := Lib.hid hpl
        have HDL := Lib.hid hml
        clear hfin hpl hml hds HOK HML HP
        go_wp2_with fail
        refine (HMK.out _).mono ?_
        generalize ((len0 : Int) % 2 == 0) = odd at *
        rintro e w2 ⟨v2, rfl, hn2, hb2⟩
        have hb12 := below_trans hb hb2 hb.size
        have HDC := Lib.hid (drawCh_any a0 len0 cap0 w2 (HSR.out.below hb12 hb12.size))
        have HN2 := Lib.hid hn2
        clear hn2 hb hb2 HMK
        go_wp2_with fail
        refine HDC.out.mono ?_
        rintro e w3 ⟨A, O, X, Y, ⟨α, ω, ξ, η, hpc, hga⟩, rfl, hb3⟩
        have hb13 := below_trans hb12 hb3 hb12.size
        have hplr := plain_real hpc
        obtain ⟨hso, hst, hlv, heq⟩ := level_back HPL.out (by have := HDL.out; omega) (by have := HDL.out; omega) odd hplr hga
        obtain ⟨hok, hmag⟩ := plain_valid hplr
        have hlen := lineL_len ds odd
        have HXL := Lib.hid (txs_len ⟨A, O, A, 0⟩ (6 + ds.length) (lineL ds odd) (by omega))
        have hnz := LieC.new w3 0 0 0 0
        have hnl := LieC.new w3 A O X Y
        have hnl2 := LieC.new w3 A O A 0
        obtain ⟨p0, p1, p2, p3, p4, p5⟩ := hnz.all
        obtain ⟨r0, r1, r2, r3, r4, r5⟩ := hnl.all
        obtain ⟨s0, s1, s2, s3, s4, s5⟩ := hnl2.all
        have HN3 := Lib.hid (HN2.out.below hb3)
        have HN4 := Lib.hid (fun o => HN3.out.below ((Below.refl w3.heap.size w3).alloc (Nat.le_refl _) o))
        have HTR := fun W hr => Lib.hid (transmit_any A O A 0 v2 (lineL ds odd) W hr hok hmag hso hst)
        have HTL := fun V W hr => Lib.hid (ans_got (toLevel_any V (txs ⟨A, O, A, 0⟩ (lineL ds odd)) W hr (by rw [HXL.out]; have := HDL.out; omega)))
        have HBN := Lib.hid (fun o => hb13.alloc hb13.size o)
        have hla : levA (txs ⟨A, O, A, 0⟩ (lineL ds odd)) = levs (txs ⟨A, O, A, 0⟩ (lineL ds odd)) := by unfold levA; rw [hlv]; rfl
        rw [hlv, hla] at HTL
        have HLL := Lib.hid (show (lineL ds odd).length ≤ 1000000 by have := HDL.out; omega)
        generalize levs (txs ⟨A, O, A, 0⟩ (lineL ds odd)) = ys at *
        generalize txs ⟨A, O, A, 0⟩ (lineL ds odd) = xs at *
        generalize lineL ds odd = line at *
        have HEQ := Lib.hid heq
        clear hpc hga hplr hso hst hlv heq hok hmag hlen hla hnz hnl hnl2 HDC HN2 HPL HDL hb3 hb12 HXL
        go_wp2_with fail
        refine (HTR _ (HN4.out _).row).out.mono ?_
        rintro e w5 ⟨v5, ys5, rfl, hy5, hn5, hb5⟩
        subst hy5
        have hb15 := below_trans (HBN.out _) hb5 (HBN.out _).size
        have HN5 := Lib.hid ((HN4.out _).below hb5)
        have HX5 := Lib.hid hn5
        clear hn5 hb5 HTR HN4 HN3 HBN
        go_wp2_with fail
        refine (HTL _ _ HX5.out.row).out.mono ?_
        rintro e w6 ⟨v6, rfl, hn6, hb6⟩
        have hb16 := below_trans hb15 hb6 hb15.size
        have HN6 := Lib.hid (HN5.out.below hb6)
        have HQ := Lib.hid (equals_any v6 v2 ys line w6 hn6.row HN6.out.row HEQ.out.1 HEQ.out.2 (by rw [HEQ.out.1]; have := HLL.out; omega))
        clear hn6 hb6 HTL HN5 HX5
        go_wp2_with fail
        refine HQ.out.mono ?_
        rintro e w7 ⟨rfl, q7, rfl⟩
        go_wp2
        go_ret
        exact ⟨rfl, belowDN hb16 _⟩
end Go.Proofs.Ytmelnpimoiipgaa
