/-
  What is proved: the walk of MeanRow.
  Conditions: both rows can be read.
-/
import Derived.Test.YtlbepmiomcmcnaaMean
import Derived.Deep.RegionHeld3
namespace Go.Proofs.Ytlbepmiomcmcnaa
set_option linter.unusedVariables false
open Go.RowKit
attribute [local go_sem] run_store_float run_store_complex unary_negf neg256

def meanOk (a b : List C3) : Bool := rok a && (rok b && decide (a.length = b.length))
def MeanPost (a b : List C3) (w : World) (e : Ending) (w' : World) : Prop := ∃ v', e = .returned (.tuple #[v', .bool (meanOk a b)]) ∧ (meanOk a b = true → RowV w' v' (List.zipWith mid a b)) ∧ Below w.heap.size w w'
theorem MeanPost.no {a b : List C3} {w w' : World} {v' : Value} (h : meanOk a b = false) (hb : Below w.heap.size w w') : MeanPost a b w (.returned (.tuple #[v', .bool false])) w' := ⟨v', by rw [h], (fun e => by rw [h] at e; cases e), hb⟩
theorem MeanPost.yes {a b : List C3} {w w' : World} {v' : Value} (h : meanOk a b = true) (hr : RowV w' v' (List.zipWith mid a b)) (hb : Below w.heap.size w w') : MeanPost a b w (.returned (.tuple #[v', .bool true])) w' := ⟨v', by rw [h], fun _ => hr, hb⟩
theorem fin_at {cs : List C3} (h : rok cs = true) {k : Nat} (hk : k < cs.length) : Finc cs[k] := (rok_iff.1 h).2 _ (List.getElem_mem hk)
theorem RowV.len {w : World} {v : Value} {cs : List C3} (h : RowV w v cs) (hne : cs ≠ []) : ∃ g o cap, v = .slice (some ⟨g, o, none⟩) cs.length cap ∧ cs.length ≤ cap ∧
    ∀ i (h : i < cs.length), w.cell? ⟨g, o + i * 2, none⟩ = some (.float .f32 cs[i].1) ∧ w.cell? ⟨g, o + i * 2 + 1, none⟩ = some (.complex .f32 cs[i].2.1 cs[i].2.2) := by
  rcases h with ⟨_, h⟩ | h
  · exact absurd h hne
  · exact h
theorem RowV.lenv {w : World} {v : Value} {cs : List C3} (h : RowV w v cs) : ∃ a cap, v = .slice a cs.length cap := by
  rcases h with ⟨h, h2⟩ | ⟨g, o, cap, h, _⟩
  · subst h2; exact ⟨none, 0, h⟩
  · exact ⟨_, _, h⟩

set_option maxHeartbeats 1000000 in
theorem meanRow_no (v v' : Value) (a b : List C3) (w : World) (h : RowV w v a) (h' : RowV w v' b) (hl : a.length ≤ 1000000) (hl' : b.length ≤ 1000000) (hno : meanOk a b = false) :
    Calls Try.prog 14 #[v, v'] w fun e w' => MeanPost a b w e w' := by
  have HN := Lib.hid hno
  have HR := Lib.hid (rowOk_any v a w h hl)
  have HR2 := fun W hW => Lib.hid (rowOk_any v' b W hW hl')
  have HV := Lib.hid h'
  obtain ⟨ad, cap, rfl⟩ := h.lenv
  obtain ⟨ad', cap', rfl⟩ := h'.lenv
  unfold meanOk at hno
  cases hra : rok a with
  | false =>
    rw [hra] at HR
    clear hra hno h h'
    go_enter Try.func14, Try.ntmps14
    go_wp2_with fail
    refine HR.out.mono ?_
    rintro e w1 ⟨rfl, hb⟩
    go_wp2
    go_ret2
    exact MeanPost.no HN.out hb
  | true =>
    rw [hra] at HR hno
    cases hrb : rok b with
    | false =>
      rw [hrb] at HR2
      clear hra hrb hno h h'
      go_enter Try.func14, Try.ntmps14
      go_wp2_with fail
      refine HR.out.mono ?_
      rintro e w1 ⟨rfl, hb⟩
      go_wp2_with fail
      refine (HR2 w1 (HV.out.below hb)).out.mono ?_
      rintro e w2 ⟨rfl, hb2⟩
      go_wp2
      go_ret2
      exact MeanPost.no HN.out (below_trans hb hb2 hb.size)
    | true =>
      rw [hrb] at HR2 hno
      have hne : a.length ≠ b.length := by simpa using hno
      have hbn : ((a.length : Int) != (b.length : Int)) = true := by simp; omega
      clear hra hrb hno h h' hne
      go_enter Try.func14, Try.ntmps14
      go_wp2_with fail
      refine HR.out.mono ?_
      rintro e w1 ⟨rfl, hb⟩
      go_wp2_with fail
      refine (HR2 w1 (HV.out.below hb)).out.mono ?_
      rintro e w2 ⟨rfl, hb2⟩
      go_wp2
      go_ret2
      exact MeanPost.no HN.out (below_trans hb hb2 hb.size)

/-- What holds all through a round. -/
def Mid (w : World) (B n k : Nat) (zs : List C3) (W : World) : Prop := Below w.heap.size w W ∧ B < W.heap.size ∧ Made W B n k zs
theorem Mid.drew {w W : World} {B n k : Nat} {zs : List C3} (h : Mid w B n k zs W) : Mid w B n k zs W.drew := ⟨h.1.drew, h.2.1, h.2.2⟩
theorem Mid.next {w W W' : World} {B n k : Nat} {zs : List C3} (h : Mid w B n k zs W) (hb : Below W.heap.size W W') : Mid w B n k zs W' :=
  ⟨below_trans h.1 hb h.1.size, Nat.lt_of_lt_of_le h.2.1 hb.size, h.2.2.kept (hb.block _ h.2.1)⟩
theorem Mid.load {w W : World} {B n k : Nat} {zs : List C3} (h : Mid w B n k zs W) {p : Addr} {v : Value} (hc : w.cell? p = some v) : W.cell? p = some v := (grown_of h.1).cell hc (by simp)
theorem Made.weaken {w : World} {b n k : Nat} {cs : List C3} (h : Made w b n (k + 1) cs) : Made w b n k cs := by
  obtain ⟨cur, h1, h2, h3⟩ := h
  exact ⟨cur, h1, h2, fun i hi hk => h3 i hi (by omega)⟩
theorem Mid.put {w W : World} {B n k : Nat} {zs : List C3} (h : Mid w B n k zs W) (hwB : w.heap.size ≤ B) (hn : k < zs.length) (hk : zs.length ≤ n) :
    Mid w B n (k + 1) zs ((W.setCell ⟨B, k * 2, none⟩ (.float .f32 zs[k].1)).setCell ⟨B, k * 2 + 1, none⟩ (.complex .f32 zs[k].2.1 zs[k].2.2)) :=
  ⟨(h.1.setCell (p := ⟨B, k * 2, none⟩) hwB _).setCell (p := ⟨B, k * 2 + 1, none⟩) hwB _, by simpa [World.setCell] using h.2.1, h.2.2.step hn hk⟩
theorem Mid.weaken {w W : World} {B n k : Nat} {zs : List C3} (h : Mid w B n (k + 1) zs W) : Mid w B n k zs W := ⟨h.1, h.2.1, h.2.2.weaken⟩
set_option maxHeartbeats 4000000 in
theorem meanRow_yes (v v' : Value) (a b : List C3) (w : World) (h : RowV w v a) (h' : RowV w v' b) (hl : a.length ≤ 1000000) (hl' : b.length ≤ 1000000) (hyes : meanOk a b = true) :
    Calls Try.prog 14 #[v, v'] w fun e w' => MeanPost a b w e w' := by
  have HN := Lib.hid hyes
  have HR := Lib.hid (rowOk_any v a w h hl)
  have HR2 := fun W hW => Lib.hid (rowOk_any v' b W hW hl')
  have HV := Lib.hid h'
  unfold meanOk at hyes
  rw [Bool.and_eq_true, Bool.and_eq_true, decide_eq_true_iff] at hyes
  obtain ⟨hra, hrb, hlen⟩ := hyes
  rw [hra] at HR
  rw [hrb] at HR2
  obtain ⟨g, o, cap, rfl, hcap, hcell⟩ := h.len (rok_ne hra)
  obtain ⟨g', o', cap', rfl, hcap', hcell'⟩ := h'.len (rok_ne hrb)
  have HC := Lib.hid hcell
  have HC' := Lib.hid hcell'
  have HX := fun k (hk : k < a.length) (hk' : k < b.length) W => Lib.hid (meanWith_any a[k] b[k] W (fin_at hra hk) (fin_at hrb hk'))
  have hzl : (List.zipWith mid a b).length = a.length := by rw [List.length_zipWith, ← hlen, Nat.min_self]
  have hmk := make_cells a.length hl
  have hbn : ((a.length : Int) != (b.length : Int)) = false := by rw [hlen]; simp
  have HZ := Lib.hid hzl
  have HLEN := Lib.hid hlen
  clear hra hrb h h' hcell hcell' hzl hlen
  go_enter Try.func14, Try.ntmps14
  go_wp2_with fail
  refine HR.out.mono ?_
  rintro e w1 ⟨rfl, hb⟩
  go_wp2_with fail
  refine (HR2 w1 (HV.out.below hb)).out.mono ?_
  rintro e w2 ⟨rfl, hb2⟩
  have hb02 := below_trans hb hb2 hb.size
  clear hb hb2 HR HR2 HV
  obtain ⟨B, hB⟩ : ∃ B, w2.heap.size = B := ⟨_, rfl⟩
  have hst := Made.start w2 a.length (List.zipWith mid a b)
  have hbel := hb02.alloc hb02.size (.cells (madeCells #[.float .f32 0, .complex .f32 0 0] (a.length * 2)) 45)
  have hsz : B < (w2.alloc (.cells (madeCells #[.float .f32 0, .complex .f32 0 0] (a.length * 2)) 45)).heap.size := by simp; omega
  have hwB : w.heap.size ≤ B := by have := hb02.size; omega
  rw [hB] at hst
  obtain ⟨w3, hw3⟩ : ∃ w3, w2.alloc (.cells (madeCells #[.float .f32 0, .complex .f32 0 0] (a.length * 2)) 45) = w3 := ⟨_, rfl⟩
  rw [hw3] at hst hbel hsz
  have HST := Lib.hid hst
  clear hst
  go_wp2
  clear hmk hw3 hB hb02
  go_loopw [28] (fun i wr => ∃ k : Nat, k ≤ a.length ∧ i = .int .i64 (k : Int) ∧ Mid w B a.length k (List.zipWith mid a b) wr) (fun i _ => a.length - (intOf i).toNat)
  case atStart => exact ⟨0, Nat.zero_le _, rfl, hbel, hsz, HST.out⟩
  case round =>
    obtain ⟨k, hk, rfl, hm⟩ := hrel
    have HM := Lib.hid hm
    clear hm HST
    by_cases hlt : k < a.length
    · have hltb : k < b.length := by have := HLEN.out; omega
      obtain ⟨hc0, hc1⟩ := HC.out k hlt
      obtain ⟨hc0', hc1'⟩ := HC'.out k hltb
      have HK := fun W => HX k hlt hltb W
      have hlm : k < (List.zipWith mid a b).length := by have := HZ.out; omega
      have HMK := Lib.hid (show (List.zipWith mid a b)[k] = mid a[k] b[k] from List.getElem_zipWith)
      have hput := fun W (hW : Mid w B a.length k (List.zipWith mid a b) W) => hW.put hwB hlm (by have := HZ.out; omega)
      rw [HMK.out] at hput
      have HPUT := Lib.hid hput
      clear hput HMK
      generalize hck : a[k] = c at *
      generalize hdk : b[k] = d at *
      clear hck hdk
      have HL := Lib.hid (fun W (hW : Mid w B a.length k (List.zipWith mid a b) W) => And.intro (hW.load hc0) (And.intro (hW.load hc1) (And.intro (hW.load hc0') (hW.load hc1'))))
      have HF := Lib.hid (fun W (hW : Mid w B a.length k (List.zipWith mid a b) W) => hW.2.2.at k hlt)
      have hk0 := HM.out.drew
      obtain ⟨m0, m1, m2, m3⟩ := HL.out _ HM.out
      clear hc0 hc1 hc0' hc1'
      go_wp2
      go_region_held3 (fun W => Mid w B a.length k (List.zipWith mid a b) W ∧ W.cell? ⟨g, o + k * 2, none⟩ = some (.float .f32 c.1) ∧ W.cell? ⟨g, o + k * 2 + 1, none⟩ = some (.complex .f32 c.2.1 c.2.2) ∧ W.cell? ⟨g', o' + k * 2, none⟩ = some (.float .f32 d.1) ∧ W.cell? ⟨g', o' + k * 2 + 1, none⟩ = some (.complex .f32 d.2.1 d.2.2)) (go_keep)
        (first | (go_at_call 37; refine (HK _).out.mono ?_; rintro e w4 ⟨rfl, hb4⟩; have hK4 := Mid.next (w := w) (B := B) (n := a.length) (k := k) (zs := List.zipWith mid a b) (by first | assumption | simp [*]) hb4; obtain ⟨k0, k1, k2, k3⟩ := HL.out _ hK4; obtain ⟨⟨x0, e0⟩, ⟨x1, e1⟩, g0, g1⟩ := HF.out _ hK4; have kP := HPUT.out _ hK4; have kQ := kP.weaken; obtain ⟨l0, l1, l2, l3⟩ := HL.out _ kQ))
      have HP := Lib.hid kP
      clear k0 k1 k2 k3 e0 e1 g0 g1 kP kQ l0 l1 l2 l3 hK4 hb4 m0 m1 m2 m3 hk0 HPUT HL HF HK
      go_wp2
      go_roundw
      case rel => exact ⟨k + 1, by omega, by go_num, HP.out⟩
      case measure => simp [intOf]; omega
    · have hkk : k = a.length := by omega
      subst hkk
      have hrow := HM.out.2.2.row HZ.out
      have HR := Lib.hid hrow
      clear hrow
      go_wp2
      go_ret2
      exact MeanPost.yes HN.out HR.out HM.out.1
theorem meanRow_any (v v' : Value) (a b : List C3) (w : World) (h : RowV w v a) (h' : RowV w v' b) (hl : a.length ≤ 1000000) (hl' : b.length ≤ 1000000) :
    Calls Try.prog 14 #[v, v'] w fun e w' => MeanPost a b w e w' := by
  cases hm : meanOk a b with
  | false => exact meanRow_no v v' a b w h h' hl hl' hm
  | true => exact meanRow_yes v v' a b w h h' hl hl' hm
end Go.Proofs.Ytlbepmiomcmcnaa
