/-
  What is proved: a sum of two single floats of amounts of at most a power of two has an amount of at most the next one.
  Conditions: those that each fact names.
-/
import Derived.Test.YtgecclccmmcdoaaPkCell
import Derived.Test.YtgecclccmmcdoaaMean
import Derived.Deep.RegionHeld3
namespace Go.Proofs.Ytgecclccmmcdoaa.Flt
set_option linter.unusedVariables false
open Ieee

/-- A number of an amount of at most 2 to the k, counted in units of the least place. -/
def Le (k : Nat) (x : Nat) : Prop := ∃ s u, Num single x s u ∧ u ≤ 2 ^ k
theorem Le.mag {k x : Nat} (h : Le k x) : Mag (k + 1) x := by
  obtain ⟨s, u, h1, h2⟩ := h
  exact mag_num h1 h2
theorem Le.mono {k l x : Nat} (h : Le k x) (hkl : k ≤ l) : Le l x := by
  obtain ⟨s, u, h1, h2⟩ := h
  exact ⟨s, u, h1, Nat.le_trans h2 (Nat.pow_le_pow_right (by decide) hkl)⟩
theorem Mag.le {k x : Nat} (h : Mag k x) : Le k x := by
  obtain ⟨s, m, e, h1, h2⟩ := h
  have hn := read_num h1
  obtain ⟨m', e', h3, h4, h5⟩ := hn
  rw [h1] at h3
  injection h3 with _ e1 e2
  subst e1; subst e2
  refine ⟨s, _, read_num h1, ?_⟩
  rw [place32] at h4 ⊢
  exact Nat.le_of_lt (scaled_lt (h2.imp id (fun h => by omega)))
theorem nearest_le (s : Bool) (mag : Nat) (place : Int) (K : Nat) (hK : K ≤ 273) (hp : -149 ≤ place) (h : mag * 2 ^ (place + 149).toNat ≤ 2 ^ K) : Le K (single.nearest s mag place) := by
  by_cases hm : mag = 0
  · refine ⟨s, 0, ?_, Nat.zero_le _⟩
    have e : single.nearest s mag place = single.word s 0 := by unfold Format.nearest; rw [if_pos hm]
    rw [e]
    exact num_zero single s (by rw [inf32]; decide)
  · have hl2 : 2 ^ mag.log2 ≤ mag := Nat.log2_self_le hm
    have hlg : mag.log2 + (place + 149).toNat ≤ K := by
      have h5 : 2 ^ mag.log2 * 2 ^ (place + 149).toNat ≤ 2 ^ K := Nat.le_trans (Nat.mul_le_mul_right _ hl2) h
      rw [← Nat.pow_add] at h5
      exact (Nat.pow_le_pow_iff_right (by decide : 1 < 2)).1 h5
    obtain ⟨last, hl⟩ : ∃ last : Int, last = max (place + mag.log2 - 23) (-149) := ⟨_, rfl⟩
    obtain ⟨c, hc⟩ : ∃ c, c = (place - last).toNat := ⟨_, rfl⟩
    obtain ⟨d, hd⟩ : ∃ d, d = (last - place).toNat := ⟨_, rfl⟩
    have h1 : Toward.even.cut s (mag * 2 ^ c) d ≤ 2 ^ 24 := by
      apply cut_le
      rw [← Nat.pow_add]
      exact Nat.le_of_lt (scaled_lt (.inr (by omega)))
    have h2 : Toward.even.cut s (mag * 2 ^ c) d ≤ 2 ^ (K - (last + 149).toNat) := by
      apply cut_le
      rw [← Nat.pow_add]
      have hp2 : 0 < 2 ^ (last + 149).toNat := two_pos _
      refine (Nat.mul_le_mul_right_iff hp2).1 ?_
      rw [← Nat.pow_add, Nat.mul_assoc, ← Nat.pow_add]
      by_cases hpl : last ≤ place
      · rw [show c + (last + 149).toNat = (place + 149).toNat by omega, show K - (last + 149).toNat + d + (last + 149).toNat = K by omega]
        exact h
      · rw [show c + (last + 149).toNat = (place + 149).toNat + d by omega, show K - (last + 149).toNat + d + (last + 149).toNat = K + d by omega, Nat.pow_add, Nat.pow_add, ← Nat.mul_assoc]
        exact Nat.mul_le_mul_right _ h
    have h3 := num_nearest single s mag place hm last (by rw [hl, frac32, place32]; rfl) c d hc hd (by
      rw [place32, inf32, bin32]
      have h4 : (last - -149).toNat ≤ 251 := by omega
      have h5 : (last - -149).toNat * 2 ^ 23 ≤ 251 * 2 ^ 23 := Nat.mul_le_mul_right _ h4
      omega)
    refine ⟨s, _, h3, ?_⟩
    rw [place32]
    have h6 : Toward.even.cut s (mag * 2 ^ c) d * 2 ^ (last - -149).toNat ≤ 2 ^ (K - (last + 149).toNat) * 2 ^ (last - -149).toNat := Nat.mul_le_mul_right _ h2
    rw [← Nat.pow_add, show K - (last + 149).toNat + (last - -149).toNat = K by omega] at h6
    exact h6
theorem Le.add {k x y : Nat} (hx : Le k x) (hy : Le k y) (hk : k ≤ 260) : floatBits .add .f32 x y = some (sumv x y) ∧ Le (k + 1) (sumv x y) := by
  refine ⟨(Mag.add hx.mag hy.mag (by omega)).1, ?_⟩
  obtain ⟨s, u, ⟨m, i, a1, a2, a3⟩, hu⟩ := hx
  obtain ⟨t, v, ⟨n, j, b1, b2, b3⟩, hv⟩ := hy
  rw [place32] at a2 a3 b2 b3
  have e : floatBits .add .f32 x y = some (single.write (Datum.number (if signed s m (i - min i j).toNat + signed t n (j - min i j).toNat = 0 then s && t else decide (signed s m (i - min i j).toNat + signed t n (j - min i j).toNat < 0)) (signed s m (i - min i j).toNat + signed t n (j - min i j).toNat).natAbs (min i j))) := by
    show single.add x y = _
    unfold Format.add
    rw [a1, b1]
    rfl
  unfold sumv
  rw [e]
  show Le (k + 1) (single.nearest _ _ _)
  refine nearest_le _ _ _ (k + 1) (by omega) (by omega) ?_
  rw [signed_sg, signed_sg]
  have hle : (sg s (m * 2 ^ (i - min i j).toNat) + sg t (n * 2 ^ (j - min i j).toNat)).natAbs ≤ m * 2 ^ (i - min i j).toNat + n * 2 ^ (j - min i j).toNat := by
    have := Int.natAbs_add_le (sg s (m * 2 ^ (i - min i j).toNat)) (sg t (n * 2 ^ (j - min i j).toNat))
    rw [natAbs_sg, natAbs_sg] at this
    exact this
  refine Nat.le_trans (Nat.mul_le_mul_right _ hle) ?_
  rw [Nat.add_mul, Nat.mul_assoc, Nat.mul_assoc, ← Nat.pow_add, ← Nat.pow_add, Nat.pow_succ]
  rw [show (i - min i j).toNat + (min i j + 149).toNat = (i - -149).toNat by omega, show (j - min i j).toNat + (min i j + 149).toNat = (j - -149).toNat by omega, ← a3, ← b3]
  omega
end Go.Proofs.Ytgecclccmmcdoaa.Flt

/-
  What is proved: the walk of MeanRow.
  Conditions: both rows can be read.
-/
namespace Go.Proofs.Ytgecclccmmcdoaa
set_option linter.unusedVariables false
open Go.RowKit
attribute [local go_sem] run_store_float run_store_complex unary_negf neg256

def meanOk (a b : List C3) : Bool := rok a && (rok b && decide (a.length = b.length))
def MeanPost (a b : List C3) (w : World) (e : Ending) (w' : World) : Prop := ∃ v', e = .returned (.tuple #[v', .bool (meanOk a b)]) ∧ (meanOk a b = true → RowV w' v' (List.zipWith mid a b)) ∧ Below w.heap.size w w'
theorem MeanPost.no {a b : List C3} {w w' : World} {v' : Value} (h : meanOk a b = false) (hb : Below w.heap.size w w') : MeanPost a b w (.returned (.tuple #[v', .bool false])) w' := ⟨v', by rw [h], (fun e => by rw [h] at e; cases e), hb⟩
theorem MeanPost.yes {a b : List C3} {w w' : World} {v' : Value} (h : meanOk a b = true) (hr : RowV w' v' (List.zipWith mid a b)) (hb : Below w.heap.size w w') : MeanPost a b w (.returned (.tuple #[v', .bool true])) w' := ⟨v', by rw [h], fun _ => hr, hb⟩
theorem fin_at {cs : List C3} (h : rok cs = true) {k : Nat} (hk : k < cs.length) : Finc cs[k] := (rok_iff.1 h).2 _ (List.getElem_mem hk)
theorem RowV.len {w : World} {v : Value} {cs : List C3} (h : RowV w v cs) (hne : cs ≠ []) : ∃ g o cap, v = .slice (some ⟨g, o, none⟩) cs.length cap ∧ cs.length ≤ cap ∧
    ∀ i (h : i < cs.length), w.cell? ⟨g, o + i * 2, none⟩ = some (.float .f32 cs[i].1) ∧ w.cell? ⟨g, o + i * 2 + 1, none⟩ = some (.complex .f32 cs[i].2.1 cs[i].2.2) := by
  rcases h with ⟨_, h⟩ | h
  · exact absurd h hne
  · exact h
theorem RowV.lenv {w : World} {v : Value} {cs : List C3} (h : RowV w v cs) : ∃ a cap, v = .slice a cs.length cap := by
  rcases h with ⟨h, h2⟩ | ⟨g, o, cap, h, _⟩
  · subst h2; exact ⟨none, 0, h⟩
  · exact ⟨_, _, h⟩


/-- What holds all through a round. -/
def Mid (w : World) (B n k : Nat) (zs : List C3) (W : World) : Prop := Below w.heap.size w W ∧ B < W.heap.size ∧ Made W B n k zs
theorem Mid.drew {w W : World} {B n k : Nat} {zs : List C3} (h : Mid w B n k zs W) : Mid w B n k zs W.drew := ⟨h.1.drew, h.2.1, h.2.2⟩
theorem Mid.next {w W W' : World} {B n k : Nat} {zs : List C3} (h : Mid w B n k zs W) (hb : Below W.heap.size W W') : Mid w B n k zs W' :=
  ⟨below_trans h.1 hb h.1.size, Nat.lt_of_lt_of_le h.2.1 hb.size, h.2.2.kept (hb.block _ h.2.1)⟩
theorem Mid.load {w W : World} {B n k : Nat} {zs : List C3} (h : Mid w B n k zs W) {p : Addr} {v : Value} (hc : w.cell? p = some v) : W.cell? p = some v := (grown_of h.1).cell hc (by simp)
theorem Made.weaken {w : World} {b n k : Nat} {cs : List C3} (h : Made w b n (k + 1) cs) : Made w b n k cs := by
  obtain ⟨cur, h1, h2, h3⟩ := h
  exact ⟨cur, h1, h2, fun i hi hk => h3 i hi (by omega)⟩
theorem Mid.put {w W : World} {B n k : Nat} {zs : List C3} (h : Mid w B n k zs W) (hwB : w.heap.size ≤ B) (hn : k < zs.length) (hk : zs.length ≤ n) :
    Mid w B n (k + 1) zs ((W.setCell ⟨B, k * 2, none⟩ (.float .f32 zs[k].1)).setCell ⟨B, k * 2 + 1, none⟩ (.complex .f32 zs[k].2.1 zs[k].2.2)) :=
  ⟨(h.1.setCell (p := ⟨B, k * 2, none⟩) hwB _).setCell (p := ⟨B, k * 2 + 1, none⟩) hwB _, by simpa [World.setCell] using h.2.1, h.2.2.step hn hk⟩
theorem Mid.weaken {w W : World} {B n k : Nat} {zs : List C3} (h : Mid w B n (k + 1) zs W) : Mid w B n k zs W := ⟨h.1, h.2.1, h.2.2.weaken⟩
end Go.Proofs.Ytgecclccmmcdoaa

/-
  What is proved: how far the program says that colours are turned from one row to another.
  Conditions: those that each fact names.
-/
namespace Go.Proofs.Ytgecclccmmcdoaa
set_option linter.unusedVariables false
open Go.RowKit
attribute [local go_sem] run_store_float run_store_complex unary_negf neg256

theorem arith_runT {op : BinOp} {x y r : Nat} (h : floatBits op .f32 x y = some r) (W : World) : (binOp op 26 (.float .f32 x) (.float .f32 y)).run Try.prog W = .ok (.float .f32 r) W := run_float_arith (P := Try.prog) W op 26 .f32 x y r h
def tterm (c d : C3) : Nat := Flt.subv (Flt.mulv c.2.1 d.2.2) (Flt.mulv c.2.2 d.2.1)
def tsum (ps qs : List C3) : Nat → Nat
  | 0 => 0
  | k + 1 => Flt.sumv (tsum ps qs k) (tterm (ps.getD k (0, 0, 0)) (qs.getD k (0, 0, 0)))
def turnV (ps qs : List C3) : Nat := if meanOk ps qs = true then tsum ps qs ps.length else 0
structure TermM (c d : C3) : Prop where
  m1 : floatBits .mul .f32 c.2.1 d.2.2 = some (Flt.mulv c.2.1 d.2.2)
  m2 : floatBits .mul .f32 c.2.2 d.2.1 = some (Flt.mulv c.2.2 d.2.1)
  s : floatBits .sub .f32 (Flt.mulv c.2.1 d.2.2) (Flt.mulv c.2.2 d.2.1) = some (tterm c d)
  le : Flt.Le 170 (tterm c d)
theorem termM_of {c d : C3} (hc : Finc c) (hd : Finc d) : TermM c d := by
  have h1 := Flt.Mag.mul (Flt.fin_mag hc.2.1) (Flt.fin_mag hd.2.2) (by decide) (by decide)
  have h2 := Flt.Mag.mul (Flt.fin_mag hc.2.2) (Flt.fin_mag hd.2.1) (by decide) (by decide)
  have h3 := Flt.Mag.sub h1.2 h2.2 (by decide)
  exact ⟨h1.1, h2.1, h3.1, h3.2.le⟩
theorem tsum_le {ps qs : List C3} (ha : ∀ c ∈ ps, Finc c) (hb : ∀ c ∈ qs, Finc c) : ∀ k, k ≤ ps.length → k ≤ qs.length → k ≤ 64 → Flt.Le (170 + k) (tsum ps qs k)
  | 0, _, _, _ => by
    refine ⟨false, 0, ?_, Nat.zero_le _⟩
    have h := Flt.num_zero Ieee.single false (by decide)
    have e : Ieee.single.word false 0 = 0 := by decide
    rwa [e] at h
  | k + 1, h1, h2, h3 => by
    have ih := tsum_le ha hb k (by omega) (by omega) (by omega)
    have ht := (termM_of (ha (ps.getD k (0, 0, 0)) (by rw [List.getD_eq_getElem?_getD, List.getElem?_eq_getElem (show k < ps.length by omega)]; exact List.getElem_mem _)) (hb (qs.getD k (0, 0, 0)) (by rw [List.getD_eq_getElem?_getD, List.getElem?_eq_getElem (show k < qs.length by omega)]; exact List.getElem_mem _))).le
    exact (Flt.Le.add ih (ht.mono (by omega)) (by omega)).2
theorem tsum_step {ps qs : List C3} (ha : ∀ c ∈ ps, Finc c) (hb : ∀ c ∈ qs, Finc c) {k : Nat} (h1 : k < ps.length) (h2 : k < qs.length) (h3 : k < 64) : floatBits .add .f32 (tsum ps qs k) (tterm ps[k] qs[k]) = some (tsum ps qs (k + 1)) := by
  have ih := tsum_le ha hb k (by omega) (by omega) (by omega)
  have ht := (termM_of (ha _ (List.getElem_mem h1)) (hb _ (List.getElem_mem h2))).le
  have := (Flt.Le.add ih (ht.mono (by omega)) (by omega)).1
  rw [this]
  show _ = some (Flt.sumv (tsum ps qs k) (tterm (ps.getD k (0, 0, 0)) (qs.getD k (0, 0, 0))))
  rw [List.getD_eq_getElem?_getD, List.getElem?_eq_getElem h1, List.getD_eq_getElem?_getD, List.getElem?_eq_getElem h2]
  rfl
def TurnPost (ps qs : List C3) (w : World) (e : Ending) (w' : World) : Prop := e = .returned (.tuple #[.float .f32 (turnV ps qs), .bool (meanOk ps qs)]) ∧ Below w.heap.size w w'
theorem TurnPost.no {ps qs : List C3} {w w' : World} (h : meanOk ps qs = false) (hb : Below w.heap.size w w') : TurnPost ps qs w (.returned (.tuple #[.float .f32 0, .bool false])) w' := by
  refine ⟨?_, hb⟩
  unfold turnV
  rw [if_neg (by rw [h]; decide), h]
theorem TurnPost.yes {ps qs : List C3} {w w' : World} (h : meanOk ps qs = true) (hb : Below w.heap.size w w') : TurnPost ps qs w (.returned (.tuple #[.float .f32 (tsum ps qs ps.length), .bool true])) w' := by
  refine ⟨?_, hb⟩
  unfold turnV
  rw [if_pos h, h]
set_option maxHeartbeats 1000000 in
theorem hueTurn_no (v v' : Value) (a b : List C3) (w : World) (h : RowV w v a) (h' : RowV w v' b) (hl : a.length ≤ 1000000) (hl' : b.length ≤ 1000000) (hno : meanOk a b = false) :
    Calls Try.prog 18 #[v, v'] w fun e w' => TurnPost a b w e w' := by
  have HN := Lib.hid hno
  have HR := Lib.hid (rowOk_any v a w h hl)
  have HR2 := fun W hW => Lib.hid (rowOk_any v' b W hW hl')
  have HV := Lib.hid h'
  obtain ⟨ad, cap, rfl⟩ := h.lenv
  obtain ⟨ad', cap', rfl⟩ := h'.lenv
  unfold meanOk at hno
  cases hra : rok a with
  | false =>
    rw [hra] at HR
    clear hra hno h h'
    go_enter Try.func18, Try.ntmps18
    go_wp2_with fail
    refine HR.out.mono ?_
    rintro e w1 ⟨rfl, hb⟩
    go_wp2
    go_ret2
    exact TurnPost.no HN.out hb
  | true =>
    rw [hra] at HR hno
    cases hrb : rok b with
    | false =>
      rw [hrb] at HR2
      clear hra hrb hno h h'
      go_enter Try.func18, Try.ntmps18
      go_wp2_with fail
      refine HR.out.mono ?_
      rintro e w1 ⟨rfl, hb⟩
      go_wp2_with fail
      refine (HR2 w1 (HV.out.below hb)).out.mono ?_
      rintro e w2 ⟨rfl, hb2⟩
      go_wp2
      go_ret2
      exact TurnPost.no HN.out (below_trans hb hb2 hb.size)
    | true =>
      rw [hrb] at HR2 hno
      have hne : a.length ≠ b.length := by simpa using hno
      have hbn : ((a.length : Int) != (b.length : Int)) = true := by simp; omega
      clear hra hrb hno h h' hne
      go_enter Try.func18, Try.ntmps18
      go_wp2_with fail
      refine HR.out.mono ?_
      rintro e w1 ⟨rfl, hb⟩
      go_wp2_with fail
      refine (HR2 w1 (HV.out.below hb)).out.mono ?_
      rintro e w2 ⟨rfl, hb2⟩
      go_wp2
      go_ret2
      exact TurnPost.no HN.out (below_trans hb hb2 hb.size)
set_option maxHeartbeats 2000000 in
theorem hueTurn_yes (v v' : Value) (a b : List C3) (w : World) (h : RowV w v a) (h' : RowV w v' b) (hl : a.length ≤ 1000000) (hl' : b.length ≤ 1000000) (hyes : meanOk a b = true) :
    Calls Try.prog 18 #[v, v'] w fun e w' => TurnPost a b w e w' := by
  have HN := Lib.hid hyes
  have HR := Lib.hid (rowOk_any v a w h hl)
  have HR2 := fun W hW => Lib.hid (rowOk_any v' b W hW hl')
  have HV := Lib.hid h'
  unfold meanOk at hyes
  rw [Bool.and_eq_true, Bool.and_eq_true, decide_eq_true_iff] at hyes
  obtain ⟨hra, hrb, hlen⟩ := hyes
  rw [hra] at HR
  rw [hrb] at HR2
  obtain ⟨g, o, cap, rfl, hcap, hcell⟩ := h.len (rok_ne hra)
  obtain ⟨g', o', cap', rfl, hcap', hcell'⟩ := h'.len (rok_ne hrb)
  have HC := Lib.hid hcell
  have HC' := Lib.hid hcell'
  have hl64 : a.length ≤ 64 := (rok_iff.1 hra).1.2
  have HX := Lib.hid (fun k (hk : k < a.length) (hk' : k < b.length) => And.intro (termM_of (fin_at hra hk) (fin_at hrb hk')) (tsum_step (rok_iff.1 hra).2 (rok_iff.1 hrb).2 hk hk' (by omega)))
  have hbn : ((a.length : Int) != (b.length : Int)) = false := by rw [hlen]; simp
  have HLEN := Lib.hid hlen
  clear hra hrb h h' hcell hcell' hlen
  go_enter Try.func18, Try.ntmps18
  go_wp2_with fail
  refine HR.out.mono ?_
  rintro e w1 ⟨rfl, hb⟩
  go_wp2_with fail
  refine (HR2 w1 (HV.out.below hb)).out.mono ?_
  rintro e w2 ⟨rfl, hb2⟩
  have hb02 := below_trans hb hb2 hb.size
  clear hb hb2 HR HR2 HV
  go_wp2
  go_loopw [6, 27] (fun s i wr => ∃ k : Nat, k ≤ a.length ∧ i = .int .i64 (k : Int) ∧ s = .float .f32 (tsum a b k) ∧ Below w.heap.size w wr) (fun _ i _ => a.length - (intOf i).toNat)
  case atStart => exact ⟨0, Nat.zero_le _, rfl, rfl, hb02⟩
  case round =>
    obtain ⟨k, hk, rfl, rfl, hb3⟩ := hrel
    by_cases hlt : k < a.length
    · have hltb : k < b.length := by have := HLEN.out; omega
      obtain ⟨hc0, hc1⟩ := HC.out k hlt
      obtain ⟨hc0', hc1'⟩ := HC'.out k hltb
      obtain ⟨⟨r1, r2, r3, _⟩, r4⟩ := HX.out k hlt hltb
      have hlc : b.length ≤ cap' := hcap'
      have q1 := (grown_of hb3).cell hc1 (by simp)
      have q2 := (grown_of hb3).cell hc1' (by simp)
      have hbk : (k : Int) < (b.length : Int) := by omega
      have a1 := fun W => arith_runT r1 W
      have a2 := fun W => arith_runT r2 W
      have a3 := fun W => arith_runT r3 W
      have a4 := fun W => arith_runT r4 W
      clear hc0 hc1 hc0' hc1' r1 r2 r3 r4
      generalize a[k] = c at *
      generalize b[k] = d at *
      generalize tterm c d = T at *
      obtain ⟨s2, hs2⟩ : ∃ s2, tsum a b (k + 1) = s2 := ⟨_, rfl⟩
      rw [hs2] at a4
      have HS2 := Lib.hid hs2
      clear hs2
      generalize tsum a b k = s1 at *
      have hb4 : Below w.heap.size w wr.drew := belowDN hb3 1
      go_wp2
      go_region
      all_goals
        go_wp2
        go_roundw
        case rel => exact ⟨k + 1, by omega, by go_num, by rw [HS2.out], by first | exact hb4 | exact hb3⟩
        case measure => simp [intOf]; omega
    · have hkk : k = a.length := by omega
      subst hkk
      go_wp2
      go_ret2
      exact TurnPost.yes HN.out hb3
theorem hueTurn_any (v v' : Value) (a b : List C3) (w : World) (h : RowV w v a) (h' : RowV w v' b) (hl : a.length ≤ 1000000) (hl' : b.length ≤ 1000000) :
    Calls Try.prog 18 #[v, v'] w fun e w' => TurnPost a b w e w' := by
  cases hm : meanOk a b with
  | false => exact hueTurn_no v v' a b w h h' hl hl' hm
  | true => exact hueTurn_yes v v' a b w h h' hl hl' hm
end Go.Proofs.Ytgecclccmmcdoaa
