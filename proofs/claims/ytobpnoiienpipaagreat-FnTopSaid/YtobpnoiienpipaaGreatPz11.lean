/-
  What is proved: what the model draws as a row of sixteenths; the decoding of what such a row is encoded to.
  Conditions: the cursor's block holds a cursor.
-/
import Derived.Test.YtobpnoiienpipaaGreatPz10
import Derived.Test.YtobpnoiienpipaaGreatPz05
import Derived.Test.YtobpnoiienpipaaGreatDecode
import Derived.Deep.RegionHeld3
import Derived.Test.YtobpnoiienpipaaGreatPz04
namespace Go.Proofs.YtobpnoiienpipaaGreat
set_option linter.unusedVariables false
open Go.RowKit
attribute [local go_sem] run_store_float run_store_complex unary_negf neg256

/-- A cell of sixteenths a, b, d. -/
def PC (c : C3) (a b d : Int) : Prop := Flt.Sx c.1 a ∧ Flt.Sx c.2.1 b ∧ Flt.Sx c.2.2 d ∧ a.natAbs ≤ 1024 ∧ b.natAbs ≤ 512 ∧ d.natAbs ≤ 512
def PlainR (cs : List C3) : Prop := ∀ c ∈ cs, ∃ a b d, PC c a b d
theorem PC.fit {c : C3} {a b d : Int} (h : PC c a b d) : c.1 < 2 ^ 32 ∧ c.2.1 < 2 ^ 32 ∧ c.2.2 < 2 ^ 32 := ⟨h.1.1, h.2.1.1, h.2.2.1.1⟩
theorem PC.fins {c : C3} {a b d : Int} (h : PC c a b d) : Flt.fin c.1 = true ∧ Flt.fin c.2.1 = true ∧ Flt.fin c.2.2 = true := by
  obtain ⟨h1, h2, h3, k1, k2, k3⟩ := h
  exact ⟨h1.fin (by omega), h2.fin (by omega), h3.fin (by omega)⟩
theorem PC.cj {c : C3} {a b d : Int} (h : PC c a b d) : PC (cj c) a b (-d) := by
  obtain ⟨h1, h2, h3, k1, k2, k3⟩ := h
  exact ⟨h1, h2, h3.neg, k1, k2, by omega⟩
theorem PlainR.fit {cs : List C3} (h : PlainR cs) : Fit cs := fun c hc => by obtain ⟨a, b, d, k⟩ := h c hc; exact k.fit
theorem PlainR.cj {cs : List C3} (h : PlainR cs) : PlainR (cs.map cj) := by
  intro c hc
  obtain ⟨e, he, rfl⟩ := List.mem_map.1 hc
  obtain ⟨a, b, d, k⟩ := h e he
  exact ⟨_, _, _, k.cj⟩
theorem PlainR.rok {cs : List C3} (h : PlainR cs) (h1 : 1 ≤ cs.length) (h2 : cs.length ≤ 64) : rok cs = true :=
  rok_iff.2 ⟨⟨h1, h2⟩, fun c hc => by obtain ⟨a, b, d, k⟩ := h c hc; exact k.fins⟩
theorem PlainR.snoc {cs : List C3} {c : C3} {a b d : Int} (h : PlainR cs) (hc : PC c a b d) : PlainR (cs ++ [c]) := by
  intro e he
  rcases List.mem_append.1 he with he | he
  · exact h e he
  · obtain rfl := List.mem_singleton.1 he; exact ⟨_, _, _, hc⟩
theorem Res.is {op : BinOp} {x y r r' : Nat} (h : Res op x y r) (e : floatBits op .f32 x y = some r') : r = r' := by
  rcases h with h | ⟨h, _⟩
  · rw [e] at h; exact (Option.some.inj h).symm
  · rw [e] at h; cases h
theorem sx_addv {x y : Nat} {a b : Int} (hx : Flt.Sx x a) (hy : Flt.Sx y b) (h : (a + b).natAbs < 2 ^ 24) : Flt.Sx (addv x y) (a + b) := by
  obtain ⟨r, hr, hs⟩ := hx.add hy h
  unfold addv
  rw [hr]; exact hs
def PlainPost (b : Nat) (w : World) (e : Ending) (w' : World) : Prop :=
  ∃ (y u v : Nat) (p q r : Int), PC (y, u, v) p q r ∧ e = .returned (.agg #[.float .f32 y, .complex .f32 u v]) ∧ Cur w' b ∧ w.grownBy w' (some b)
set_option maxHeartbeats 1000000 in
theorem l02Plain_any (b : Nat) (w : World) (hc : Cur w b) :
    Calls Tryz.prog 83 #[.pointer (some ⟨b, 0, none⟩)] w fun e w' => PlainPost b w e w' := by
  have hlt := hc.lt
  have hcA := hc.alloc (.cells #[.float .f32 0, .complex .f32 0 0] 61)
  have hgA := World.grownBy_alloc w (.cells #[.float .f32 0, .complex .f32 0 0] 61) (some b)
  have hnew := heap_alloc_new w (.cells #[.float .f32 0, .complex .f32 0 0] 61)
  have hsA : w.heap.size < (w.alloc (.cells #[.float .f32 0, .complex .f32 0 0] 61)).heap.size := by simp
  have HN := Lib.hid hnew
  clear hc hnew
  go_enter Tryz.func83, Tryz.ntmps83
  go_wp2_with fail
  generalize w.alloc (.cells #[.float .f32 0, .complex .f32 0 0] 61) = wA at *
  refine (l01Below_any b _ _ hcA (by decide) (by decide)).mono ?_
  rintro e w1 ⟨x1, hx1, _, rfl, hc1, hg1⟩
  have hx1 := hx1 (by decide)
  obtain ⟨y, hy, sy⟩ := Flt.Sx.sixteenth (n := (x1 : Int) - 1024) (by omega)
  have qy := fun W => run_float_arith (P := Tryz.prog) W .quo 25 .f32 _ _ _ hy
  have HY := Lib.hid sy
  clear hy sy
  go_wp2_with fail
  refine (l01Below_any b _ _ hc1 (by decide) (by decide)).mono ?_
  rintro e w2 ⟨x2, hx2, _, rfl, hc2, hg2⟩
  have hx2 := hx2 (by decide)
  obtain ⟨u, hu, su⟩ := Flt.Sx.sixteenth (n := (x2 : Int) - 512) (by omega)
  have qu := fun W => run_float_arith (P := Tryz.prog) W .quo 25 .f32 _ _ _ hu
  have HU := Lib.hid su
  clear hu su
  go_wp2_with fail
  refine (l01Below_any b _ _ hc2 (by decide) (by decide)).mono ?_
  rintro e w3 ⟨x3, hx3, _, rfl, hc3, hg3⟩
  have hx3 := hx3 (by decide)
  obtain ⟨v, hv, sv⟩ := Flt.Sx.sixteenth (n := (x3 : Int) - 512) (by omega)
  have qv := fun W => run_float_arith (P := Tryz.prog) W .quo 25 .f32 _ _ _ hv
  have HV := Lib.hid sv
  clear hv sv
  have hg := (hg1.trans hg2).trans hg3
  have hB : w3.heap[w.heap.size]? = some (.cells #[.float .f32 0, .complex .f32 0 0] 61 (0, 0)) := (hg.block _ hsA (by intro h; cases h; omega)).trans HN.out
  have c0 : w3.cell? ⟨w.heap.size, 0, none⟩ = some (.float .f32 0) := by simp [World.cell?, hB]
  have c1 : w3.cell? ⟨w.heap.size, 1, none⟩ = some (.complex .f32 0 0) := by simp [World.cell?, hB]
  have f0 : w3.frozen? ⟨w.heap.size, 0, none⟩ = false := by simp [World.frozen?, hB]
  have f1 : w3.frozen? ⟨w.heap.size, 1, none⟩ = false := by simp [World.frozen?, hB]
  have hB2 := heap_put (i := 1) (v := .complex .f32 u v) (heap_put (i := 0) (v := .float .f32 y) hB)
  have hgr := grown_set (grown_set (hgA.trans hg) (p := ⟨w.heap.size, 0, none⟩) (Nat.le_refl _) (.float .f32 y)) (p := ⟨w.heap.size, 1, none⟩) (Nat.le_refl _) (.complex .f32 u v)
  have hcr := (hc3.set (p := ⟨w.heap.size, 0, none⟩) hlt (.float .f32 y)).set (p := ⟨w.heap.size, 1, none⟩) hlt (.complex .f32 u v)
  have HPC := Lib.hid (show PC (y, u, v) ((x1 : Int) - 1024) ((x2 : Int) - 512) ((x3 : Int) - 512) from ⟨HY.out, HU.out, HV.out, by omega, by omega, by omega⟩)
  clear hB hc1 hc2 hc3 hg1 hg2 hg3 hg hgA hcA
  have HB := Lib.hid hB2
  clear hB2
  go_wp2
  generalize ((w3.setCell ⟨w.heap.size, 0, none⟩ (.float .f32 y)).setCell ⟨w.heap.size, 1, none⟩ (.complex .f32 u v)) = w4 at *
  have d0 : w4.cell? ⟨w.heap.size, 0, none⟩ = some (.float .f32 y) := by have := HB.out; simp [World.cell?, this]
  have d1 : w4.cell? ⟨w.heap.size, 1, none⟩ = some (.complex .f32 u v) := by have := HB.out; simp [World.cell?, this]
  refine bodyPost_ret (v := .agg #[.float .f32 y, .complex .f32 u v]) ?_ rfl ⟨y, u, v, _, _, _, HPC.out, rfl, hcr, hgr⟩
  simp [results, Tryz.results83, go_sem, d0, d1]

def PlainDraw (w : World) (e : Ending) (w' : World) : Prop := ∃ v cs, (1 ≤ cs.length ∧ cs.length ≤ 6) ∧ PlainR cs ∧ e = .returned v ∧ RowV w' v cs ∧ Below w.heap.size w w'
theorem PlainDraw.mk {w w' : World} {v : Value} {cs : List C3} (hl : 1 ≤ cs.length ∧ cs.length ≤ 6) (hp : PlainR cs) (hr : RowV w' v cs) (hb : Below w.heap.size w w') : PlainDraw w (.returned v) w' := ⟨v, cs, hl, hp, rfl, hr, hb⟩
theorem decode_any (v : Value) (xs : List Nat) (odd : Bool) (w : World) (h : FRow w v xs) (hl : xs.length ≤ 4000000) :
    Calls Tryz.prog 173 #[v, .bool odd] w fun e w' => DecPost xs odd w e w' := by
  obtain ⟨a, c, rfl, hcell⟩ := h.any
  by_cases hm : xs.length % 4 = 0
  · exact callsIn_wide.1 (decode_in a c (xs.length / 4) xs odd w (by omega) hl hcell)
  · have hmod : ((xs.length : Int) % 4 != 0) = true := by simp; omega
    have HM := Lib.hid hm
    clear hcell h hm
    go_enter Tryz.func173, Tryz.ntmps173
    go_wp2
    go_ret2
    exact ⟨_, [], fun h => absurd h HM.out, fun _ => rfl, (by intro c hc; cases hc), rfl, RNew.nil _ _, Below.refl _ _⟩
end Go.Proofs.YtobpnoiienpipaaGreat

/-
  What is proved: the walk of the model's DecodeCells.
  Conditions: the list can be read; at most 4000000 numbers.
-/
namespace Go.Proofs.YtobpnoiienpipaaGreat
set_option linter.unusedVariables false
open Go.RowKit
attribute [local go_sem] run_store_float run_store_complex unary_negf neg256

theorem rok_cj_eq {cs : List C3} (hf : Fit cs) : rok (cs.map cj) = rok cs := by
  cases h : rok cs with
  | true => exact rok_cj hf h
  | false =>
    cases h2 : rok (cs.map cj) with
    | false => rfl
    | true =>
      have hf2 : Fit (cs.map cj) := by
        intro c hc
        obtain ⟨d, hd, rfl⟩ := List.mem_map.1 hc
        exact ⟨(hf d hd).1, (hf d hd).2.1, Flt.neg_lt32 (hf d hd).2.2⟩
      have := rok_cj hf2 h2
      rw [cj_cj, h] at this
      cases this
/-- What stands at the head of a round. -/
structure SD (xs : List Nat) (odd : Bool) (w wr : World) (I gg cc n : Nat) (cs : List C3) : Prop where
  len : I = 4 * cs.length
  num : n = cs.length
  fit : Fit cs
  fours : ∀ i (h : i < cs.length), four xs i cs[i]
  own : OwnC wr w.heap.size (.slice (some ⟨gg, 0, none⟩) n cc) (if odd = true then cs.map cj else cs)
  below : Below w.heap.size w wr
  sz : w.heap.size < wr.heap.size
theorem SD.next {xs : List Nat} {odd : Bool} {w wr w2 : World} {I gg cc n : Nat} {cs : List C3} (h : SD xs odd w wr I gg cc n cs) (hb : Below wr.heap.size wr w2) : SD xs odd w w2 I gg cc n cs :=
  ⟨h.len, h.num, h.fit, h.fours, h.own.kept (grown_of hb) (.inr (by intro e; cases e)), below_trans h.below hb h.below.size, Nat.lt_of_lt_of_le h.sz hb.size⟩
theorem SD.snoc {xs : List Nat} {odd : Bool} {w w2 w6 : World} {I gg cc n g6 cap6 : Nat} {cs D : List C3} {c d : C3} (o : Obj) (o' : Obj) (h : SD xs odd w w2 I gg cc n cs) (hD : D = if odd = true then cs.map cj else cs) (hd : d = if odd = true then cj c else c) (hc : four xs cs.length c)
    (ho : OwnC w6 w.heap.size (.slice (some ⟨g6, 0, none⟩) (D.length + [d].length) cap6) (D ++ [d])) (hg : ((w2.alloc o).alloc o').grownBy w6 (Value.slice (some ⟨gg, 0, none⟩) n cc).ownBlock) : SD xs odd w w6 (I + 4) g6 cap6 (cs.length + 1) (cs ++ [c]) := by
  have hDl : D.length = cs.length := by subst hD; split <;> simp
  have hb : Below w.heap.size w ((w2.alloc o).alloc o') := (h.below.alloc h.below.size o).alloc (Nat.le_trans h.below.size (by simp)) o'
  have hs : w.heap.size < ((w2.alloc o).alloc o').heap.size := Nat.lt_of_lt_of_le h.sz (by simp; omega)
  refine ⟨by simp [h.len]; omega, by simp, ?_, ?_, ?_, hb.grown hg (Nat.le_of_lt hs) (fun r hr => (h.own.lt r hr).1), Nat.lt_of_lt_of_le hs hg.size⟩
  · intro q hq
    rcases List.mem_append.1 hq with hq | hq
    · exact h.fit q hq
    · obtain rfl := List.mem_singleton.1 hq; exact hc.2.2.2
  · intro i hi
    by_cases hlt : i < cs.length
    · rw [List.getElem_append_left hlt]; exact h.fours i hlt
    · have e : i = cs.length := by simp at hi; omega
      subst e
      simpa using hc
  · have e : (if odd = true then (cs ++ [c]).map cj else cs ++ [c]) = D ++ [d] := by
      subst hD hd
      cases odd <;> simp
    rw [e]
    rw [hDl] at ho
    exact ho
theorem SD.rok {xs : List Nat} {odd : Bool} {w wr : World} {I gg cc n : Nat} {cs : List C3} (h : SD xs odd w wr I gg cc n cs) : rok (if odd = true then cs.map cj else cs) = Proofs.YtobpnoiienpipaaGreat.rok cs := by
  cases odd
  · rfl
  · exact rok_cj_eq h.fit
end Go.Proofs.YtobpnoiienpipaaGreat

/-
  What is proved: two answers of DecodeCells to one list are the same but for the NaNs' bits.
  Conditions: none.
-/
namespace Go.Proofs.YtobpnoiienpipaaGreat
set_option linter.unusedVariables false
open Go.RowKit

theorem fin_nan {x : Nat} (h : isN x = true) : Flt.fin x = false := by
  unfold isN at h
  unfold Flt.fin Flt.lo Flt.hi Ieee.Format.order
  cases hx : Ieee.single.read x with
  | number s m e => rw [hx] at h; simp [Ieee.Datum.isNaN] at h
  | infinity s => rw [hx] at h; simp [Ieee.Datum.isNaN] at h
  | nan => simp [Ieee.Datum.order]
theorem Sm.fin {x y : Nat} (h : Sm x y) : Flt.fin x = Flt.fin y := by
  rcases h with rfl | ⟨h1, h2⟩
  · rfl
  · rw [fin_nan h1, fin_nan h2]
def CSameL (cs ds : List C3) : Prop := cs.length = ds.length ∧ ∀ i (h : i < cs.length) (h' : i < ds.length), CSame cs[i] ds[i]
theorem CSame.symm {c d : C3} (h : CSame c d) : CSame d c := ⟨h.1.symm, h.2.1.symm, h.2.2.symm⟩
theorem CSameL.symm {cs ds : List C3} (h : CSameL cs ds) : CSameL ds cs := ⟨h.1.symm, fun i hi hi' => (h.2 i hi' hi).symm⟩
theorem DecL.same {xs : List Nat} {cs ds : List C3} (h : DecL xs cs) (h' : DecL xs ds) : CSameL cs ds :=
  ⟨by have h1 := h.1; have h2 := h'.1; omega, fun i hi hi' => DecR.same (h.2 i hi) (h'.2 i hi')⟩
theorem CSameL.rok1 {cs ds : List C3} (h : CSameL cs ds) (hr : rok cs = true) : rok ds = true := by
  obtain ⟨h1, h2⟩ := rok_iff.1 hr
  refine rok_iff.2 ⟨by rw [← h.1]; exact h1, fun d hd => ?_⟩
  obtain ⟨i, hi, rfl⟩ := List.getElem_of_mem hd
  have hi' : i < cs.length := by rw [h.1]; exact hi
  obtain ⟨a, b, c⟩ := h.2 i hi' hi
  obtain ⟨e, f, g⟩ := h2 cs[i] (List.getElem_mem hi')
  exact ⟨a.fin ▸ e, b.fin ▸ f, c.fin ▸ g⟩
theorem CSameL.rok {cs ds : List C3} (h : CSameL cs ds) : rok cs = Proofs.YtobpnoiienpipaaGreat.rok ds := by
  cases h1 : Proofs.YtobpnoiienpipaaGreat.rok cs with
  | true => exact (h.rok1 h1).symm
  | false =>
    cases h2 : Proofs.YtobpnoiienpipaaGreat.rok ds with
    | false => rfl
    | true => rw [h.symm.rok1 h2] at h1; cases h1
theorem dec_same {xs : List Nat} {cs ds : List C3} (h1 : xs.length % 4 = 0 → DecL xs cs) (h2 : xs.length % 4 ≠ 0 → cs = []) (h3 : xs.length % 4 = 0 → DecL xs ds) (h4 : xs.length % 4 ≠ 0 → ds = []) : CSameL cs ds := by
  by_cases h : xs.length % 4 = 0
  · exact (h1 h).same (h3 h)
  · rw [h2 h, h4 h]
    exact ⟨rfl, fun i hi => absurd hi (by simp)⟩
end Go.Proofs.YtobpnoiienpipaaGreat

/-
  What is proved: the walks of BurstColour, the program's and the model's.
  Conditions: the list can be read, and has at most 4000000 numbers.
-/
namespace Go.Proofs.YtobpnoiienpipaaGreat
set_option linter.unusedVariables false
open Go.RowKit
open Flt (Mag sumv subv mulv quov)
attribute [local go_sem] run_store_float run_store_complex unary_negf neg256

theorem cadd_run {a b c d re im : Nat} (h1 : floatBits .add .f32 a c = some re) (h2 : floatBits .add .f32 b d = some im) (W : World) : (binOp .add 26 (.complex .f32 a b) (.complex .f32 c d)).run Tryz.prog W = .ok (.complex .f32 re im) W :=
  run_complex_sum W .add (.inl rfl) 26 .f32 a b c d re im (by simp [cSumBits, h1, h2])

/-- Sums of the first numbers of four. -/
def psum (a b c d : Nat) : Nat → Nat
  | 0 => a
  | 1 => sumv a b
  | 2 => sumv (sumv a b) c
  | _ => sumv (sumv (sumv a b) c) d
def quarter4 (a b c d : Nat) : Nat := quov (sumv (sumv (sumv a b) c) d) 1082130432
structure Sum4 (a b c d : Nat) : Prop where
  s1 : floatBits .add .f32 a b = some (psum a b c d 1)
  s2 : floatBits .add .f32 (psum a b c d 1) c = some (psum a b c d 2)
  s3 : floatBits .add .f32 (psum a b c d 2) d = some (psum a b c d 3)
  q : floatBits .quo .f32 (psum a b c d 3) 1082130432 = some (quarter4 a b c d)
  mag : Mag 165 (quarter4 a b c d)
theorem sum4_of {a b c d : Nat} (ha : Flt.fin a = true) (hb : Flt.fin b = true) (hc : Flt.fin c = true) (hd : Flt.fin d = true) : Sum4 a b c d := by
  have m1 := (Flt.fin_mag ha).add (Flt.fin_mag hb) (by decide)
  have m2 := m1.2.add ((Flt.fin_mag hc).mono (by decide)) (by decide)
  have m3 := m2.2.add ((Flt.fin_mag hd).mono (by decide)) (by decide)
  have m4 := m3.2.quarter (by decide)
  exact ⟨m1.1, m2.1, m3.1, m4.1, m4.2⟩
/-- What a list tells of the colour of its burst. -/
def BurstR (xs : List Nat) (u z : Nat) (ok : Bool) : Prop :=
  if lineOk xs = true then ∃ c0 c1 c2 c3 : C3, DecL (part xs 8 16) [c0, c1, c2, c3] ∧ ok = rok [c0, c1, c2, c3] ∧
    (ok = true → u = quarter4 c0.2.1 c1.2.1 c2.2.1 c3.2.1 ∧ z = quarter4 c0.2.2 c1.2.2 c2.2.2 c3.2.2) ∧ (ok = false → u = 0 ∧ z = 0)
  else ok = false ∧ u = 0 ∧ z = 0
theorem rok_four {c0 c1 c2 c3 : C3} (h : rok [c0, c1, c2, c3] = true) : Sum4 c0.2.1 c1.2.1 c2.2.1 c3.2.1 ∧ Sum4 c0.2.2 c1.2.2 c2.2.2 c3.2.2 := by
  obtain ⟨_, h2⟩ := rok_iff.1 h
  have f0 := h2 c0 (by simp)
  have f1 := h2 c1 (by simp)
  have f2 := h2 c2 (by simp)
  have f3 := h2 c3 (by simp)
  exact ⟨sum4_of f0.2.1 f1.2.1 f2.2.1 f3.2.1, sum4_of f0.2.2 f1.2.2 f2.2.2 f3.2.2⟩
theorem zero_mag : Mag 165 0 := ⟨false, 0, -149, Flt.read_zero, .inl rfl⟩
theorem BurstR.mag {xs : List Nat} {u z : Nat} {ok : Bool} (h : BurstR xs u z ok) : Mag 165 u ∧ Mag 165 z := by
  unfold BurstR at h
  split at h
  · obtain ⟨c0, c1, c2, c3, _, h2, h3, h4⟩ := h
    cases ok with
    | false => obtain ⟨rfl, rfl⟩ := h4 rfl; exact ⟨zero_mag, zero_mag⟩
    | true =>
      obtain ⟨s1, s2⟩ := rok_four h2.symm
      obtain ⟨rfl, rfl⟩ := h3 rfl
      exact ⟨s1.mag, s2.mag⟩
  · obtain ⟨_, rfl, rfl⟩ := h
    exact ⟨zero_mag, zero_mag⟩
theorem sm_fin {x y : Nat} (h : Sm x y) (hx : Flt.fin x = true) : x = y := by
  rcases h with h | ⟨h1, _⟩
  · exact h
  · rw [fin_nan h1] at hx; cases hx
theorem BurstR.same {xs : List Nat} {u z u' z' : Nat} {ok ok' : Bool} (h : BurstR xs u z ok) (h' : BurstR xs u' z' ok') : ok = ok' ∧ u = u' ∧ z = z' := by
  unfold BurstR at h h'
  by_cases hl : lineOk xs = true
  · rw [if_pos hl] at h h'
    obtain ⟨c0, c1, c2, c3, d, rfl, h3, h4⟩ := h
    obtain ⟨e0, e1, e2, e3, d', rfl, h3', h4'⟩ := h'
    have hs := d.same d'
    have hr := hs.rok
    refine ⟨hr, ?_⟩
    cases hk : rok [c0, c1, c2, c3] with
    | false =>
      have hk' := hr.symm.trans hk
      obtain ⟨rfl, rfl⟩ := h4 hk
      obtain ⟨rfl, rfl⟩ := h4' hk'
      exact ⟨rfl, rfl⟩
    | true =>
      have hk' := hr.symm.trans hk
      obtain ⟨rfl, rfl⟩ := h3 hk
      obtain ⟨rfl, rfl⟩ := h3' hk'
      obtain ⟨_, h2⟩ := rok_iff.1 hk
      have f0 := h2 c0 (by simp)
      have f1 := h2 c1 (by simp)
      have f2 := h2 c2 (by simp)
      have f3 := h2 c3 (by simp)
      have k0 := hs.2 0 (by simp) (by simp)
      have k1 := hs.2 1 (by simp) (by simp)
      have k2 := hs.2 2 (by simp) (by simp)
      have k3 := hs.2 3 (by simp) (by simp)
      have a0 := sm_fin k0.2.1 f0.2.1
      have a1 := sm_fin k1.2.1 f1.2.1
      have a2 := sm_fin k2.2.1 f2.2.1
      have a3 := sm_fin k3.2.1 f3.2.1
      have b0 := sm_fin k0.2.2 f0.2.2
      have b1 := sm_fin k1.2.2 f1.2.2
      have b2 := sm_fin k2.2.2 f2.2.2
      have b3 := sm_fin k3.2.2 f3.2.2
      simp only [List.getElem_cons_zero, List.getElem_cons_succ] at a0 a1 a2 a3 b0 b1 b2 b3
      rw [a0, a1, a2, a3, b0, b1, b2, b3]
      exact ⟨rfl, rfl⟩
  · rw [if_neg hl] at h h'
    obtain ⟨rfl, rfl, rfl⟩ := h
    obtain ⟨rfl, rfl, rfl⟩ := h'
    exact ⟨rfl, rfl, rfl⟩
def BurstPost (xs : List Nat) (w : World) (e : Ending) (w' : World) : Prop := ∃ u z ok, e = .returned (.tuple #[.complex .f32 u z, .bool ok]) ∧ BurstR xs u z ok ∧ Below w.heap.size w w'
theorem BurstPost.no {xs : List Nat} {w w' : World} (h : lineOk xs = false) (hb : Below w.heap.size w w') : BurstPost xs w (.returned (.tuple #[.complex .f32 0 0, .bool false])) w' :=
  ⟨0, 0, false, rfl, by unfold BurstR; rw [if_neg (by rw [h]; decide)]; exact ⟨rfl, rfl, rfl⟩, hb⟩
theorem BurstPost.dim {xs : List Nat} {w w' : World} {c0 c1 c2 c3 : C3} (h : lineOk xs = true) (hd : DecL (part xs 8 16) [c0, c1, c2, c3]) (hr : rok [c0, c1, c2, c3] = false) (hb : Below w.heap.size w w') : BurstPost xs w (.returned (.tuple #[.complex .f32 0 0, .bool false])) w' :=
  ⟨0, 0, false, rfl, by unfold BurstR; rw [if_pos h]; exact ⟨c0, c1, c2, c3, hd, hr.symm, (fun h => by cases h), (fun _ => ⟨rfl, rfl⟩)⟩, hb⟩
theorem BurstPost.yes {xs : List Nat} {w w' : World} {c0 c1 c2 c3 : C3} (h : lineOk xs = true) (hd : DecL (part xs 8 16) [c0, c1, c2, c3]) (hr : rok [c0, c1, c2, c3] = true) (hb : Below w.heap.size w w') :
    BurstPost xs w (.returned (.tuple #[.complex .f32 (quarter4 c0.2.1 c1.2.1 c2.2.1 c3.2.1) (quarter4 c0.2.2 c1.2.2 c2.2.2 c3.2.2), .bool true])) w' :=
  ⟨_, _, true, rfl, by unfold BurstR; rw [if_pos h]; exact ⟨c0, c1, c2, c3, hd, hr.symm, (fun _ => ⟨rfl, rfl⟩), (fun h => by cases h)⟩, hb⟩
theorem four_of16 {ys : List Nat} {cs : List C3} (hl : ys.length = 16) (h : DecL ys cs) : ∃ c0 c1 c2 c3, cs = [c0, c1, c2, c3] := by
  have h1 := h.1
  match cs, h1 with
  | [c0, c1, c2, c3], _ => exact ⟨c0, c1, c2, c3, rfl⟩
  | [], h1 => simp at h1; omega
  | [_], h1 => simp at h1; omega
  | [_, _], h1 => simp at h1; omega
  | [_, _, _], h1 => simp at h1; omega
  | _ :: _ :: _ :: _ :: _ :: _, h1 => simp at h1; omega

theorem arith_run {op : BinOp} {x y r : Nat} (h : floatBits op .f32 x y = some r) (W : World) : (binOp op 25 (.float .f32 x) (.float .f32 y)).run Tryz.prog W = .ok (.float .f32 r) W := run_float_arith (P := Tryz.prog) W op 25 .f32 x y r h
theorem divided_any (x y n p q : Nat) (w : World) (h1 : floatBits .quo .f32 x n = some p) (h2 : floatBits .quo .f32 y n = some q) :
    Calls Tryz.prog 154 #[.complex .f32 x y, .float .f32 n] w fun e w' => e = .returned (.complex .f32 p q) ∧ w = w' := by
  have r1 := arith_run h1
  have r2 := arith_run h2
  clear h1 h2
  go_enter Tryz.func154, Tryz.ntmps154
  go_wp2
  go_ret
  exact ⟨rfl, rfl⟩
set_option maxHeartbeats 2000000 in
set_option maxRecDepth 100000 in
theorem burstColour_any (v : Value) (xs : List Nat) (w : World) (h : FRow w v xs) (hl : xs.length ≤ 4000000) :
    Calls Tryz.prog 169 #[v] w fun e w' => BurstPost xs w e w' := by
  have HO := Lib.hid (lineOk_any v xs w h hl)
  cases ho : lineOk xs with
  | false =>
    rw [ho] at HO
    clear h
    go_enter Tryz.func169, Tryz.ntmps169
    go_wp2_with fail
    refine HO.out.mono ?_
    rintro e w1 ⟨rfl, rfl⟩
    go_wp2
    go_ret2
    exact BurstPost.no ho (Below.refl _ _)
  | true =>
    rw [ho] at HO
    have hlen := lineOk_len ho
    rcases h with ⟨_, h1⟩ | ⟨g, o, cap, rfl, hcap, hcell⟩
    · subst h1; simp at hlen
    · have hpl := part_len xs 8 16 (by omega)
      have HD := Lib.hid (decode_any (.slice (some ⟨g, o + 8, none⟩) 16 16) (part xs 8 16) false w (FRow.part (.inr ⟨g, o, cap, rfl, hcap, hcell⟩) rfl 8 16 16 (by omega) (by omega) (by omega)) (by omega))
      have HK := Lib.hid (burst_any g o xs.length cap w (by omega) hcap hl)
      have HLO := Lib.hid ho
      have HPL := Lib.hid hpl
      clear hcell ho hpl hlen
      go_enter Tryz.func169, Tryz.ntmps169
      go_wp2_with fail
      refine HO.out.mono ?_
      rintro e w1 ⟨rfl, rfl⟩
      go_wp2_with fail
      refine HK.out.mono ?_
      rintro e w1 ⟨rfl, rfl⟩
      go_wp2_with fail
      refine HD.out.mono ?_
      rintro e w1 ⟨v1, cs, hd1, _, _, rfl, hn1, hb1⟩
      have hd := hd1 (by rw [HPL.out])
      obtain ⟨c0, c1, c2, c3, rfl⟩ := four_of16 HPL.out hd
      have HDL := Lib.hid hd
      clear hd hd1 HD HK
      cases hr : rok [c0, c1, c2, c3] with
      | false =>
        have HR := Lib.hid hr
        clear hn1 hr
        go_wp2
        go_ret2
        exact BurstPost.dim HLO.out HDL.out HR.out hb1
      | true =>
        rw [hr] at hn1
        have HR := Lib.hid hr
        obtain ⟨s1, s2⟩ := rok_four hr
        rcases hn1.row with ⟨_, h0⟩ | ⟨g', o', cap', rfl, hcap', hcell'⟩
        · cases h0
        · obtain ⟨p0, q0⟩ := hcell' 0 (by simp)
          obtain ⟨p1, q1⟩ := hcell' 1 (by simp)
          obtain ⟨p2, q2⟩ := hcell' 2 (by simp)
          obtain ⟨p3, q3⟩ := hcell' 3 (by simp)
          have hcap4 : 4 ≤ cap' := hcap'
          have HDV := fun W => Lib.hid (divided_any (psum c0.2.1 c1.2.1 c2.2.1 c3.2.1 3) (psum c0.2.2 c1.2.2 c2.2.2 c3.2.2 3) 1082130432 _ _ W s1.q s2.q)
          have A1 := Lib.hid (fun W => cadd_run s1.s1 s2.s1 W)
          have A2 := Lib.hid (fun W => cadd_run s1.s2 s2.s2 W)
          have A3 := Lib.hid (fun W => cadd_run s1.s3 s2.s3 W)
          have HBY := Lib.hid (fun (w' : World) hb => BurstPost.yes (w := w) (w' := w') HLO.out HDL.out HR.out hb)
          have z1 : psum c0.2.1 c1.2.1 c2.2.1 c3.2.1 0 = c0.2.1 := rfl
          have z2 : psum c0.2.2 c1.2.2 c2.2.2 c3.2.2 0 = c0.2.2 := rfl
          clear hr hn1 hcap' hcell' s1 s2 HDL HR
          generalize psum c0.2.1 c1.2.1 c2.2.1 c3.2.1 = P at *
          generalize psum c0.2.2 c1.2.2 c2.2.2 c3.2.2 = Q at *
          generalize quarter4 c0.2.1 c1.2.1 c2.2.1 c3.2.1 = R at *
          generalize quarter4 c0.2.2 c1.2.2 c2.2.2 c3.2.2 = S at *
          obtain ⟨y0, u0, v0⟩ := c0
          obtain ⟨y1, u1, v1⟩ := c1
          obtain ⟨y2, u2, v2⟩ := c2
          obtain ⟨y3, u3, v3⟩ := c3
          simp only [List.getElem_cons_zero, List.getElem_cons_succ, Nat.zero_mul, Nat.add_zero, Nat.one_mul] at p0 q0 p1 q1 p2 q2 p3 q3 z1 z2
          go_wp2
          go_loopw [6, 27] (fun s i wr => ∃ k : Nat, (k = 0 ∨ k = 1 ∨ k = 2 ∨ k = 3) ∧ i = .int .i64 (k : Int) ∧ s = .complex .f32 (P k) (Q k) ∧ Below w1.heap.size w1 wr) (fun _ i _ => 3 - (intOf i).toNat)
          case atStart => exact ⟨0, .inl rfl, rfl, by rw [z1, z2], Below.refl _ _⟩
          case round =>
            obtain ⟨k, hk, rfl, rfl, hb⟩ := hrel
            rcases hk with rfl | rfl | rfl | rfl
            · have e0 := (grown_of hb).cell p1 (by simp)
              have e1 := (grown_of hb).cell q1 (by simp)
              have a1 := A1.out
              go_wp2
              go_roundw
              case rel => exact ⟨1, .inr (.inl rfl), rfl, rfl, hb.alloc hb.size _⟩
              case measure => simp [intOf]
            · have e0 := (grown_of hb).cell p2 (by simp)
              have e1 := (grown_of hb).cell q2 (by simp)
              have a1 := A2.out
              go_wp2
              go_roundw
              case rel => exact ⟨2, .inr (.inr (.inl rfl)), rfl, rfl, hb.alloc hb.size _⟩
              case measure => simp [intOf]
            · have e0 := (grown_of hb).cell p3 (by simp)
              have e1 := (grown_of hb).cell q3 (by simp)
              have a1 := A3.out
              go_wp2
              go_roundw
              case rel => exact ⟨3, .inr (.inr (.inr rfl)), rfl, rfl, hb.alloc hb.size _⟩
              case measure => simp [intOf]
            · go_wp2_with fail
              refine (HDV _).out.mono ?_
              rintro e w4 ⟨rfl, rfl⟩
              go_wp2
              go_ret2
              exact HBY.out _ (below_trans hb1 hb hb1.size)

end Go.Proofs.YtobpnoiienpipaaGreat
