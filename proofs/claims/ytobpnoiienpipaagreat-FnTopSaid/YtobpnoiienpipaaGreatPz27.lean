/-
  What is proved: two plain lines of the same colours, one of them odd, that came through a plain channel, are decoded to these colours times the real part of its gain.
  Conditions: those that each fact names.
-/
import Derived.Test.YtobpnoiienpipaaGreatPz21
import Derived.Test.YtobpnoiienpipaaGreatPz26
import Derived.Test.YtobpnoiienpipaaGreatPz20
import Derived.Test.YtobpnoiienpipaaGreatDecode
import Derived.Test.YtobpnoiienpipaaGreatPz11
import Derived.Test.YtobpnoiienpipaaGreatPz17
namespace Go.Proofs.YtobpnoiienpipaaGreat
set_option linter.unusedVariables false
open Go.RowKit
open Flt

theorem sgo_not (o : Bool) : sgo (!o) = - sgo o := by cases o <;> rfl
theorem sgo_two (o : Bool) : (o = false ∧ sgo o = 1) ∨ (o = true ∧ sgo o = -1) := by cases o <;> simp [sgo]
theorem sq_pos {ξ η : Int} (h : ¬(ξ = 0 ∧ η = 0)) : 0 < ξ * ξ + η * η := by
  have h1 : 0 ≤ ξ * ξ := by rw [← Int.natAbs_mul_self]; exact Int.natCast_nonneg _
  have h2 : 0 ≤ η * η := by rw [← Int.natAbs_mul_self]; exact Int.natCast_nonneg _
  by_cases e : ξ = 0
  · have e2 : η ≠ 0 := fun e2 => h ⟨e, e2⟩
    have : η * η ≠ 0 := Int.mul_ne_zero e2 e2
    omega
  · have : ξ * ξ ≠ 0 := Int.mul_ne_zero e e
    omega
/-- The decoded rows of two lines that came through a channel. -/
structure Lost (α ω ξ : Int) (cs r0 r1 : List C3) : Prop where
  l0 : r0.length = cs.length
  l1 : r1.length = cs.length
  at0 : ∀ i (h : i < r0.length) (h' : i < cs.length) (y a b : Int), PC cs[i] y a b → QC 143 r0[i] (α * y + ω * 2 ^ 3) (a * ξ) (b * ξ) ∧ (α * y + ω * 2 ^ 3).natAbs ≤ 8448
  at1 : ∀ i (h : i < r1.length) (h' : i < cs.length) (y a b : Int), PC cs[i] y a b → Q 143 r1[i].2.1 (a * ξ) ∧ Q 143 r1[i].2.2 (b * ξ)
theorem Lost.rok {α ω ξ : Int} {cs r0 r1 : List C3} (h : Lost α ω ξ cs r0 r1) (hp : PlainR cs) (hx : ξ.natAbs ≤ 8) (h1 : 1 ≤ cs.length) (h2 : cs.length ≤ 64) : Proofs.YtobpnoiienpipaaGreat.rok r0 = true := by
  refine rok_iff.2 ⟨by rw [h.l0]; omega, fun d hd => ?_⟩
  obtain ⟨i, hi, rfl⟩ := List.mem_iff_getElem.1 hd
  have hi' : i < cs.length := by rw [← h.l0]; exact hi
  obtain ⟨y, a, b, hc⟩ := hp cs[i] (List.getElem_mem _)
  obtain ⟨k1, k2⟩ := h.at0 i hi hi' y a b hc
  have m1 := mul_le (n := 8) hc.2.2.2.2.1 hx
  have m2 := mul_le (n := 8) hc.2.2.2.2.2 hx
  exact k1.finc ⟨k2, by omega, by omega⟩
/-- The colours are not turned. -/
theorem Lost.turn {α ω ξ : Int} {cs r0 r1 : List C3} (h : Lost α ω ξ cs r0 r1) (hp : PlainR cs) (hx : ξ.natAbs ≤ 8) : ∀ k, k ≤ cs.length → Q 139 (tsum cs r0 k) 0
  | 0, _ => Q.zero 139
  | k + 1, hk => by
    have ih := h.turn hp hx k (by omega)
    have hk' : k < cs.length := by omega
    have hk0 : k < r0.length := by rw [h.l0]; exact hk'
    obtain ⟨y, a, b, hc⟩ := hp cs[k] (List.getElem_mem _)
    obtain ⟨k1, _⟩ := h.at0 k hk0 hk' y a b hc
    have m1 := mul_le (n := 8) hc.2.2.2.2.1 hx
    have m2 := mul_le (n := 8) hc.2.2.2.2.2 hx
    have m3 := mul_le hc.2.2.2.2.1 m2
    have m4 := mul_le hc.2.2.2.2.2 m1
    have q1 := q_mulv hc.2.1.q k1.2.2 (by omega) (by decide) (by decide)
    have q2 := q_mulv hc.2.2.1.q k1.2.1 (by omega) (by decide) (by decide)
    have e : a * (b * ξ) - b * (a * ξ) = 0 := by grind
    have q3 := q_subv q1 q2 (by rw [e]; decide) (by decide)
    rw [e] at q3
    have q4 := q_sumv ih q3 (by decide) (by decide)
    show Q 139 (sumv (tsum cs r0 k) (tterm (cs.getD k (0, 0, 0)) (r0.getD k (0, 0, 0)))) 0
    rw [List.getD_eq_getElem?_getD, List.getElem?_eq_getElem hk', List.getD_eq_getElem?_getD, List.getElem?_eq_getElem hk0]
    exact q4
theorem Lost.turnV {α ω ξ : Int} {cs r0 r1 : List C3} (h : Lost α ω ξ cs r0 r1) (hp : PlainR cs) (hx : ξ.natAbs ≤ 8) (h1 : 1 ≤ cs.length) (h2 : cs.length ≤ 64) : meanOk cs r0 = true ∧ Ieee.single.order (Proofs.YtobpnoiienpipaaGreat.turnV cs r0) 0 = some .eq := by
  have hm : meanOk cs r0 = true := by
    unfold meanOk
    rw [hp.rok h1 h2, h.rok hp hx h1 h2]
    simp [h.l0]
  refine ⟨hm, ?_⟩
  unfold Proofs.YtobpnoiienpipaaGreat.turnV
  rw [if_pos hm]
  exact Q.eq (h.turn hp hx _ (Nat.le_refl _)) (Q.zero 139)
end Go.Proofs.YtobpnoiienpipaaGreat

/-
  What is proved: lists of rows of cells to which rows are appended one by one.
  Conditions: those that each fact names.
-/
namespace Go.Proofs.YtobpnoiienpipaaGreat
set_option linter.unusedVariables false
open Go.RowKit

/-- A list of rows that can be read. -/
structure RowsV (w : World) (v : Value) (rows : List (List C3)) (ss : List SV) : Prop where
  row : LSc.Row w v ss
  len : ss.length = rows.length
  each : ∀ i (h : i < ss.length) (h' : i < rows.length), RowV w ss[i].v rows[i]
theorem GridN.rows {w : World} {base : Nat} {v : Value} {rows : List (List C3)} {ss : List SV} (h : GridN w base v rows ss) : RowsV w v rows ss :=
  ⟨h.own.row, h.len, fun i h1 h2 => (h.row i h1 h2).row⟩
theorem RowsV.below {w w' : World} {v : Value} {rows : List (List C3)} {ss : List SV} (h : RowsV w v rows ss) (hb : Below w.heap.size w w') : RowsV w' v rows ss :=
  ⟨h.row.below hb, h.len, fun i h1 h2 => (h.each i h1 h2).below hb⟩
theorem RowsV.any {w : World} {v : Value} {rows : List (List C3)} {ss : List SV} (h : RowsV w v rows ss) : ∃ a c, v = .slice a ss.length c ∧ ∀ k (hk : k < ss.length), ∃ g o, a = some ⟨g, o, none⟩ ∧ ss.length ≤ c ∧ w.cell? ⟨g, o + k, none⟩ = some ss[k].v := rowsC_any h.row
theorem GridN.nil0 (w : World) (base : Nat) : GridN w base (.slice none 0 0) [] [] :=
  ⟨Lay.ownNil LSc w base, rfl, fun i h => absurd h (by simp), fun i j h => absurd h (by simp), fun i h => absurd h (by simp)⟩
/-- A row that a call has made is appended. -/
theorem GridN.step {wr w5 w6 : World} {base g6 n6 cap6 : Nat} {v : Value} {rows : List (List C3)} {ss : List SV} {s : SV} {ys : List C3} (h : GridN wr base v rows ss) (hbase : base ≤ wr.heap.size) (hb5 : Below wr.heap.size wr w5) (hn5 : RNew w5 wr.heap.size s.v ys) (o : Obj)
    (ho : LSc.Own w6 base (.slice (some ⟨g6, 0, none⟩) n6 cap6) (ss ++ [s])) (hg6 : (w5.alloc o).grownBy w6 v.ownBlock) (hor : v.ownBlock = some g6 ∨ g6 = (w5.alloc o).heap.size) :
    GridN w6 base (.slice (some ⟨g6, 0, none⟩) n6 cap6) (rows ++ [ys]) (ss ++ [s]) ∧ wr.grownBy w6 v.ownBlock := by
  have hA : Below wr.heap.size wr (w5.alloc o) := hb5.alloc hb5.size _
  have hgr : wr.grownBy w6 v.ownBlock := World.grownBy.trans ⟨hA.os, hA.tape, hA.output, hA.size, fun k hk _ => hA.block k hk⟩ hg6
  have hvl := fun k e => h.own.lt k e
  have hs6 : RNew w6 base s.v ys := ((hn5.far (World.grownBy_alloc w5 o none) (by simp)).far hg6 (fun k e e' => by
    have h1 := (hvl k e').2
    have h2 := (hn5.lt k e).1
    omega)).mono hbase
  have hlt : ∀ i (hi : i < ss.length) k, ss[i].v.ownBlock = some k → k < wr.heap.size := fun i hi k e => ((h.row i hi (by rw [← h.len]; exact hi)).lt k e).2
  have hsz5 := hb5.size
  have hg6n : ∀ k, s.v.ownBlock = some k → k ≠ g6 := fun k e e2 => by
    subst e2
    have h1 := hn5.lt k e
    rcases hor with h2 | h2
    · have := (hvl k h2).2; omega
    · rw [World.size_alloc] at h2; omega
  have hl := h.len
  refine ⟨⟨ho, by simp [hl], fun i h1 h2 => ?_, fun i j h1 h2 hij k hk => ?_, fun i h1 k hk => ?_⟩, hgr⟩
  · by_cases hi : i < ss.length
    · rw [List.getElem_append_left hi, List.getElem_append_left (by omega)]
      exact (h.row i hi (by omega)).far hgr (fun k e e' => h.out i hi k e e')
    · have e : i = ss.length := by simp at h1; omega
      subst e
      rw [List.getElem_append_right (by omega), List.getElem_append_right (by omega)]
      simpa [hl] using hs6
  · by_cases hi : i < ss.length
    · rw [List.getElem_append_left hi] at hk
      by_cases hj : j < ss.length
      · rw [List.getElem_append_left hj]; exact h.apart i j hi hj hij k hk
      · rw [List.getElem_append_right (by omega)]
        intro e
        have e0 : j - ss.length = 0 := by simp at h2; omega
        simp only [e0, List.getElem_cons_zero] at e
        have := hlt i hi k hk
        have := (hn5.lt k e).1
        omega
    · rw [List.getElem_append_right (by omega)] at hk
      have e0 : i - ss.length = 0 := by simp at h1; omega
      simp only [e0, List.getElem_cons_zero] at hk
      by_cases hj : j < ss.length
      · rw [List.getElem_append_left hj]
        intro e
        have := hlt j hj k e
        have := (hn5.lt k hk).1
        omega
      · simp at h1 h2; omega
  · by_cases hi : i < ss.length
    · rw [List.getElem_append_left hi] at hk
      have hlk := hlt i hi k hk
      intro e
      have e2 : g6 = k := Option.some.inj e
      rcases hor with h2 | h2
      · exact h.out i hi k hk (by rw [h2, e2])
      · rw [World.size_alloc] at h2; omega
    · rw [List.getElem_append_right (by omega)] at hk
      have e0 : i - ss.length = 0 := by simp at h1; omega
      simp only [e0, List.getElem_cons_zero] at hk
      intro e
      exact hg6n k hk (Option.some.inj e).symm
end Go.Proofs.YtobpnoiienpipaaGreat

/-
  What is proved: what the program answers of a row whose colours are multiplied by any number, NaN and infinite ones among them.
  Conditions: the row can be read.
-/
namespace Go.Proofs.YtobpnoiienpipaaGreat
set_option linter.unusedVariables false
open Go.RowKit
attribute [local go_sem] run_store_float run_store_complex unary_negf neg256

/-- A cell whose colour is multiplied by k. -/
def ScC (k : Nat) (c d : C3) : Prop := d.1 = c.1 ∧ (Res .mul c.2.1 k d.2.1 ∧ Res .mul c.2.2 k d.2.2) ∧ (d.2.1 < 2 ^ 32 ∧ d.2.2 < 2 ^ 32)
theorem ScC.same {k : Nat} {c d e : C3} (h : ScC k c d) (h' : ScC k c e) : CSame d e := by
  obtain ⟨h1, ⟨h2, h3⟩, _⟩ := h
  obtain ⟨k1, ⟨k2, k3⟩, _⟩ := h'
  exact ⟨.inl (h1.trans k1.symm), Res.same (Sm.refl _) (Sm.refl _) h2 k2, Res.same (Sm.refl _) (Sm.refl _) h3 k3⟩
def ScL (k : Nat) (cs ds : List C3) : Prop := ds.length = cs.length ∧ ∀ i (h : i < ds.length) (h' : i < cs.length), ScC k cs[i] ds[i]
theorem ScL.same {k : Nat} {cs ds es : List C3} (h : ScL k cs ds) (h' : ScL k cs es) : CSameL ds es :=
  ⟨by rw [h.1, h'.1], fun i hi hi' => (h.2 i hi (by rw [← h.1]; exact hi)).same (h'.2 i hi' (by rw [← h.1]; exact hi))⟩
/-- What is answered of a row. -/
def ScaleRR (cs : List C3) (k : Nat) (l : List C3) (ok : Bool) : Prop := (rok cs = true ∧ ∃ ds, ScL k cs ds ∧ ok = rok ds ∧ l = if rok ds = true then ds else []) ∨ (rok cs = false ∧ l = [] ∧ ok = false)
theorem ScaleRR.same {cs : List C3} {k : Nat} {l l' : List C3} {a b : Bool} (h : ScaleRR cs k l a) (h' : ScaleRR cs k l' b) : a = b ∧ l = l' := by
  rcases h with ⟨h1, ds, h2, rfl, rfl⟩ | ⟨h1, h2, h3⟩ <;> rcases h' with ⟨k1, es, k2, rfl, rfl⟩ | ⟨k1, k2, k3⟩
  · have hs := h2.same k2
    have hr := hs.rok
    cases h3 : rok ds with
    | true =>
      rw [h3] at hr
      rw [← hr]
      exact ⟨rfl, same_eq hs h3⟩
    | false =>
      rw [h3] at hr
      rw [← hr]
      exact ⟨rfl, rfl⟩
  · rw [h1] at k1; cases k1
  · rw [h1] at k1; cases k1
  · exact ⟨h3.trans k3.symm, h2.trans k2.symm⟩
theorem ScaleRR.yes {cs : List C3} {k : Nat} {l : List C3} (h : ScaleRR cs k l true) : rok l = true ∧ rok cs = true ∧ ScL k cs l := by
  rcases h with ⟨h1, ds, h2, h3, rfl⟩ | ⟨_, _, h3⟩
  · rw [← h3, if_pos rfl]; exact ⟨h3.symm, h1, h2⟩
  · cases h3
def ScaleA (cs : List C3) (k : Nat) (w : World) (e : Ending) (w' : World) : Prop := ∃ v l ok, e = .returned (.tuple #[v, .bool ok]) ∧ ScaleRR cs k l ok ∧ RNew w' w.heap.size v l ∧ Below w.heap.size w w'
def ColA (u v k : Nat) (w : World) (e : Ending) (w' : World) : Prop := ∃ p q n, e = .returned (.complex .f32 p q) ∧ ((Res .mul u k p ∧ Res .mul v k q) ∧ (p < 2 ^ 32 ∧ q < 2 ^ 32)) ∧ w' = w.drewN n
theorem scaledColour_any (u v k : Nat) (w : World) :
    Calls Tryz.prog 176 #[.complex .f32 u v, .float .f32 k] w fun e w' => ColA u v k w e w' := by
  obtain ⟨p, n1, e1, R1, B1⟩ := run_res .mul (.inr (.inr (.inl rfl))) u k w
  obtain ⟨q, n2, e2, R2, B2⟩ := run_res .mul (.inr (.inr (.inl rfl))) v k (w.drewN n1)
  rw [drewN_addD] at e2
  have HR := Lib.hid (And.intro (And.intro R1 R2) (And.intro B1 B2))
  clear R1 R2 B1 B2
  go_enter Tryz.func176, Tryz.ntmps176
  go_wp2
  go_ret
  exact ⟨p, q, _, rfl, HR.out, rfl⟩
set_option maxHeartbeats 1000000 in
theorem scaled_any (y u v k : Nat) (w : World) :
    Calls Tryz.prog 171 #[.agg #[.float .f32 y, .complex .f32 u v], .float .f32 k] w fun e w' => CellR (ScC k (y, u, v)) w e w' := by
  have HS := fun W => Lib.hid (scaledColour_any u v k W)
  go_enter Tryz.func171, Tryz.ntmps171
  go_wp2
  go_region_with (go_at_call 176; refine (HS _).out.mono ?_; rintro e w2 ⟨p, q, n, rfl, hpq, rfl⟩)
  all_goals
    have HPQ := Lib.hid (show ScC k (y, u, v) (y, p, q) from ⟨rfl, hpq.1, hpq.2⟩)
    clear hpq HS
    go_wp2
    refine bodyPost_ret (v := .agg #[.float .f32 y, .complex .f32 p q]) ?_ rfl (CellR.mk HPQ.out ?_)
  all_goals first | (simp [results, Tryz.results171, go_sem]; done) | exact belowDN (((Below.refl _ _).alloc (Nat.le_refl _) _).alloc (by simp) _).drew _ | exact ((belowDN (((Below.refl _ _).alloc (Nat.le_refl _) _).alloc (by simp) _) _).setCell (by simp) _).setCell (by simp) _
set_option maxHeartbeats 1000000 in
theorem scaleLit_any (y u v k b : Nat) (w : World) (hb : w.cell? ⟨b, 0, none⟩ = some (.float .f32 k)) :
    Calls Tryz.prog 170 #[.agg #[.float .f32 y, .complex .f32 u v], .pointer (some ⟨b, 0, none⟩)] w fun e w' => CellR (ScC k (y, u, v)) w e w' := by
  have HS := fun W => Lib.hid (scaled_any y u v k W)
  have hlt : b < w.heap.size := World.block_lt_of_cell? w _ hb
  go_enter Tryz.func170, Tryz.ntmps170
  go_wp2_with fail
  refine (HS _).out.mono ?_
  rintro e w1 ⟨⟨y', p, q⟩, rfl, hR, hb1⟩
  have HR := Lib.hid hR
  have hz : ((w.alloc (.cells #[.float .f32 y, .complex .f32 u v] 61)).alloc (.cells #[.float .f32 0, .complex .f32 0 0] 61)).heap[w.heap.size + 1]? = some (.cells #[.float .f32 0, .complex .f32 0 0] 61 (0, 0)) := by
    have := heap_alloc_new (w.alloc (.cells #[.float .f32 y, .complex .f32 u v] 61)) (.cells #[.float .f32 0, .complex .f32 0 0] 61)
    simpa using this
  have hB : w1.heap[w.heap.size + 1]? = some (.cells #[.float .f32 0, .complex .f32 0 0] 61 (0, 0)) := (hb1.block _ (by simp)).trans hz
  have c0 : w1.cell? ⟨w.heap.size + 1, 0, none⟩ = some (.float .f32 0) := by simp [World.cell?, hB]
  have c1 : w1.cell? ⟨w.heap.size + 1, 1, none⟩ = some (.complex .f32 0 0) := by simp [World.cell?, hB]
  have f0 : w1.frozen? ⟨w.heap.size + 1, 0, none⟩ = false := by simp [World.frozen?, hB]
  have f1 : w1.frozen? ⟨w.heap.size + 1, 1, none⟩ = false := by simp [World.frozen?, hB]
  have hB2 := heap_put (i := 1) (v := .complex .f32 p q) (heap_put (i := 0) (v := .float .f32 y') hB)
  have d0 : ((w1.setCell ⟨w.heap.size + 1, 0, none⟩ (.float .f32 y')).setCell ⟨w.heap.size + 1, 1, none⟩ (.complex .f32 p q)).cell? ⟨w.heap.size + 1, 0, none⟩ = some (.float .f32 y') := by simp [World.cell?, hB2]
  have d1 : ((w1.setCell ⟨w.heap.size + 1, 0, none⟩ (.float .f32 y')).setCell ⟨w.heap.size + 1, 1, none⟩ (.complex .f32 p q)).cell? ⟨w.heap.size + 1, 1, none⟩ = some (.complex .f32 p q) := by simp [World.cell?, hB2]
  clear hz hB hB2 hR
  have hbel : Below w.heap.size w w1 := ((Below.refl w.heap.size w).alloc (Nat.le_refl _) _ |>.alloc (by simp) _).trans (hb1.mono (by simp; omega))
  clear hb1
  have hbel2 := (hbel.setCell (p := ⟨w.heap.size + 1, 0, none⟩) (by simp) (.float .f32 y')).setCell (p := ⟨w.heap.size + 1, 1, none⟩) (by simp) (.complex .f32 p q)
  go_wp2
  generalize ((w1.setCell ⟨w.heap.size + 1, 0, none⟩ (.float .f32 y')).setCell ⟨w.heap.size + 1, 1, none⟩ (.complex .f32 p q)) = w2 at *
  refine bodyPost_ret (v := .agg #[.float .f32 y', .complex .f32 p q]) ?_ rfl (CellR.mk HR.out ?_)
  · simp [results, Tryz.results170, go_sem, d0, d1]
  · exact hbel2
theorem Made.more {w : World} {b n k : Nat} {rs : List C3} {r : C3} (h : Made w b n k rs) (hl : rs.length = k) (hk : k < n) : Made ((w.setCell ⟨b, k * 2, none⟩ (.float .f32 r.1)).setCell ⟨b, k * 2 + 1, none⟩ (.complex .f32 r.2.1 r.2.2)) b n (k + 1) (rs ++ [r]) := by
  have h2 : Made w b n k (rs ++ [r]) := by
    obtain ⟨cur, h1, h2, h3⟩ := h
    refine ⟨cur, h1, h2, fun i hi hik => ?_⟩
    rw [List.getElem_append_left (by omega)]
    exact h3 i (by omega) hik
  have hs := h2.step (by simp; omega) (by simp; omega)
  have e : (rs ++ [r])[k]'(by simp; omega) = r := by subst hl; simp
  rwa [e] at hs
theorem ScL.get_snoc {k j : Nat} {cs ds : List C3} {d : C3} (h : ∀ i (h : i < ds.length) (h' : i < cs.length), ScC k cs[i] ds[i]) (hj : ds.length = j) (hk : j < cs.length) (hd : ScC k cs[j] d) : ∀ i (h : i < (ds ++ [d]).length) (h' : i < cs.length), ScC k cs[i] (ds ++ [d])[i] := by
  subst hj
  intro i h1 h2
  by_cases e : i < ds.length
  · rw [List.getElem_append_left e]; exact h i e h2
  · have e2 : i = ds.length := by simp at h1; omega
    subst e2
    rw [List.getElem_append_right (by omega)]
    simpa using hd
def ChA (k : Nat) (cs : List C3) (w : World) (e : Ending) (w' : World) : Prop := ∃ v ds, e = .returned v ∧ ScL k cs ds ∧ RNew w' w.heap.size v ds ∧ Below w.heap.size w w'
set_option maxHeartbeats 2000000 in
theorem changedScale_all (b k : Nat) (v : Value) (cs : List C3) (w : World) (h : RowV w v cs) (hne : cs ≠ []) (hl : cs.length ≤ 1000000) (hb : w.cell? ⟨b, 0, none⟩ = some (.float .f32 k)) :
    Calls Tryz.prog 151 #[v, .func (.func 170) #[] #[.pointer (some ⟨b, 0, none⟩)]] w fun e w' => ChA k cs w e w' := by
  rcases h with ⟨_, h1⟩ | ⟨g, o, cap, rfl, hcap, hcell⟩
  · exact absurd h1 hne
  · have HC := Lib.hid hcell
    have HBC := Lib.hid hb
    have hmk := make_cells cs.length hl
    clear hcell hne hb
    go_enter Tryz.func151, Tryz.ntmps151
    go_wp2
    have hst := Made.start w cs.length []
    have hbel : Below w.heap.size w (w.alloc (.cells (madeCells #[.float .f32 0, .complex .f32 0 0] (cs.length * 2)) 61)) := (Below.refl _ _).alloc (Nat.le_refl _) _
    have hsz : w.heap.size < (w.alloc (.cells (madeCells #[.float .f32 0, .complex .f32 0 0] (cs.length * 2)) 61)).heap.size := by simp
    clear hmk
    generalize w.alloc (.cells (madeCells #[.float .f32 0, .complex .f32 0 0] (cs.length * 2)) 61) = w1 at *
    go_loopw [13] (fun i wr => ∃ (j : Nat) (ds : List C3), j ≤ cs.length ∧ i = .int .i64 (j : Int) ∧ ds.length = j ∧ (∀ i (h : i < ds.length) (h' : i < cs.length), ScC k cs[i] ds[i]) ∧ Below w.heap.size w wr ∧ w.heap.size < wr.heap.size ∧ Made wr w.heap.size cs.length j ds) (fun i _ => cs.length - (intOf i).toNat)
    case atStart => exact ⟨0, [], Nat.zero_le _, rfl, rfl, (fun i h => absurd h (by simp)), hbel, hsz, hst⟩
    case round =>
      obtain ⟨j, ds, hk, rfl, hdl, hsc, hb, hs, hm⟩ := hrel
      have HM := Lib.hid hm
      have HDL := Lib.hid hdl
      have HSC := Lib.hid hsc
      clear hm hdl hsc
      by_cases hlt : j < cs.length
      · obtain ⟨hc0, hc1⟩ := HC.out j hlt
        have hd0 := (grown_of hb).cell hc0 (by simp)
        have hd1 := (grown_of hb).cell hc1 (by simp)
        have hbw0 : b < w.heap.size := World.block_lt_of_cell? w _ HBC.out
        have HK := fun W (hW : Below w.heap.size w W) => Lib.hid (scaleLit_any cs[j].1 cs[j].2.1 cs[j].2.2 k b W ((grown_of hW).cell HBC.out (by simp)))
        have HSN := Lib.hid (fun d (hd : ScC k cs[j] d) => ScL.get_snoc HSC.out HDL.out hlt hd)
        clear hc0 hc1
        have HE : ∀ W (hW : Below w.heap.size w W), Calls Tryz.prog 170 #[.agg #[.float .f32 cs[j].1, .complex .f32 cs[j].2.1 cs[j].2.2], .pointer (some ⟨b, 0, none⟩)] W fun e w' => CellR (ScC k cs[j]) W e w' := fun W hW => (HK W hW).out
        clear HK
        generalize cs[j] = c at *
        go_wp2_with fail
        have hbA := hb.alloc hb.size (.cells #[.float .f32 c.1, .complex .f32 c.2.1 c.2.2] 61)
        refine (HE _ hbA).mono ?_
        rintro e w2 ⟨d, rfl, hd, hb2⟩
        have HD := Lib.hid (HSN.out d hd)
        have hm2 : Made w2 w.heap.size cs.length j ds := HM.out.kept ((hb2.block _ (by simp; omega)).trans (Below.heap_alloc _ _ _ hs))
        have hbw : Below w.heap.size w w2 := hbA.trans (hb2.mono (by simp; omega))
        have hs2 : w.heap.size < w2.heap.size := Nat.lt_of_lt_of_le hs (Nat.le_trans (by simp) hb2.size)
        obtain ⟨⟨x0, hx0⟩, ⟨x1, hx1⟩, hf0, hf1⟩ := hm2.at j hlt
        have HM3 := Lib.hid (hm2.more (r := d) HDL.out hlt)
        have HDL2 := Lib.hid (show (ds ++ [d]).length = j + 1 by simp [HDL.out])
        clear hm2 hb2 hbA hd0 hd1 hd HE HSN
        go_wp2
        go_roundw
        case rel => exact ⟨j + 1, ds ++ [d], by omega, by go_num, HDL2.out, HD.out, (hbw.setCell (Nat.le_refl _) _).setCell (Nat.le_refl _) _, by simpa [World.setCell] using hs2, HM3.out⟩
        case measure => simp [intOf]; omega
      · have hkk : j = cs.length := by omega
        have HF := Lib.hid (show RNew wr w.heap.size (.slice (some ⟨w.heap.size, 0, none⟩) cs.length cs.length) ds from by
          have h1 := HM.out
          have h2 := HDL.out
          rw [hkk] at h1 h2
          exact h1.rnew h2 (Nat.le_refl _))
        have HL := Lib.hid (show ScL k cs ds from ⟨by rw [HDL.out, hkk], HSC.out⟩)
        clear HM HDL HSC
        subst hkk
        go_wp2
        go_ret
        exact ⟨_, ds, rfl, HL.out, HF.out, hb⟩
set_option maxHeartbeats 1000000 in
theorem scaleRow_any (v : Value) (cs : List C3) (k : Nat) (w : World) (h : RowV w v cs) (hl : cs.length ≤ 1000000) :
    Calls Tryz.prog 155 #[v, .float .f32 k] w fun e w' => ScaleA cs k w e w' := by
  have hbA := (Below.refl w.heap.size w).alloc (Nat.le_refl _) (.cells #[.float .f32 k] 25)
  have HR := Lib.hid (rowOk_any v cs (w.alloc (.cells #[.float .f32 k] 25)) (h.below hbA) hl)
  have hcl : (w.alloc (.cells #[.float .f32 k] 25)).cell? ⟨w.heap.size, 0, none⟩ = some (.float .f32 k) := (cell_of_row _ _ 0 _ _ _ (heap_alloc_new w _)).trans rfl
  have HCL := Lib.hid hcl
  have HV := Lib.hid (h.below hbA)
  clear hcl h
  cases hr : rok cs with
  | false =>
    rw [hr] at HR
    have HRK := Lib.hid hr
    clear hr
    go_enter Tryz.func155, Tryz.ntmps155
    go_wp2_with fail
    refine HR.out.mono ?_
    rintro e w1 ⟨rfl, hb1⟩
    have hb := below_trans hbA hb1 hbA.size
    go_wp2
    go_ret2
    exact ⟨_, [], false, rfl, .inr ⟨HRK.out, rfl, rfl⟩, RNew.nil _ _, hb⟩
  | true =>
    rw [hr] at HR
    have HRK := Lib.hid hr
    have HNE := Lib.hid (rok_ne hr)
    clear hr
    go_enter Tryz.func155, Tryz.ntmps155
    go_wp2_with fail
    refine HR.out.mono ?_
    rintro e w1 ⟨rfl, hb1⟩
    have hb := below_trans hbA hb1 hbA.size
    have HCH := Lib.hid (changedScale_all w.heap.size k v cs w1 (HV.out.below hb1) HNE.out hl ((grown_of hb1).cell HCL.out (by simp)))
    clear HR HCL hbA hb1
    go_wp2_with fail
    refine HCH.out.mono ?_
    rintro e w2 ⟨v2, ds, rfl, hds, hn2, hb2⟩
    have hb02 := below_trans hb hb2 hb.size
    have HR2 := Lib.hid (rowOk_any v2 ds w2 hn2.row (by rw [hds.1]; exact hl))
    have HN2 := Lib.hid (hn2.mono hb.size)
    have HDS := Lib.hid hds
    clear hn2 hds hb2 hb HCH
    go_wp2_with fail
    refine HR2.out.mono ?_
    rintro e w3 ⟨rfl, hb3⟩
    have hb03 := below_trans hb02 hb3 hb02.size
    cases hrd : rok ds with
    | false =>
      have HRD := Lib.hid hrd
      clear hrd
      go_wp2
      go_ret2
      exact ⟨_, [], false, rfl, .inl ⟨HRK.out, ds, HDS.out, HRD.out.symm, by rw [HRD.out]; rfl⟩, RNew.nil _ _, hb03⟩
    | true =>
      have HRD := Lib.hid hrd
      have HF := Lib.hid (HN2.out.below hb3)
      clear hrd hb3
      go_wp2
      go_ret2
      exact ⟨_, ds, true, rfl, .inl ⟨HRK.out, ds, HDS.out, HRD.out.symm, by rw [HRD.out]; rfl⟩, HF.out, hb03⟩
end Go.Proofs.YtobpnoiienpipaaGreat
