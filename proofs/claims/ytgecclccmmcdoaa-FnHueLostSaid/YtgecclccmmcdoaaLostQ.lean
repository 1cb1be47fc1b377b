/-
  What is proved: what plain lines that came through a plain channel are decoded to, exactly.
  Conditions: those that each fact names.
-/
import Derived.Test.YtgecclccmmcdoaaLawBursts
import Derived.Test.YtgecclccmmcdoaaLevelB
import Derived.Test.YtgecclccmmcdoaaPairD
import Derived.Test.YtgecclccmmcdoaaSampOk
namespace Go.Proofs.Ytgecclccmmcdoaa
set_option linter.unusedVariables false
open Go.RowKit
open Flt

theorem q_fin {e x : Nat} {a : Int} (h : Q e x a) (hb : a.natAbs * 2 ^ e ≤ LIM) : Flt.fin x = true := by
  obtain ⟨_, s, u, hx, ha⟩ := h
  rw [fin_num hx, decide_eq_true_iff, q_abs ha]
  exact hb
theorem lim143 {n : Nat} (h : n ≤ 16384) : n * 2 ^ 143 ≤ LIM := by
  have h1 : n * 2 ^ 143 ≤ 16384 * 2 ^ 143 := Nat.mul_le_mul_right _ h
  have h2 : (16384 * 2 ^ 143 : Nat) = LIM := by unfold LIM; decide +kernel
  omega
theorem half_q {e x y : Nat} {a b c : Int} (hx : Q e x a) (hy : Q e y b) (h : a + b = 2 * c) (hb : (a + b).natAbs < 2 ^ 24) (h1 : 1 ≤ e) (he : e ≤ 240) : Q e (Flt.half x y) c := by
  obtain ⟨r, e1, q1⟩ := hx.add hy hb he
  obtain ⟨q, e2, q2⟩ := Q.quo (f := e - 1) read_two2 q1 hb (by omega) (by omega)
  have e3 : Flt.half x y = q := by
    unfold Flt.half
    rw [e1]
    show (floatBits .quo .f32 r 1073741824).getD 0 = q
    rw [e2]; rfl
  rw [e3]
  have h4 : Q (e - 1) q (c * 2 ^ 1) := by
    rw [show c * 2 ^ 1 = a + b by rw [h]; omega]
    simpa using q2
  have := q_drop h4
  rwa [Nat.sub_add_cancel h1] at this
/-- Within bounds. -/
def Bnd (y a b : Int) : Prop := y.natAbs ≤ 8448 ∧ a.natAbs ≤ 8192 ∧ b.natAbs ≤ 8192
theorem dec_qc {c c' : C3} {y a b : Int} (h : QC 143 c y a b) (hb : Bnd y a b) (hd : DecR (addv c.1 c.2.1) (addv c.1 (Op.negFloat .f32 c.2.2)) (addv c.1 (Op.negFloat .f32 c.2.1)) (addv c.1 c.2.2) c') : QC 143 c' y a b := by
  obtain ⟨b1, b2, b3⟩ := hb
  have hf := h.fins (by decide) (by omega) (by omega) (by omega) (lim_ok _ 143 (by omega) (by decide)) (lim_ok _ 143 (by omega) (by decide))
  have m := fun x hx => fin1_mag (hf x hx)
  have e := dec_mag (m _ (by simp [enc4])) (m _ (by simp [enc4])) (m _ (by simp [enc4])) (m _ (by simp [enc4])) hd
  rw [e]
  exact h.back (by decide) (by decide) (by omega) (by omega) (by omega)
theorem decL_qc {cs ds : List C3} (h : DecL (enc cs) ds) : ds.length = cs.length ∧ ∀ i (h1 : i < ds.length) (h2 : i < cs.length) (y a b : Int), QC 143 cs[i] y a b → Bnd y a b → QC 143 ds[i] y a b := by
  obtain ⟨hl, hf⟩ := h
  rw [enc_len] at hl
  refine ⟨by omega, fun i h1 h2 y a b hq hb => ?_⟩
  have h3 := hf i h1
  unfold four at h3
  rw [show 4 * i = 4 * i + 0 from rfl, enc_get cs i 0 h2 (by decide), enc_get cs i 1 h2 (by decide), enc_get cs i 2 h2 (by decide), enc_get cs i 3 h2 (by decide)] at h3
  exact dec_qc hq hb h3
theorem QC.finc {c : C3} {y a b : Int} (h : QC 143 c y a b) (hb : Bnd y a b) : Finc c :=
  ⟨q_fin h.1 (lim143 (by have := hb.1; omega)), q_fin h.2.1 (lim143 (by have := hb.2.1; omega)), q_fin h.2.2 (lim143 (by have := hb.2.2; omega))⟩

/-- What a channel makes of a cell. -/
def tc (h : Chn) (c : C3) : C3 := txC h (back c)
def lineCells (cs : List C3) (odd : Bool) : List C3 := ([pcell, pcell] ++ oddRow (bcells 4) odd) ++ oddRow cs odd
theorem lineT (h : Chn) (cs : List C3) (odd : Bool) : txs h (lineL cs odd) = enc ((lineCells cs odd).map (tc h)) := by
  rw [lineL_enc, txs_enc]
  rfl
theorem lineCells_plain {cs : List C3} (hp : PlainR cs) (odd : Bool) : PlainR (lineCells cs odd) := by
  intro c hc
  unfold lineCells at hc
  rcases List.mem_append.1 hc with hc | hc
  · rcases List.mem_append.1 hc with hc | hc
    · have e : c = pcell := by simpa using hc
      subst e
      exact ⟨_, _, _, pcell_pc⟩
    · have hb : PlainR (bcells 4) := by
        intro d hd
        unfold bcells at hd
        rw [List.eq_of_mem_replicate hd]
        exact ⟨_, _, _, bcell_pc⟩
      exact plain_odd hb odd c hc
  · exact plain_odd hp odd c hc
theorem tc_bnd {h : Chn} {α ω ξ η : Int} (hh : PlainH h α ω ξ η) {c : C3} {y a b : Int} (hc : PC c y a b) : QC 143 (tc h c) (α * y + ω * 2 ^ 3) (a * ξ - b * η) (a * η + b * ξ) ∧ Bnd (α * y + ω * 2 ^ 3) (a * ξ - b * η) (a * η + b * ξ) := by
  obtain ⟨b1, b2, b3⟩ := hc.2.2.2
  obtain ⟨k1, c1, c2, c3⟩ := one_tx hh hc.qc b1 b2 b3
  exact ⟨k1, c1, c2, c3⟩
theorem tc_fin1 {h : Chn} {α ω ξ η : Int} (hh : PlainH h α ω ξ η) {cs : List C3} (hp : PlainR cs) : ∀ x ∈ enc (cs.map (tc h)), fin1 x = true :=
  all_enc fun c hc => by
    obtain ⟨y, a, b, hpc⟩ := hp c hc
    obtain ⟨k1, c1, c2, c3⟩ := tc_bnd hh hpc
    exact k1.fins (by decide) (by omega) (by omega) (by omega) (lim_ok _ 143 (by omega) (by decide)) (lim_ok _ 143 (by omega) (by decide))
theorem lineCells_len (cs : List C3) (odd : Bool) : (lineCells cs odd).length = 6 + cs.length := by
  unfold lineCells
  rw [List.length_append, List.length_append, oddRow_len, oddRow_len, bcells_len]
  rfl
theorem lineT_ok {h : Chn} {α ω ξ η : Int} (hh : PlainH h α ω ξ η) {cs : List C3} (hp : PlainR cs) (h1 : 1 ≤ cs.length) (h2 : cs.length ≤ 64) (odd : Bool) : sampOk (lineL cs odd) = true ∧ sampOk (txs h (lineL cs odd)) = true ∧ lineOk (txs h (lineL cs odd)) = true := by
  have hf := tc_fin1 hh (lineCells_plain hp odd)
  have hlen : (enc ((lineCells cs odd).map (tc h))).length = 4 * (6 + cs.length) := by rw [enc_len, List.length_map, lineCells_len]
  refine ⟨sampOk_mk (by rw [lineL_len]; omega) (lineOk_all (lineL_ok hp h1 h2 odd)), ?_, ?_⟩
  · rw [lineT]
    exact sampOk_mk (by rw [hlen]; omega) hf
  · rw [lineT]
    exact lineOk_mk (by rw [hlen]; omega) hf
theorem part_two (A B : List C3) : part (enc (A ++ B)) (4 * A.length) ((enc (A ++ B)).length - 4 * A.length) = enc B := by
  unfold part
  rw [List.take_of_length_le (by rw [List.length_drop]; exact Nat.le_refl _), enc_append, List.drop_append_of_le_length (by rw [enc_len]; exact Nat.le_refl _), List.drop_of_length_le (by rw [enc_len]; exact Nat.le_refl _), List.nil_append]
theorem part_mid (A B C : List C3) : part (enc ((A ++ B) ++ C)) (4 * A.length) (4 * B.length) = enc B := by
  unfold part
  rw [List.append_assoc, enc_append, List.drop_append_of_le_length (by rw [enc_len]; exact Nat.le_refl _), List.drop_of_length_le (by rw [enc_len]; exact Nat.le_refl _), List.nil_append, enc_append, List.take_append_of_le_length (by rw [enc_len]; exact Nat.le_refl _), List.take_of_length_le (by rw [enc_len]; exact Nat.le_refl _)]
/-- 1, or -1 for what is odd. -/
def sgo (odd : Bool) : Int := if odd = true then -1 else 1
theorem odd_pc {cs : List C3} {odd : Bool} {i : Nat} (h : i < (oddRow cs odd).length) (h' : i < cs.length) {y a b : Int} (hc : PC cs[i] y a b) : PC (oddRow cs odd)[i] y a (sgo odd * b) := by
  cases odd with
  | false => simpa [oddRow, sgo] using hc
  | true =>
    have := hc.cj
    simpa [oddRow, sgo] using this
/-- The cells of a line that came through a channel. -/
theorem aloneT {h : Chn} {α ω ξ η : Int} (hh : PlainH h α ω ξ η) {cs ps : List C3} {ok : Bool} (hp : PlainR cs) (h1 : 1 ≤ cs.length) (h2 : cs.length ≤ 64) (odd : Bool) (ha : AloneRR (txs h (lineL cs odd)) false ps ok) :
    ok = true ∧ ps.length = cs.length ∧ ∀ i (hi : i < ps.length) (hi' : i < cs.length) (y a b : Int), PC cs[i] y a b → QC 143 ps[i] (α * y + ω * 2 ^ 3) (a * ξ - sgo odd * b * η) (a * η + sgo odd * b * ξ) ∧ Bnd (α * y + ω * 2 ^ 3) (a * ξ - sgo odd * b * η) (a * η + sgo odd * b * ξ) := by
  have ho := (lineT_ok hh hp h1 h2 odd).2.2
  rcases ha with ⟨_, hd⟩ | ⟨h3, _⟩
  · rw [lpart_yes ho, lineT] at hd
    have hA : ([pcell, pcell] ++ oddRow (bcells 4) odd).length = 6 := by rw [List.length_append, oddRow_len, bcells_len]; rfl
    have hpt := part_two (([pcell, pcell] ++ oddRow (bcells 4) odd).map (tc h)) ((oddRow cs odd).map (tc h))
    rw [List.length_map, hA, ← List.map_append] at hpt
    change part (enc ((lineCells cs odd).map (tc h))) 24 ((enc ((lineCells cs odd).map (tc h))).length - 24) = _ at hpt
    rw [hpt] at hd
    obtain ⟨ds, e1, _, _, rfl, rfl⟩ := hd
    have hd := e1 (by rw [enc_len]; omega)
    obtain ⟨hl, hq⟩ := decL_qc hd
    rw [List.length_map, oddRow_len] at hl
    have key : ∀ i (hi : i < ds.length) (hi' : i < cs.length) (y a b : Int), PC cs[i] y a b → QC 143 ds[i] (α * y + ω * 2 ^ 3) (a * ξ - sgo odd * b * η) (a * η + sgo odd * b * ξ) ∧ Bnd (α * y + ω * 2 ^ 3) (a * ξ - sgo odd * b * η) (a * η + sgo odd * b * ξ) := by
      intro i hi hi' y a b hc
      have ho1 : i < (oddRow cs odd).length := by rw [oddRow_len]; exact hi'
      obtain ⟨k1, k2⟩ := tc_bnd hh (odd_pc ho1 hi' hc)
      refine ⟨hq i hi (by rw [List.length_map]; exact ho1) _ _ _ ?_ k2, k2⟩
      rw [List.getElem_map]
      exact k1
    have hr : rok ds = true := rok_iff.2 ⟨by omega, fun d hd => by
      obtain ⟨i, hi, rfl⟩ := List.mem_iff_getElem.1 hd
      obtain ⟨y, a, b, hc⟩ := hp (cs[i]'(by omega)) (List.getElem_mem _)
      obtain ⟨k1, k2⟩ := key i hi (by omega) y a b hc
      exact k1.finc k2⟩
    rw [hr]
    exact ⟨rfl, by simpa using hl, by simpa using key⟩
  · rw [ho] at h3; cases h3
/-- The burst of a line that came through a channel. -/
theorem burstT {h : Chn} {α ω ξ η : Int} (hh : PlainH h α ω ξ η) {cs : List C3} {u z : Nat} {ok : Bool} (hp : PlainR cs) (h1 : 1 ≤ cs.length) (h2 : cs.length ≤ 64) (odd : Bool) (hb : BurstR (txs h (lineL cs odd)) u z ok) :
    ok = true ∧ Q 151 u (-ξ - sgo odd * η) ∧ Q 151 z (-η + sgo odd * ξ) := by
  have ho := (lineT_ok hh hp h1 h2 odd).2.2
  unfold BurstR at hb
  rw [if_pos ho, lineT] at hb
  have hpt := part_mid ([pcell, pcell].map (tc h)) ((oddRow (bcells 4) odd).map (tc h)) ((oddRow cs odd).map (tc h))
  rw [← List.map_append, ← List.map_append, List.length_map, List.length_map, oddRow_len, bcells_len] at hpt
  change part (enc ((lineCells cs odd).map (tc h))) (4 * 2) (4 * 4) = _ at hpt
  rw [show 4 * 2 = 8 from rfl, show 4 * 4 = 16 from rfl] at hpt
  rw [hpt] at hb
  obtain ⟨c0, c1, c2, c3, hd, hr, hy, _⟩ := hb
  obtain ⟨_, hq⟩ := decL_qc hd
  have hξ := hh.2.2.2.1
  have hη := hh.2.2.2.2
  have cell : ∀ i (hi : i < [c0, c1, c2, c3].length), QC 143 [c0, c1, c2, c3][i] (α * 0 + ω * 2 ^ 3) ((-256) * ξ - sgo odd * 256 * η) ((-256) * η + sgo odd * 256 * ξ) ∧ Bnd (α * 0 + ω * 2 ^ 3) ((-256) * ξ - sgo odd * 256 * η) ((-256) * η + sgo odd * 256 * ξ) := by
    intro i hi
    have hi4 : i < 4 := hi
    have hl1 : i < (bcells 4).length := by rw [bcells_len]; exact hi4
    have hl2 : i < (oddRow (bcells 4) odd).length := by rw [oddRow_len]; exact hl1
    have hbc : (bcells 4)[i] = bcell := List.eq_of_mem_replicate (show (bcells 4)[i] ∈ List.replicate 4 bcell from List.getElem_mem hl1)
    obtain ⟨k1, k2⟩ := tc_bnd hh (odd_pc hl2 hl1 (by rw [hbc]; exact bcell_pc))
    refine ⟨hq i hi (by rw [List.length_map]; exact hl2) _ _ _ ?_ k2, k2⟩
    rw [List.getElem_map]
    exact k1
  have hok : ok = true := by
    rw [hr]
    refine rok_iff.2 ⟨by simp, fun d hd => ?_⟩
    obtain ⟨i, hi, rfl⟩ := List.mem_iff_getElem.1 hd
    exact (cell i hi).1.finc (cell i hi).2
  obtain ⟨rfl, rfl⟩ := hy hok
  have q4 : ∀ {x0 x1 x2 x3 : Nat} {a : Int}, Q 143 x0 (256 * a) → Q 143 x1 (256 * a) → Q 143 x2 (256 * a) → Q 143 x3 (256 * a) → a.natAbs ≤ 16 → Q 151 (quarter4 x0 x1 x2 x3) a := by
    intro x0 x1 x2 x3 a g0 g1 g2 g3 hb
    have s1 := q_sumv g0 g1 (by omega) (by decide)
    have s2 := q_sumv s1 g2 (by omega) (by decide)
    have s3 := q_sumv s2 g3 (by omega) (by decide)
    have s4 := q_quov (f := 141) read_four' s3 (by omega) (by decide) (by decide)
    have s5 : Q 141 (quarter4 x0 x1 x2 x3) (a * 2 ^ 10) := by
      rw [show a * 2 ^ 10 = 256 * a + 256 * a + 256 * a + 256 * a by omega]
      exact s4
    exact q_drop s5
  have hs : sgo odd = 1 ∨ sgo odd = -1 := by cases odd <;> simp [sgo]
  have e1 : (-256) * ξ - sgo odd * 256 * η = 256 * (-ξ - sgo odd * η) := by rcases hs with h | h <;> rw [h] <;> omega
  have e2 : (-256) * η + sgo odd * 256 * ξ = 256 * (-η + sgo odd * ξ) := by rcases hs with h | h <;> rw [h] <;> omega
  have g := fun i hi => (cell i hi).1
  rw [e1, e2] at g
  have g0 := g 0 (by simp)
  have g1 := g 1 (by simp)
  have g2 := g 2 (by simp)
  have g3 := g 3 (by simp)
  refine ⟨hok, q4 g0.2.1 g1.2.1 g2.2.1 g3.2.1 ?_, q4 g0.2.2 g1.2.2 g2.2.2 g3.2.2 ?_⟩
  · rcases hs with h | h <;> rw [h] <;> omega
  · rcases hs with h | h <;> rw [h] <;> omega
end Go.Proofs.Ytgecclccmmcdoaa
