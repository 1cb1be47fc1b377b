/-
  What is proved: two lines of a link, behind its channel and brought to level, are taken as the rows that were sent.
  Conditions: those that each fact names.
-/
import Derived.Test.YtobpnoiienpipaaGreatPz26
import Derived.Test.YtobpnoiienpipaaGreatPz27
import Derived.Test.YtobpnoiienpipaaGreatPz28
import Derived.Test.YtobpnoiienpipaaGreatPz01
import Derived.Laws.StructEq
namespace Go.Proofs.YtobpnoiienpipaaGreat
set_option linter.unusedVariables false
open Go.RowKit
open Flt

theorem q_lim {x : Nat} {a : Int} (h : Q 143 x a) (hb : a.natAbs ≤ 65536) : fin1 x = true := q_fin1 h (Nat.le_trans (Nat.mul_le_mul_right _ hb) (by decide))
theorem dec_q4 {x0 x1 x2 x3 : Nat} {c : C3} {y a b : Int} (h0 : Q 143 x0 (y + a)) (h1 : Q 143 x1 (y - b)) (h2 : Q 143 x2 (y - a)) (h3 : Q 143 x3 (y + b)) (hb : Bnd y a b) (hd : DecR x0 x1 x2 x3 c) : QC 143 c y a b := by
  obtain ⟨b1, b2, b3⟩ := hb
  rw [dec_mag (fin1_mag (q_lim h0 (by omega))) (fin1_mag (q_lim h1 (by omega))) (fin1_mag (q_lim h2 (by omega))) (fin1_mag (q_lim h3 (by omega))) hd]
  exact q_dec (by decide) (by decide) (by omega) (by omega) (by omega) h0 h1 h2 h3
theorem flat_len (U : List I3) : (U.flatMap encI).length = 4 * U.length := by
  induction U with
  | nil => rfl
  | cons k U ih => rw [List.flatMap_cons, List.length_append, ih, List.length_cons]; show 4 + _ = _; omega
theorem flat_get : ∀ (U : List I3) (i j : Nat) (h : i < U.length) (hj : j < 4) (h' : 4 * i + j < (U.flatMap encI).length), (U.flatMap encI)[4 * i + j] = (encI U[i])[j]'hj
  | k :: U, 0, j, _, hj, h' => by
    simp only [List.flatMap_cons, List.getElem_cons_zero, Nat.mul_zero, Nat.zero_add]
    rw [List.getElem_append_left (show j < (encI k).length from hj)]
  | k :: U, i + 1, j, h, hj, h' => by
    have h1 : i < U.length := by simpa using h
    have h2 : 4 * i + j < (U.flatMap encI).length := by rw [flat_len]; omega
    have ih := flat_get U i j h1 hj h2
    simp only [List.flatMap_cons, List.getElem_cons_succ]
    have hle : (encI k).length ≤ 4 * (i + 1) + j := by rw [show (encI k).length = 4 from rfl]; omega
    rw [List.getElem_append_right hle]
    refine Eq.trans ?_ ih
    congr 1
    rw [show (encI k).length = 4 from rfl]
    omega
theorem decL_q {xs : List Nat} {ds : List C3} {U : List I3} (h : DecL xs ds) (hq : QL 143 xs (U.flatMap encI)) (hB : ∀ k ∈ U, Bnd k.1 k.2.1 k.2.2) : ds.length = U.length ∧ ∀ i (h1 : i < ds.length) (h2 : i < U.length), QC 143 ds[i] U[i].1 U[i].2.1 U[i].2.2 := by
  obtain ⟨hl, hf⟩ := h
  have hql := hq.len
  rw [flat_len] at hql
  refine ⟨by omega, fun i h1 h2 => ?_⟩
  have h3 := hf i h1
  unfold four at h3
  have g : ∀ j (hj : j < 4), Q 143 (xs.getD (4 * i + j) 0) ((encI U[i])[j]'hj) := fun j hj => by
    rw [getD_lt (show 4 * i + j < xs.length by omega), ← flat_get U i j h2 hj (by rw [flat_len]; omega)]
    exact hq.get _ _ _
  exact dec_q4 (g 0 (by decide)) (g 1 (by decide)) (g 2 (by decide)) (g 3 (by decide)) (hB _ (List.getElem_mem _)) h3

/-- The whole numbers of an odd row's cell. -/
def oI (odd : Bool) (k : I3) : I3 := (k.1, k.2.1, sgo odd * k.2.2)
theorem CellsQ.cj : ∀ {cs : List C3} {ks : List I3}, CellsQ cs ks → CellsQ (cs.map cj) (ks.map (oI true))
  | [], [], _ => trivial
  | c :: cs, k :: ks, h => by
    refine ⟨?_, CellsQ.cj h.2⟩
    have := h.1.cj
    unfold oI sgo
    rw [if_pos rfl]
    simpa using this
  | [], _ :: _, h => h.elim
  | _ :: _, [], h => h.elim
theorem CellsQ.odd {cs : List C3} {ks : List I3} (h : CellsQ cs ks) (odd : Bool) : CellsQ (oddRow cs odd) (ks.map (oI odd)) := by
  cases odd with
  | true => exact h.cj
  | false =>
    have e : ks.map (oI false) = ks := by
      refine (List.map_congr_left fun k _ => ?_).trans (List.map_id ks)
      unfold oI sgo
      rw [if_neg (by decide), Int.one_mul]
      rfl
    rw [e]
    exact h
theorem CellsQ.len : ∀ {cs : List C3} {ks : List I3}, CellsQ cs ks → cs.length = ks.length
  | [], [], _ => rfl
  | _ :: _, _ :: _, h => by rw [List.length_cons, List.length_cons, CellsQ.len h.2]
  | [], _ :: _, h => h.elim
  | _ :: _, [], h => h.elim
theorem CellsQ.get : ∀ {cs : List C3} {ks : List I3}, CellsQ cs ks → ∀ i (h : i < cs.length) (h' : i < ks.length), PC cs[i] ks[i].1 ks[i].2.1 ks[i].2.2
  | _ :: _, _ :: _, h, 0, _, _ => h.1
  | _ :: _, _ :: _, h, i + 1, h1, h2 => CellsQ.get h.2 i (by simpa using h1) (by simpa using h2)
  | [], [], _, i, h1, _ => absurd h1 (by simp)
  | [], _ :: _, h, _, _, _ => h.elim
  | _ :: _, [], h, _, _, _ => h.elim
/-- Within a plain row's bounds. -/
def KB (ks : List I3) : Prop := ∀ k ∈ ks, k.1.natAbs ≤ 1024 ∧ k.2.1.natAbs ≤ 512 ∧ k.2.2.natAbs ≤ 512
theorem CellsQ.kb {cs : List C3} {ks : List I3} (h : CellsQ cs ks) : KB ks := by
  intro k hk
  obtain ⟨i, hi, rfl⟩ := List.mem_iff_getElem.1 hk
  exact (h.get i (by rw [h.len]; exact hi) hi).2.2.2
theorem tI_o (ξ η : Int) (odd : Bool) (k : I3) : tI ξ η (oI odd k) = (4 * k.1, k.2.1 * (2 * ξ) - sgo odd * k.2.2 * η, k.2.1 * η + sgo odd * k.2.2 * (2 * ξ)) := rfl
theorem tI_kb {ξ η : Int} (hξ : ξ.natAbs ≤ 2) (hη : η.natAbs ≤ 4) {odd : Bool} {k : I3} (h1 : k.1.natAbs ≤ 1024) (h2 : k.2.1.natAbs ≤ 512) (h3 : k.2.2.natAbs ≤ 512) : Bnd (tI ξ η (oI odd k)).1 (tI ξ η (oI odd k)).2.1 (tI ξ η (oI odd k)).2.2 := by
  have hs : (sgo odd * k.2.2).natAbs ≤ 512 := by cases odd <;> simp [sgo] <;> omega
  obtain ⟨a1, a2, a3⟩ := tI_bnd hξ hη h1 h2 hs
  exact ⟨Nat.le_trans a1 (by decide), Nat.le_trans a2 (by decide), Nat.le_trans a3 (by decide)⟩
theorem bim_o (odd : Bool) : bim3 odd = oI odd (0, -256, 256) := by cases odd <;> rfl
/-- A line that was brought to level: what it is decoded to, and what its burst tells. -/
structure LineZ (ξ η : Int) (ks : List I3) (odd : Bool) (zs : List Nat) : Prop where
  ok : lineOk zs = true
  alone : ∀ ps o, AloneRR zs false ps o → o = true ∧ ps.length = ks.length ∧ ∀ i (hi : i < ps.length) (hi' : i < ks.length), QC 143 ps[i] (4 * ks[i].1) (ks[i].2.1 * (2 * ξ) - sgo odd * ks[i].2.2 * η) (ks[i].2.1 * η + sgo odd * ks[i].2.2 * (2 * ξ))
  burst : ∀ u z o, BurstR zs u z o → o = true ∧ Q 151 u (-(2 * ξ) - sgo odd * η) ∧ Q 151 z (-η + sgo odd * (2 * ξ))
theorem lineZ_of {ξ η : Int} (hξ : ξ.natAbs ≤ 2) (hη : η.natAbs ≤ 4) {ks : List I3} {odd : Bool} {zs : List Nat} (hk : KB ks) (h1 : 1 ≤ ks.length) (h2 : ks.length ≤ 64) (ho : lineOk zs = true) (hq : QL 143 zs (sI ξ η (kL odd (ks.map (oI odd))))) : LineZ ξ η ks odd zs := by
  have hlen := hq.len
  have hs : sI ξ η (kL odd (ks.map (oI odd))) = List.replicate 8 (-4096) ++ (bI ξ η odd ++ sI ξ η (ks.map (oI odd))) := sI_line ξ η odd _
  have hbl : (bI ξ η odd).length = 16 := by rw [bI_eq]; rfl
  have hsl : (sI ξ η (ks.map (oI odd))).length = 4 * ks.length := by unfold sI; rw [flat_len, List.length_map, List.length_map]
  rw [hs] at hq hlen
  rw [List.length_append, List.length_append, List.length_replicate, hbl, hsl] at hlen
  refine ⟨ho, fun ps o ha => ?_, fun u z o hb => ?_⟩
  · rcases ha with ⟨_, hd⟩ | ⟨h3, _⟩
    · rw [lpart_yes ho] at hd
      have hp := part_QL hq 24 (zs.length - 24)
      have e : ((List.replicate 8 (-4096) ++ (bI ξ η odd ++ sI ξ η (ks.map (oI odd)))).drop 24).take (zs.length - 24) = ((ks.map (oI odd)).map (tI ξ η)).flatMap encI := by
        rw [← List.append_assoc, List.drop_append_of_le_length (by rw [List.length_append, List.length_replicate, hbl]; decide), List.drop_of_length_le (by rw [List.length_append, List.length_replicate, hbl]; decide), List.nil_append, List.take_of_length_le (by rw [hsl]; omega)]
        rfl
      rw [e] at hp
      obtain ⟨ds, e1, _, _, rfl, rfl⟩ := hd
      have hd := e1 (by rw [part_len zs 24 _ (by omega)]; omega)
      obtain ⟨hl, hqd⟩ := decL_q hd hp (fun k hk' => by
        rw [List.map_map] at hk'
        obtain ⟨k0, hk0, rfl⟩ := List.mem_map.1 hk'
        obtain ⟨b1, b2, b3⟩ := hk k0 hk0
        exact tI_kb hξ hη b1 b2 b3)
      rw [List.length_map, List.length_map] at hl
      have key : ∀ i (hi : i < ds.length) (hi' : i < ks.length), QC 143 ds[i] (4 * ks[i].1) (ks[i].2.1 * (2 * ξ) - sgo odd * ks[i].2.2 * η) (ks[i].2.1 * η + sgo odd * ks[i].2.2 * (2 * ξ)) ∧ Bnd (4 * ks[i].1) (ks[i].2.1 * (2 * ξ) - sgo odd * ks[i].2.2 * η) (ks[i].2.1 * η + sgo odd * ks[i].2.2 * (2 * ξ)) := fun i hi hi' => by
        have h3 := hqd i hi (by rw [List.length_map, List.length_map]; exact hi')
        rw [List.getElem_map, List.getElem_map] at h3
        obtain ⟨b1, b2, b3⟩ := hk _ (List.getElem_mem hi')
        exact ⟨h3, tI_kb hξ hη b1 b2 b3⟩
      have hr : rok ds = true := rok_iff.2 ⟨by omega, fun d hd => by
        obtain ⟨i, hi, rfl⟩ := List.mem_iff_getElem.1 hd
        obtain ⟨k1, k2⟩ := key i hi (by omega)
        exact k1.finc k2⟩
      rw [hr]
      exact ⟨rfl, by simpa using hl, by simpa using fun i hi hi' => (key i hi hi').1⟩
    · rw [ho] at h3; cases h3
  · unfold BurstR at hb
    rw [if_pos ho] at hb
    have hp := part_QL hq 8 16
    have e : ((List.replicate 8 (-4096) ++ (bI ξ η odd ++ sI ξ η (ks.map (oI odd)))).drop 8).take 16 = ([bim3 odd, bim3 odd, bim3 odd, bim3 odd].map (tI ξ η)).flatMap encI := by
      rw [List.drop_append_of_le_length (by rw [List.length_replicate]; decide), List.drop_of_length_le (by rw [List.length_replicate]; decide), List.nil_append, List.take_append_of_le_length (by rw [hbl]; decide), List.take_of_length_le (by rw [hbl]; decide)]
      rfl
    rw [e] at hp
    obtain ⟨c0, c1, c2, c3, hd, hr, hy, _⟩ := hb
    have hbb : Bnd (tI ξ η (bim3 odd)).1 (tI ξ η (bim3 odd)).2.1 (tI ξ η (bim3 odd)).2.2 := by
      rw [bim_o]
      exact tI_kb hξ hη (by decide) (by decide) (by decide)
    obtain ⟨_, hq4⟩ := decL_q hd hp (fun k hk' => by
      obtain ⟨k0, hk0, rfl⟩ := List.mem_map.1 hk'
      have : k0 = bim3 odd := by simpa using hk0
      rw [this]
      exact hbb)
    have eb : tI ξ η (bim3 odd) = (0, 256 * (-(2 * ξ) - sgo odd * η), 256 * (-η + sgo odd * (2 * ξ))) := by
      rw [bim_o, tI_o]
      refine Prod.ext (by simp) (Prod.ext ?_ ?_)
      · show -256 * (2 * ξ) - sgo odd * 256 * η = 256 * (-(2 * ξ) - sgo odd * η)
        grind
      · show -256 * η + sgo odd * 256 * (2 * ξ) = 256 * (-η + sgo odd * (2 * ξ))
        grind
    have cell : ∀ i (hi : i < [c0, c1, c2, c3].length), QC 143 [c0, c1, c2, c3][i] 0 (256 * (-(2 * ξ) - sgo odd * η)) (256 * (-η + sgo odd * (2 * ξ))) ∧ Bnd 0 (256 * (-(2 * ξ) - sgo odd * η)) (256 * (-η + sgo odd * (2 * ξ))) := by
      intro i hi
      have hi4 : i < 4 := hi
      have h3 := hq4 i hi hi4
      have e3 : ([bim3 odd, bim3 odd, bim3 odd, bim3 odd].map (tI ξ η))[i]'hi4 = tI ξ η (bim3 odd) := by
        rw [List.getElem_map]
        congr 1
        rcases (by omega : i = 0 ∨ i = 1 ∨ i = 2 ∨ i = 3) with rfl | rfl | rfl | rfl <;> rfl
      rw [e3, eb] at h3
      rw [eb] at hbb
      exact ⟨h3, hbb⟩
    have hok : o = true := by
      rw [hr]
      refine rok_iff.2 ⟨by simp, fun d hd => ?_⟩
      obtain ⟨i, hi, rfl⟩ := List.mem_iff_getElem.1 hd
      exact (cell i hi).1.finc (cell i hi).2
    obtain ⟨rfl, rfl⟩ := hy hok
    have q4 : ∀ {x0 x1 x2 x3 : Nat} {a : Int}, Q 143 x0 (256 * a) → Q 143 x1 (256 * a) → Q 143 x2 (256 * a) → Q 143 x3 (256 * a) → a.natAbs ≤ 16 → Q 151 (quarter4 x0 x1 x2 x3) a := by
      intro x0 x1 x2 x3 a g0 g1 g2 g3 hb
      have s1 := q_sumv g0 g1 (by omega) (by decide)
      have s2 := q_sumv s1 g2 (by omega) (by decide)
      have s3 := q_sumv s2 g3 (by omega) (by decide)
      have s4 := q_quov (f := 141) read_four' s3 (by omega) (by decide) (by decide)
      have s5 : Q 141 (quarter4 x0 x1 x2 x3) (a * 2 ^ 10) := by
        rw [show a * 2 ^ 10 = 256 * a + 256 * a + 256 * a + 256 * a by omega]
        exact s4
      exact q_drop s5
    have hsg : sgo odd = 1 ∨ sgo odd = -1 := by cases odd <;> simp [sgo]
    have g := fun i hi => (cell i hi).1
    have g0 := g 0 (by simp)
    have g1 := g 1 (by simp)
    have g2 := g 2 (by simp)
    have g3 := g 3 (by simp)
    refine ⟨hok, q4 g0.2.1 g1.2.1 g2.2.1 g3.2.1 ?_, q4 g0.2.2 g1.2.2 g2.2.2 g3.2.2 ?_⟩
    · rcases hsg with h | h <;> rw [h] <;> omega
    · rcases hsg with h | h <;> rw [h] <;> omega
end Go.Proofs.YtobpnoiienpipaaGreat

/-
  What is proved: the walks of the comparing of rows cell by cell (slices.Equal at cells, SameRows at one row each).
  Conditions: both rows can be read.
-/
namespace Go.Proofs.YtobpnoiienpipaaGreat
set_option linter.unusedVariables false
open Go.RowKit
attribute [local go_sem] run_store_float run_store_complex unary_negf neg256

/-- Are two numbers equal? -/
def feq (a b : Nat) : Bool := FloatKind.f32.format.order a b == some .eq
theorem eqf_float (d : Nat) (t : TypeId) (a b : Nat) (W : World) (h : Tryz.prog.underlying t = some (.float .f32)) : (Op.equalIn (d + 1) t (.float .f32 a) (.float .f32 b)).run Tryz.prog W = .ok (feq a b) W := by
  simp [Op.equalIn, run_underlying h, feq, Op.floatEq]
theorem eqf_complex (d : Nat) (t : TypeId) (a b a' b' : Nat) (W : World) (h : Tryz.prog.underlying t = some (.complex .f32)) : (Op.equalIn (d + 1) t (.complex .f32 a b) (.complex .f32 a' b')).run Tryz.prog W = .ok (feq a a' && feq b b') W := by
  simp [Op.equalIn, run_underlying h, feq, Op.floatEq]
theorem neq_cell (y u v y' u' v' : Nat) (W : World) : (binOp .neq 61 (.agg #[.float .f32 y, .complex .f32 u v]) (.agg #[.float .f32 y', .complex .f32 u' v'])).run Tryz.prog W = .ok (.bool (!(feq y y' && (feq u u' && feq v v')))) W := by
  have hS : Tryz.prog.underlying 61 = some (.struct (Tryz.prog.fieldsOf 61)) := by kernel_rfl
  have hp : Tryz.prog.stoodInHeld 61 = false := by kernel_rfl
  have u1 := Tryz.underlying25
  have u2 := Tryz.underlying26
  have a1 := Tryz.isAgg25
  have a2 := Tryz.isAgg26
  have z1 := Tryz.sizeOf25
  have z2 := Tryz.sizeOf26
  have e1 := eqf_float 9998 25 y y' W u1
  have e2 := eqf_complex 9998 26 u v u' v' W u2
  rw [run_neq_struct, show (10000 : Nat) = 9999 + 1 from rfl, run_equalIn_agg W 9999 61 _ _ hS hp]
  simp only [Program.fieldsOf, Tryz.underlying61]
  simp only [show (9998 + 1 : Nat) = 9999 from rfl] at e1 e2
  clear hS hp u1 u2
  go_simp
  cases feq y y' <;> cases feq u u' <;> cases feq v v' <;> simp
theorem guard_cell (op : BinOp) (x y : Operand) (xs ys : Array Value) (W : World) : (eqGuard op 61 x y (.agg xs) (.agg ys)).run Tryz.prog W = .ok () W := run_eqGuard_agg W op _ x y xs ys (by kernel_rfl)
attribute [local go_sem high] neq_cell guard_cell
/-- Two rows whose cells are equal. -/
def Alike (a b : List C3) : Prop := a.length = b.length ∧ ∀ i (h : i < a.length) (h' : i < b.length), (feq a[i].1 b[i].1 && (feq a[i].2.1 b[i].2.1 && feq a[i].2.2 b[i].2.2)) = true
set_option maxHeartbeats 2000000 in
theorem equalCells_any (v v' : Value) (a b : List C3) (w : World) (h : RowV w v a) (h' : RowV w v' b) (hl : a.length ≤ 1000000) (hab : Alike a b) :
    Calls Tryz.prog 36 #[v, v'] w fun e w' => e = .returned (.bool true) ∧ Below w.heap.size w w' := by
  obtain ⟨hlen, heq⟩ := hab
  have hbn : ((a.length : Int) != (b.length : Int)) = false := by rw [hlen]; simp
  have HE := Lib.hid heq
  have HLEN := Lib.hid hlen
  by_cases h0 : a = []
  · have hb0 : b = [] := by cases b with
      | nil => rfl
      | cons c b => rw [h0] at hlen; simp at hlen
    obtain ⟨ad, cap, rfl⟩ := h.lenv
    obtain ⟨ad', cap', rfl⟩ := h'.lenv
    subst h0 hb0
    clear h h' heq hlen hbn HE HLEN
    go_enter Tryz.func36, Tryz.ntmps36
    go_wp2
    go_loop [13] (fun i => i = .int .i64 0) (fun _ => 0)
    case atStart => exact rfl
    case round =>
      obtain rfl := hrel
      go_wp2
      go_ret
      exact ⟨rfl, Below.refl _ _⟩
  · have hb0 : b ≠ [] := by intro e; rw [e] at hlen; exact h0 (List.eq_nil_of_length_eq_zero hlen)
    obtain ⟨g, o, cap, rfl, hcap, hcell⟩ := h.len h0
    obtain ⟨g', o', cap', rfl, hcap', hcell'⟩ := h'.len hb0
    have HC := Lib.hid hcell
    have HC' := Lib.hid hcell'
    clear h h' heq hlen hcell hcell' h0 hb0
    go_enter Tryz.func36, Tryz.ntmps36
    go_wp2
    go_loopw [13] (fun i wr => ∃ k q : Nat, k ≤ a.length ∧ i = .int .i64 (k : Int) ∧ wr = w.drewN q) (fun i _ => a.length - (intOf i).toNat)
    case atStart => exact ⟨0, 0, Nat.zero_le _, rfl, rfl⟩
    case round =>
      obtain ⟨k, q, hk, rfl, rfl⟩ := hrel
      by_cases hlt : k < a.length
      · have hltb : k < b.length := by have := HLEN.out; omega
        obtain ⟨hc0, hc1⟩ := HC.out k hlt
        obtain ⟨hc0', hc1'⟩ := HC'.out k hltb
        have he := HE.out k hlt hltb
        generalize a[k] = c at *
        generalize b[k] = d at *
        obtain ⟨y, u, z⟩ := c
        obtain ⟨y', u', z'⟩ := d
        simp only at hc0 hc1 hc0' hc1' he
        go_wp2
        go_quiet (fail)
        go_wp2
        go_roundw
        case rel => exact ⟨k + 1, _, by omega, by go_num, rfl⟩
        case measure => simp [intOf]; omega
      · go_wp2
        go_ret
        exact ⟨rfl, belowDN (Below.refl _ _) _⟩

/-- What equals itself. -/
theorem feq_self {x : Nat} (h : (Ieee.single.read x).isNaN = false) : feq x x = true := by
  unfold feq
  rw [show FloatKind.f32.format.order x x = some .eq from Flt.order_self h]; rfl
end Go.Proofs.YtobpnoiienpipaaGreat

/-
  What is proved: the walk of isRowCount.
  Conditions: the number is a 64-bit one.
-/
namespace Go.Proofs.YtobpnoiienpipaaGreat
set_option linter.unusedVariables false
open Go.RowKit

/-- Is it a number of rows? -/
def rowCnt (n : Int) : Bool := decide (n % 4 = 0) && (decide (4 ≤ n) && decide (n ≤ 64))
theorem isRowCount_any (n : Int) (h0 : -9223372036854775808 ≤ n) (h1 : n ≤ 9223372036854775807) (w : World) :
    Calls Tryz.prog 55 #[.int .i64 n] w fun e w' => e = .returned (.bool (rowCnt n)) ∧ w = w' := by
  rcases Int.lt_or_le n 4 with h | h
  · have hr : rowCnt n = false := by unfold rowCnt; simp; omega
    have HR := Lib.hid hr
    clear hr
    go_enter Tryz.func55, Tryz.ntmps55
    go_wp2
    all_goals
      go_ret
      exact ⟨by rw [HR.out]; first | rfl | simp, rfl⟩
  · have hm : rowCnt n = (n % 4 == 0 && decide (n ≤ 64)) := by
      by_cases hm : n % 4 = 0 <;> simp [rowCnt, h, hm]
    have HR := Lib.hid hm
    clear hm
    go_enter Tryz.func55, Tryz.ntmps55
    go_wp2
    all_goals
      go_ret
      refine ⟨?_, rfl⟩
      rw [HR.out]
      simp_all
end Go.Proofs.YtobpnoiienpipaaGreat

/-
  What is proved: pictures as they lie in memory; the walks of PictureOk (the program's and the model's).
  Conditions: the picture can be read.
-/
namespace Go.Proofs.YtobpnoiienpipaaGreat
set_option linter.unusedVariables false
open Go.RowKit
attribute [local go_sem] run_store_float run_store_complex unary_negf neg256

/-- The slice v of rows reads as rs. -/
def PicV (w : World) (v : Value) (rs : List (List C3)) : Prop :=
  (v = .slice none 0 0 ∧ rs = []) ∨ ∃ g o cap, v = .slice (some ⟨g, o, none⟩) rs.length cap ∧ rs.length ≤ cap ∧ ∀ i (h : i < rs.length), ∃ rv, w.cell? ⟨g, o + i, none⟩ = some rv ∧ RowV w rv rs[i]
theorem PicV.grown {w w' : World} {v : Value} {rs : List (List C3)} (h : PicV w v rs) (hg : w.grownBy w' none) : PicV w' v rs := by
  rcases h with h | ⟨g, o, cap, h1, h2, h3⟩
  · exact .inl h
  · refine .inr ⟨g, o, cap, h1, h2, fun i hi => ?_⟩
    obtain ⟨rv, g1, g2⟩ := h3 i hi
    exact ⟨rv, hg.cell g1 (by simp), g2.grown hg⟩
theorem PicV.below {w w' : World} {v : Value} {rs : List (List C3)} (h : PicV w v rs) (hb : Below w.heap.size w w') : PicV w' v rs := h.grown (grown_of hb)
theorem PicV.nil (w : World) : PicV w (.slice none 0 0) [] := .inl ⟨rfl, rfl⟩
theorem PicV.lenv {w : World} {v : Value} {rs : List (List C3)} (h : PicV w v rs) : ∃ a cap, v = .slice a rs.length cap := by
  rcases h with ⟨h, h2⟩ | ⟨g, o, cap, h, _⟩
  · subst h2; exact ⟨none, 0, h⟩
  · exact ⟨_, _, h⟩
theorem PicV.len {w : World} {v : Value} {rs : List (List C3)} (h : PicV w v rs) (hne : rs ≠ []) : ∃ g o cap, v = .slice (some ⟨g, o, none⟩) rs.length cap ∧ rs.length ≤ cap ∧
    ∀ i (h : i < rs.length), ∃ a c, w.cell? ⟨g, o + i, none⟩ = some (.slice a rs[i].length c) ∧ RowV w (.slice a rs[i].length c) rs[i] := by
  rcases h with ⟨_, h⟩ | ⟨g, o, cap, h1, h2, h3⟩
  · exact absurd h hne
  · refine ⟨g, o, cap, h1, h2, fun i hi => ?_⟩
    obtain ⟨rv, g1, g2⟩ := h3 i hi
    obtain ⟨a, c, rfl⟩ := g2.lenv
    exact ⟨a, c, g1, g2⟩
/-- Few enough cells in each row. -/
def Thin (rs : List (List C3)) : Prop := ∀ r ∈ rs, r.length ≤ 1000000
/-- A valid row, as long as the first. -/
def rowFit (n : Nat) (r : List C3) : Bool := rok r && decide (r.length = n)
def sizeOk (rs : List (List C3)) : Bool := decide (rs.length % 4 = 0) && (decide (4 ≤ rs.length) && decide (rs.length ≤ 64))
def pok (rs : List (List C3)) : Bool := sizeOk rs && rs.all (rowFit (rs.headD []).length)
theorem pok_size {rs : List (List C3)} (h : sizeOk rs = false) : pok rs = false := by unfold pok; rw [h]; rfl
theorem pok_rows {rs : List (List C3)} (h : sizeOk rs = true) : pok rs = rs.all (rowFit (rs.headD []).length) := by unfold pok; rw [h]; rfl
theorem sizeOk_iff {rs : List (List C3)} : sizeOk rs = true ↔ rs.length % 4 = 0 ∧ 4 ≤ rs.length ∧ rs.length ≤ 64 := by
  unfold sizeOk
  rw [Bool.and_eq_true, Bool.and_eq_true, decide_eq_true_iff, decide_eq_true_iff, decide_eq_true_iff]
theorem rowCnt_len {rs : List (List C3)} : rowCnt (rs.length : Int) = sizeOk rs := by
  unfold rowCnt sizeOk
  have e1 : decide ((rs.length : Int) % 4 = 0) = decide (rs.length % 4 = 0) := decide_eq_decide.2 (by omega)
  have e2 : decide ((4 : Int) ≤ rs.length) = decide (4 ≤ rs.length) := decide_eq_decide.2 (by omega)
  have e3 : decide ((rs.length : Int) ≤ 64) = decide (rs.length ≤ 64) := decide_eq_decide.2 (by omega)
  rw [e1, e2, e3]
theorem head_get {rs : List (List C3)} (h : 0 < rs.length) : rs.headD [] = rs[0] := by
  cases rs with
  | nil => simp at h
  | cons r rs => rfl

set_option maxHeartbeats 1000000 in
theorem pictureOk_no (v : Value) (rs : List (List C3)) (w : World) (h : PicV w v rs) (hno : sizeOk rs = false) (hl : rs.length ≤ 1000000) :
    Calls Tryz.prog 26 #[v] w fun e w' => e = .returned (.bool false) ∧ Below w.heap.size w w' := by
  obtain ⟨a, cap, rfl⟩ := h.lenv
  have HR := Lib.hid (isRowCount_any (rs.length : Int) (by omega) (by omega) w)
  rw [rowCnt_len, hno] at HR
  clear h hno
  go_enter Tryz.func26, Tryz.ntmps26
  go_wp2_with fail
  refine HR.out.mono ?_
  rintro e w1 ⟨rfl, rfl⟩
  go_wp2
  go_ret
  exact ⟨rfl, Below.refl _ _⟩

set_option maxHeartbeats 4000000 in
theorem pictureOk_rows (v : Value) (rs : List (List C3)) (w : World) (h : PicV w v rs) (hs : sizeOk rs = true) (ht : Thin rs) :
    Calls Tryz.prog 26 #[v] w fun e w' => e = .returned (.bool (rs.all (rowFit (rs.headD []).length))) ∧ Below w.heap.size w w' := by
  obtain ⟨h4, h5, h6⟩ := sizeOk_iff.1 hs
  have HRC := Lib.hid (isRowCount_any (rs.length : Int) (by omega) (by omega) w)
  rw [rowCnt_len, hs] at HRC
  have h0 : 0 < rs.length := by omega
  have hne : rs ≠ [] := by rintro rfl; simp at h5
  obtain ⟨g, o, cap, rfl, hcap, hcell⟩ := h.len hne
  obtain ⟨a0, c0, hc0, _⟩ := hcell 0 h0
  rw [Nat.add_zero] at hc0
  rw [head_get h0]
  have HX := Lib.hid hcell
  have HT := Lib.hid ht
  have HF := Lib.hid (fun k (hk : k < rs.length) => show rowFit (rs[0]'h0).length rs[k] = (rok rs[k] && decide (rs[k].length = (rs[0]'h0).length)) from rfl)
  generalize hp : rowFit (rs[0]'h0).length = p at *
  generalize hn0 : (rs[0]'h0).length = n0 at *
  have HN := Lib.hid hn0
  clear hn0 hs h h4 hne hcell ht hp
  go_enter Tryz.func26, Tryz.ntmps26
  go_wp2_with fail
  refine HRC.out.mono ?_
  rintro e w0 ⟨rfl, rfl⟩
  go_wp2
  go_loopw [11] (fun i wr => ∃ k : Nat, k ≤ rs.length ∧ i = .int .i64 (k : Int) ∧ Below w.heap.size w wr ∧ (rs.take k).all p = true) (fun i _ => rs.length - (intOf i).toNat)
  case atStart => exact ⟨0, Nat.zero_le _, rfl, Below.refl _ _, by simp⟩
  case round =>
    obtain ⟨k, hk, rfl, hb, hall⟩ := hrel
    have HALL := Lib.hid hall
    clear hall
    by_cases hlt : k < rs.length
    · obtain ⟨a, c, hc, hr⟩ := HX.out k hlt
      have hck := (grown_of hb).cell hc (by simp)
      have hfk := HF.out k hlt
      have hlk := HT.out _ (List.getElem_mem hlt)
      have HST := Lib.hid (fun e => all_take hlt HALL.out e)
      have HNO := Lib.hid (fun e => all_not (p := p) hlt e)
      generalize rs[k] = r at *
      have HR := Lib.hid (rowOk_any _ r wr (hr.below hb) hlk)
      clear hr hc
      cases hrk : rok r with
      | false =>
        rw [hrk] at HR hfk
        have HH := Lib.hid (HNO.out hfk)
        clear hrk hfk
        go_wp2_with fail
        refine HR.out.mono ?_
        rintro e w1 ⟨rfl, hb1⟩
        go_wp2
        go_ret
        exact ⟨by rw [HH.out]; rfl, below_trans hb hb1 hb.size⟩
      | true =>
        rw [hrk] at HR hfk
        by_cases hln : r.length = n0
        · rw [decide_eq_true hln] at hfk
          have HH := Lib.hid (HST.out hfk)
          have hbn : ((r.length : Int) != (n0 : Int)) = false := by rw [hln]; simp
          clear hrk hfk hln
          go_wp2_with fail
          refine HR.out.mono ?_
          rintro e w1 ⟨rfl, hb1⟩
          have hz := (grown_of (below_trans hb hb1 hb.size)).cell hc0 (by simp)
          go_wp2
          go_roundw
          case rel => exact ⟨k + 1, by omega, by go_num, below_trans hb hb1 hb.size, HH.out⟩
          case measure => simp [intOf]; omega
        · rw [decide_eq_false hln] at hfk
          have HH := Lib.hid (HNO.out hfk)
          have hbn : ((r.length : Int) != (n0 : Int)) = true := by simp; omega
          clear hrk hfk hln
          go_wp2_with fail
          refine HR.out.mono ?_
          rintro e w1 ⟨rfl, hb1⟩
          have hz := (grown_of (below_trans hb hb1 hb.size)).cell hc0 (by simp)
          go_wp2
          go_ret
          exact ⟨by rw [HH.out]; rfl, below_trans hb hb1 hb.size⟩
    · have hkk : rs.take k = rs := List.take_of_length_le (by omega)
      have HK := Lib.hid hkk
      clear hkk
      go_wp2
      go_ret
      exact ⟨by have := HALL.out; rw [HK.out] at this; rw [this]; rfl, hb⟩
theorem pictureOk_any (v : Value) (rs : List (List C3)) (w : World) (h : PicV w v rs) (ht : Thin rs) (hl : rs.length ≤ 1000000) :
    Calls Tryz.prog 26 #[v] w fun e w' => e = .returned (.bool (pok rs)) ∧ Below w.heap.size w w' := by
  cases hs : sizeOk rs with
  | false => rw [pok_size hs]; exact pictureOk_no v rs w h hs hl
  | true => rw [pok_rows hs]; exact pictureOk_rows v rs w h hs ht
end Go.Proofs.YtobpnoiienpipaaGreat
