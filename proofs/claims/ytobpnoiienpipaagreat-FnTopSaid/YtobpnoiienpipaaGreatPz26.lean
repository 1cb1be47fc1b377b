/-
  What is proved: what the samples of a link's lines are behind its channel, and that they are brought to level exactly.
  Conditions: those that each fact names.
-/
import Derived.Test.YtobpnoiienpipaaGreatPz21
import Derived.Test.YtobpnoiienpipaaGreatPz23
import Derived.Test.YtobpnoiienpipaaGreatPz25
import Derived.Test.YtobpnoiienpipaaGreatPz10
import Derived.Test.YtobpnoiienpipaaGreatPz18
import Derived.Deep.RegionHeld3
namespace Go.Proofs.YtobpnoiienpipaaGreat
set_option linter.unusedVariables false
open Go.RowKit
open Flt

/-- A link's channel, told by whole numbers: A is a half of α, Offset an eighth of ω, the parts of G are A times a half of ξ and a quarter of η. -/
structure LinkQ (h : Chn) (α ω ξ η : Int) : Prop where
  three : ThreeG α
  four : FourG ξ
  wb : ω.natAbs ≤ 32
  eb : η.natAbs ≤ 4
  qa : Q 148 h.A α
  qo : Q 146 h.O ω
  qx : Q 147 h.X (α * ξ)
  qy : Q 146 h.Y (α * η)
theorem LinkH.q {h : Chn} (hl : LinkH h) : ∃ α ω ξ η, LinkQ h α ω ξ η := by
  obtain ⟨α, ω, ξ, η, h1, h2, h3, h4, h5, h6, h7, h8⟩ := hl
  exact ⟨α, ω, ξ, η, ⟨h1, h2, h3, h4, h5, h6, h7, h8⟩⟩
theorem LinkQ.pos {h : Chn} {α ω ξ η : Int} (hl : LinkQ h α ω ξ η) : 1 ≤ α ∧ α ≤ 4 := by
  rcases hl.three with e | e | e <;> rw [e] <;> decide
theorem LinkQ.qh {h : Chn} {α ω ξ η : Int} (hl : LinkQ h α ω ξ η) : QH 146 146 h (α * 2 ^ 2) ω (α * ξ * 2 ^ 1) (α * η) :=
  ⟨hl.qa.lift 2 (by decide), hl.qo, hl.qx.lift 1 (by decide), hl.qy⟩
theorem LinkQ.valid {h : Chn} {α ω ξ η : Int} (hl : LinkQ h α ω ξ η) : ChOk h ∧ MagH h := by
  obtain ⟨qA, qO, qX, qY⟩ := hl.qh
  obtain ⟨a1, a2⟩ := hl.pos
  have m1 := mul_le (a := α) (m := 4) (by omega) hl.four.le
  have m2 := mul_le (a := α) (m := 4) (by omega) hl.eb
  have hw := hl.wb
  refine chain_valid ⟨qA.lift 1 (by decide), qO.lift 2 (by decide), qX.lift 1 (by decide), qY.lift 1 (by decide)⟩ ?_ ?_ ?_ ?_
  · omega
  · omega
  · omega
  · omega
/-- The whole numbers of a cell that a link's channel has turned, in 64ths, but for its gain. -/
def tI (ξ η : Int) (k : I3) : I3 := (4 * k.1, k.2.1 * (2 * ξ) - k.2.2 * η, k.2.1 * η + k.2.2 * (2 * ξ))
theorem tI_bnd {ξ η : Int} (hξ : ξ.natAbs ≤ 2) (hη : η.natAbs ≤ 4) {y a b : Int} (h1 : y.natAbs ≤ 1024) (h2 : a.natAbs ≤ 512) (h3 : b.natAbs ≤ 512) : (tI ξ η (y, a, b)).1.natAbs ≤ 4096 ∧ (tI ξ η (y, a, b)).2.1.natAbs ≤ 4096 ∧ (tI ξ η (y, a, b)).2.2.natAbs ≤ 4096 := by
  have m1 := mul_le (n := 4) h2 (show (2 * ξ).natAbs ≤ 4 by omega)
  have m2 := mul_le h3 hη
  have m3 := mul_le h2 hη
  have m4 := mul_le (n := 4) h3 (show (2 * ξ).natAbs ≤ 4 by omega)
  unfold tI
  refine ⟨?_, ?_, ?_⟩ <;> simp only <;> omega
theorem link_tx {h : Chn} {α ω ξ η : Int} (hl : LinkQ h α ω ξ η) {c : C3} {y a b : Int} (hc : PC c y a b) :
    QC 142 (txC h (back c)) (α * (tI ξ η (y, a, b)).1 + 16 * ω) (α * (tI ξ η (y, a, b)).2.1) (α * (tI ξ η (y, a, b)).2.2) := by
  obtain ⟨b1, b2, b3⟩ := hc.2.2.2
  obtain ⟨a1, a2⟩ := hl.pos
  have m1 := mul_le (a := α) (m := 4) (by omega) hl.four.le
  have m2 := mul_le (a := α) (m := 4) (by omega) hl.eb
  have hw := hl.wb
  have hk := hc.qc.back (by decide) (by decide) (by omega) (by omega) (by omega)
  have n0 := mul_le (a := α * 2 ^ 2) (m := 16) (by omega) b1
  have n1 := mul_le (a := a) (b := α * ξ * 2 ^ 1) (n := 16) b2 (by omega)
  have n2 := mul_le (a := b) (b := α * η) (n := 16) b3 (by omega)
  have n3 := mul_le (a := a) (b := α * η) (n := 16) b2 (by omega)
  have n4 := mul_le (a := b) (b := α * ξ * 2 ^ 1) (n := 16) b3 (by omega)
  have r := q_tx (e := 145) (g := 146) (o := 146) (j := 4) hl.qh hk (by decide) (by decide) (by decide) (by omega) (by omega) (by omega) (by omega) (by omega) (by omega)
  have e1 : α * 2 ^ 2 * y + ω * 2 ^ 4 = α * (tI ξ η (y, a, b)).1 + 16 * ω := by unfold tI; grind
  have e2 : a * (α * ξ * 2 ^ 1) - b * (α * η) = α * (tI ξ η (y, a, b)).2.1 := by unfold tI; grind
  have e3 : a * (α * η) + b * (α * ξ * 2 ^ 1) = α * (tI ξ η (y, a, b)).2.2 := by unfold tI; grind
  rw [e1, e2, e3] at r
  exact r
/-- The whole numbers of the samples of cells that came through. -/
def sI (ξ η : Int) (ks : List I3) : List Int := (ks.map (tI ξ η)).flatMap encI
theorem sI_append (ξ η : Int) (ks ls : List I3) : sI ξ η (ks ++ ls) = sI ξ η ks ++ sI ξ η ls := by
  unfold sI; rw [List.map_append, List.flatMap_append]
theorem CellsQ.link {h : Chn} {α ω ξ η : Int} (hl : LinkQ h α ω ξ η) : ∀ {cs : List C3} {ks : List I3}, CellsQ cs ks → QL 142 (txs h (enc cs)) ((sI ξ η ks).map fun s => α * s + 16 * ω) ∧ ∀ s ∈ sI ξ η ks, s.natAbs ≤ 8192
  | [], [], _ => ⟨trivial, fun s hs => by cases hs⟩
  | c :: cs, k :: ks, hc => by
    obtain ⟨h1, h2⟩ := hc
    obtain ⟨i1, i2⟩ := CellsQ.link hl h2
    rw [txs_enc] at i1 ⊢
    have k1 := link_tx hl h1
    obtain ⟨b1, b2, b3⟩ := h1.2.2.2
    obtain ⟨c1, c2, c3⟩ := tI_bnd hl.four.le hl.eb b1 b2 b3
    obtain ⟨a1, a2⟩ := hl.pos
    have hw := hl.wb
    obtain ⟨y, a, b⟩ := k
    simp only at k1 c1 c2 c3
    have hs : sI ξ η ((y, a, b) :: ks) = encI (tI ξ η (y, a, b)) ++ sI ξ η ks := by unfold sI; rw [List.map_cons, List.flatMap_cons]
    generalize tI ξ η (y, a, b) = t at *
    have m1 := mul_le (a := α) (m := 4) (by omega) c1
    have m2 := mul_le (a := α) (m := 4) (by omega) c2
    have m3 := mul_le (a := α) (m := 4) (by omega) c3
    obtain ⟨e1, e2, e3, e4⟩ := k1.enc (by decide) (by omega) (by omega) (by omega)
    rw [hs, List.map_append]
    refine ⟨?_, fun s hs => ?_⟩
    · show QL 142 (enc4 (txC h (back c)) ++ enc (cs.map fun c => txC h (back c))) _
      refine QL.append ⟨?_, ?_, ?_, ?_, trivial⟩ i1
      · show Q 142 _ (α * (t.1 + t.2.1) + 16 * ω)
        rwa [show α * t.1 + 16 * ω + α * t.2.1 = α * (t.1 + t.2.1) + 16 * ω by grind] at e1
      · show Q 142 _ (α * (t.1 - t.2.2) + 16 * ω)
        rwa [show α * t.1 + 16 * ω - α * t.2.2 = α * (t.1 - t.2.2) + 16 * ω by grind] at e2
      · show Q 142 _ (α * (t.1 - t.2.1) + 16 * ω)
        rwa [show α * t.1 + 16 * ω - α * t.2.1 = α * (t.1 - t.2.1) + 16 * ω by grind] at e3
      · show Q 142 _ (α * (t.1 + t.2.2) + 16 * ω)
        rwa [show α * t.1 + 16 * ω + α * t.2.2 = α * (t.1 + t.2.2) + 16 * ω by grind] at e4
    · rcases List.mem_append.1 hs with hs | hs
      · simp only [encI, List.mem_cons, List.mem_nil_iff, or_false] at hs
        omega
      · exact i2 s hs
  | [], _ :: _, h => h.elim
  | _ :: _, [], h => h.elim
/-- The whole numbers of the cells of a line: those of the pulse, the burst and the row. -/
def kL (odd : Bool) (ks : List I3) : List I3 := ([(-1024, 0, 0), (-1024, 0, 0)] ++ [bim3 odd, bim3 odd, bim3 odd, bim3 odd]) ++ ks
theorem kL_cells {cs : List C3} {odd : Bool} {ks : List I3} (h : CellsQ (oddRow cs odd) ks) : CellsQ (lineCells cs odd) (kL odd ks) :=
  CellsQ.append (CellsQ.append ⟨pcell_pc, pcell_pc, trivial⟩ (bcells_q odd)) h
/-- The samples of the burst, turned. -/
def bI (ξ η : Int) (odd : Bool) : List Int := sI ξ η [bim3 odd, bim3 odd, bim3 odd, bim3 odd]
theorem sI_line (ξ η : Int) (odd : Bool) (ks : List I3) : sI ξ η (kL odd ks) = List.replicate 8 (-4096) ++ (bI ξ η odd ++ sI ξ η ks) := by
  unfold kL
  rw [sI_append, sI_append, List.append_assoc]
  have e : sI ξ η [(-1024, 0, 0), (-1024, 0, 0)] = List.replicate 8 (-4096) := by
    unfold sI tI encI
    simp [List.replicate]
  rw [e]
  rfl
def burA (ξ η : Int) (odd : Bool) : Int := (tI ξ η (bim3 odd)).2.1
def burB (ξ η : Int) (odd : Bool) : Int := (tI ξ η (bim3 odd)).2.2
theorem bI_eq (ξ η : Int) (odd : Bool) : bI ξ η odd = [burA ξ η odd, -burB ξ η odd, -burA ξ η odd, burB ξ η odd, burA ξ η odd, -burB ξ η odd, -burA ξ η odd, burB ξ η odd, burA ξ η odd, -burB ξ η odd, -burA ξ η odd, burB ξ η odd, burA ξ η odd, -burB ξ η odd, -burA ξ η odd, burB ξ η odd] := by
  have e : encI (tI ξ η (bim3 odd)) = [burA ξ η odd, -burB ξ η odd, -burA ξ η odd, burB ξ η odd] := by
    unfold encI burA burB
    have e0 : (tI ξ η (bim3 odd)).1 = 0 := by cases odd <;> rfl
    rw [e0]
    simp
  unfold bI sI
  simp only [List.map_cons, List.map_nil, List.flatMap_cons, List.flatMap_nil, e]
  rfl
theorem gap_link {g : Nat} {α : Int} (h3 : ThreeG α) (hq : Q 142 g (4096 * α)) : ∃ κ, Q 148 (quov 1115684864 g) κ ∧ α * κ = 4 ∧ κ.natAbs ≤ 4 := by
  have hd : Q 143 g (1024 * (2 * α)) := by
    have : Q 142 g (1024 * (2 * α) * 2 ^ 1) := by rwa [show 1024 * (2 * α) * 2 ^ 1 = 4096 * α by omega]
    exact q_drop this
  obtain ⟨A, hg⟩ : ∃ A, GainOf A (2 * α) := by
    rcases h3 with rfl | rfl | rfl
    · exact ⟨1056964608, .inr (.inl ⟨rfl, rfl⟩)⟩
    · exact ⟨1065353216, .inr (.inr (.inl ⟨rfl, rfl⟩))⟩
    · exact ⟨1073741824, .inr (.inr (.inr ⟨rfl, rfl⟩))⟩
  obtain ⟨κ, h1, h2, h4⟩ := gap_bits hg hd
  have h5 : α * κ = 4 := by rw [Int.mul_assoc] at h2; omega
  refine ⟨κ, h1, h5, ?_⟩
  rcases h3 with rfl | rfl | rfl <;> omega
theorem part_QL {e : Nat} {xs : List Nat} {ks : List Int} (h : QL e xs ks) (i m : Nat) : QL e (part xs i m) ((ks.drop i).take m) := (h.drop i).take m
/-- A line of a link, behind its channel, is brought to level exactly. -/
theorem link_level {h : Chn} {α ω ξ η : Int} (hl : LinkQ h α ω ξ η) {cs : List C3} (hp : PlainR cs) (h1 : 1 ≤ cs.length) (h2 : cs.length ≤ 64) (odd : Bool) {ks : List I3} (hk : CellsQ (oddRow cs odd) ks) :
    sampOk (lineL cs odd) = true ∧ sampOk (txs h (lineL cs odd)) = true ∧ levOk (txs h (lineL cs odd)) = true ∧ lineOk (levs (txs h (lineL cs odd))) = true ∧
    QL 142 (txs h (lineL cs odd)) ((sI ξ η (kL odd ks)).map fun s => α * s + 16 * ω) ∧ QL 143 (levs (txs h (lineL cs odd))) (sI ξ η (kL odd ks)) := by
  obtain ⟨q3, q2⟩ := (kL_cells hk).link hl
  have hlen := lineL_len cs odd
  have hlok := lineL_ok hp h1 h2 odd
  rw [show enc (lineCells cs odd) = lineL cs odd from (lineL_enc cs odd).symm] at q3
  obtain ⟨ha1, ha2⟩ := hl.pos
  have hw := hl.wb
  have h3 := hl.three
  rw [sI_line] at q3 q2 ⊢
  have hbI := bI_eq ξ η odd
  have hbs : ∀ s ∈ bI ξ η odd, s.natAbs ≤ 8192 := fun s hs => q2 s (List.mem_append.2 (.inr (List.mem_append.2 (.inl hs))))
  have hl3 := q3.len
  have hxl0 : (txs h (lineL cs odd)).length = (lineL cs odd).length := txs_len h (6 + cs.length) _ (by omega)
  generalize hx : txs h (lineL cs odd) = xs at *
  generalize hline : lineL cs odd = line at *
  generalize hL : List.replicate 8 (-4096 : Int) ++ (bI ξ η odd ++ sI ξ η ks) = L at *
  generalize sI ξ η ks = js at *
  generalize burA ξ η odd = u at *
  generalize burB ξ η odd = v at *
  rw [hbI] at hL hbs
  have hB : ∀ k ∈ (L.map fun s => α * s + 16 * ω), k.natAbs ≤ 33280 := by
    intro k hk
    obtain ⟨s, hs, rfl⟩ := List.mem_map.1 hk
    have b1 := q2 s hs
    have b2 := mul_le (a := α) (b := s) (m := 4) (by omega) b1
    omega
  have hfx := ql_fin1 q3 hB (by decide)
  have hll : lineLen xs.length = true := by
    have := lineOk_len hlok
    rw [← hxl0] at this
    exact lineLen_yes this
  have hlo : lineOk xs = true := by unfold lineOk; rw [hll, List.all_eq_true.2 hfx]; rfl
  have hso : sampOk line = true := sampOk_mk (by omega) (lineOk_all hlok)
  have hsx : sampOk xs = true := sampOk_mk (by omega) hfx
  have e8 : ∀ M : List Int, L = List.replicate 8 (-4096) ++ M → ((L.map fun s => α * s + 16 * ω).drop 0).take 8 = List.replicate 8 (α * (-4096) + 16 * ω) := by
    intro M hM
    rw [hM, List.drop_zero, List.map_append, List.map_replicate, List.take_append_of_le_length (by rw [List.length_replicate]; decide), List.take_of_length_le (by rw [List.length_replicate]; decide)]
  have htip : Q 142 (tipOf xs) (α * (-4096) + 16 * ω) := by
    have p1 := part_QL q3 0 8
    rw [e8 _ hL.symm] at p1
    have p2 := q_sumF (B := 33280) p1 (by rw [part_len xs 0 8 (by omega)]; decide) (fun k hk => by rw [List.eq_of_mem_replicate hk]; omega) (by rw [List.length_replicate]; decide) (by decide)
    have p3 : ksum (List.replicate 8 (α * (-4096) + 16 * ω)) = (α * (-4096) + 16 * ω) * 2 ^ 3 := by
      simp only [List.replicate, ksum]; omega
    rw [p3] at p2
    exact q_drop (q_quov (f := 139) read_8 p2 (by omega) (by decide) (by decide))
  have e16 : ((L.map fun s => α * s + 16 * ω).drop 8).take 16 = [u, -v, -u, v, u, -v, -u, v, u, -v, -u, v, u, -v, -u, v].map fun s => α * s + 16 * ω := by
    rw [← hL, List.map_append, List.drop_append_of_le_length (by rw [List.length_map, List.length_replicate]; decide), List.drop_of_length_le (by rw [List.length_map, List.length_replicate]; decide), List.nil_append, List.map_append, List.take_append_of_le_length (by simp), List.take_of_length_le (by simp)]
  have hblk : Q 142 (blackOf xs) (16 * ω) := by
    have p1 := part_QL q3 8 16
    rw [e16] at p1
    have p2 := q_sumF (B := 33280) p1 (by rw [part_len xs 8 16 (by omega)]; decide) (fun k hk => by
      obtain ⟨s, hs, rfl⟩ := List.mem_map.1 hk
      have b2 := mul_le (a := α) (b := s) (m := 4) (by omega) (hbs s hs)
      omega) (by simp) (by decide)
    have p3 : ksum ([u, -v, -u, v, u, -v, -u, v, u, -v, -u, v, u, -v, -u, v].map fun s => α * s + 16 * ω) = (16 * ω) * 2 ^ 4 := by
      simp only [List.map_cons, List.map_nil, ksum, Int.mul_neg]; omega
    rw [p3] at p2
    exact q_drop (q_quov (f := 138) read_16 p2 (by omega) (by decide) (by decide))
  have hleb : leb (blackOf xs) (tipOf xs) = false := by
    unfold leb
    rw [hblk.order htip, show compare (16 * ω) (α * (-4096) + 16 * ω) = .gt from Flt.cmp_gt (by omega)]
    rfl
  have hlv : lvOk xs = true := by unfold lvOk; rw [hlo, hleb]; rfl
  have hgap : Q 142 (gapOf xs) (4096 * α) := by
    have := q_subv hblk htip (by omega) (by decide)
    rwa [show 16 * ω - (α * (-4096) + 16 * ω) = 4096 * α by omega] at this
  obtain ⟨κ, hκ, hακ, hκb⟩ := gap_link h3 hgap
  have hone : ∀ x s, s ∈ L → Q 142 x (α * s + 16 * ω) → (floatBits .mul .f32 (diffOf xs x) (liftOf xs)).isSome = true ∧ Q 143 (mulv (diffOf xs x) (liftOf xs)) s := by
    intro x s hs hq
    have b1 := q2 s hs
    have b2 := mul_le (a := α) (b := s) (m := 4) (by omega) b1
    have d1 : Q 142 (diffOf xs x) (α * s) := by
      have := q_subv hq hblk (by omega) (by decide)
      rwa [show α * s + 16 * ω - 16 * ω = α * s by omega] at this
    have e1 : α * s * κ = s * 2 ^ 2 := by rw [Int.mul_comm α s, Int.mul_assoc, hακ]; rfl
    obtain ⟨r, hr, _⟩ := Q.mul d1 hκ (by rw [e1]; omega) (by decide) (by decide)
    have d2 := q_mulv d1 hκ (by rw [e1]; omega) (by decide) (by decide)
    rw [e1] at d2
    exact ⟨by rw [show floatBits .mul .f32 (diffOf xs x) (liftOf xs) = some r from hr]; rfl, q_drop d2⟩
  have key : ∀ (M : List Int) (ys : List Nat), (∀ k ∈ M, k ∈ L) → QL 142 ys (M.map fun s => α * s + 16 * ω) → QL 143 (ys.map fun x => mulv (diffOf xs x) (liftOf xs)) M ∧ (ys.all fun x => (floatBits .mul .f32 (diffOf xs x) (liftOf xs)).isSome) = true := by
    intro M
    induction M with
    | nil =>
      intro ys _ hq
      cases ys with
      | nil => exact ⟨trivial, rfl⟩
      | cons _ _ => exact hq.elim
    | cons s M ih =>
      intro ys hM hq
      cases ys with
      | nil => exact hq.elim
      | cons y ys =>
        obtain ⟨e1, e2⟩ := hone y s (hM s (by simp)) hq.1
        obtain ⟨i1, i2⟩ := ih ys (fun k hk => hM k (by simp [hk])) hq.2
        refine ⟨⟨e2, i1⟩, ?_⟩
        rw [List.all_cons, e1, i2]
        rfl
  obtain ⟨hq, hall⟩ := key L xs (fun k hk => hk) q3
  have hlq : QL 143 (levs xs) L := hq
  have hlk : lineOk (levs xs) = true := by
    unfold lineOk
    rw [levs_len, hll, List.all_eq_true.2 (ql_fin1 hlq q2 (by decide))]
    rfl
  refine ⟨hso, hsx, ?_, hlk, q3, hlq⟩
  unfold levOk
  rw [hlv, hall, hlk]
  rfl
end Go.Proofs.YtobpnoiienpipaaGreat

/-
  What is proved: a sum of two single floats of amounts of at most a power of two has an amount of at most the next one.
  Conditions: those that each fact names.
-/
namespace Go.Proofs.YtobpnoiienpipaaGreat.Flt
set_option linter.unusedVariables false
open Ieee

/-- A number of an amount of at most 2 to the k, counted in units of the least place. -/
def Le (k : Nat) (x : Nat) : Prop := ∃ s u, Num single x s u ∧ u ≤ 2 ^ k
theorem Le.mag {k x : Nat} (h : Le k x) : Mag (k + 1) x := by
  obtain ⟨s, u, h1, h2⟩ := h
  exact mag_num h1 h2
theorem Le.mono {k l x : Nat} (h : Le k x) (hkl : k ≤ l) : Le l x := by
  obtain ⟨s, u, h1, h2⟩ := h
  exact ⟨s, u, h1, Nat.le_trans h2 (Nat.pow_le_pow_right (by decide) hkl)⟩
theorem Mag.le {k x : Nat} (h : Mag k x) : Le k x := by
  obtain ⟨s, m, e, h1, h2⟩ := h
  have hn := read_num h1
  obtain ⟨m', e', h3, h4, h5⟩ := hn
  rw [h1] at h3
  injection h3 with _ e1 e2
  subst e1; subst e2
  refine ⟨s, _, read_num h1, ?_⟩
  rw [place32] at h4 ⊢
  exact Nat.le_of_lt (scaled_lt (h2.imp id (fun h => by omega)))
theorem nearest_le (s : Bool) (mag : Nat) (place : Int) (K : Nat) (hK : K ≤ 273) (hp : -149 ≤ place) (h : mag * 2 ^ (place + 149).toNat ≤ 2 ^ K) : Le K (single.nearest s mag place) := by
  by_cases hm : mag = 0
  · refine ⟨s, 0, ?_, Nat.zero_le _⟩
    have e : single.nearest s mag place = single.word s 0 := by unfold Format.nearest; rw [if_pos hm]
    rw [e]
    exact num_zero single s (by rw [inf32]; decide)
  · have hl2 : 2 ^ mag.log2 ≤ mag := Nat.log2_self_le hm
    have hlg : mag.log2 + (place + 149).toNat ≤ K := by
      have h5 : 2 ^ mag.log2 * 2 ^ (place + 149).toNat ≤ 2 ^ K := Nat.le_trans (Nat.mul_le_mul_right _ hl2) h
      rw [← Nat.pow_add] at h5
      exact (Nat.pow_le_pow_iff_right (by decide : 1 < 2)).1 h5
    obtain ⟨last, hl⟩ : ∃ last : Int, last = max (place + mag.log2 - 23) (-149) := ⟨_, rfl⟩
    obtain ⟨c, hc⟩ : ∃ c, c = (place - last).toNat := ⟨_, rfl⟩
    obtain ⟨d, hd⟩ : ∃ d, d = (last - place).toNat := ⟨_, rfl⟩
    have h1 : Toward.even.cut s (mag * 2 ^ c) d ≤ 2 ^ 24 := by
      apply cut_le
      rw [← Nat.pow_add]
      exact Nat.le_of_lt (scaled_lt (.inr (by omega)))
    have h2 : Toward.even.cut s (mag * 2 ^ c) d ≤ 2 ^ (K - (last + 149).toNat) := by
      apply cut_le
      rw [← Nat.pow_add]
      have hp2 : 0 < 2 ^ (last + 149).toNat := two_pos _
      refine (Nat.mul_le_mul_right_iff hp2).1 ?_
      rw [← Nat.pow_add, Nat.mul_assoc, ← Nat.pow_add]
      by_cases hpl : last ≤ place
      · rw [show c + (last + 149).toNat = (place + 149).toNat by omega, show K - (last + 149).toNat + d + (last + 149).toNat = K by omega]
        exact h
      · rw [show c + (last + 149).toNat = (place + 149).toNat + d by omega, show K - (last + 149).toNat + d + (last + 149).toNat = K + d by omega, Nat.pow_add, Nat.pow_add, ← Nat.mul_assoc]
        exact Nat.mul_le_mul_right _ h
    have h3 := num_nearest single s mag place hm last (by rw [hl, frac32, place32]; rfl) c d hc hd (by
      rw [place32, inf32, bin32]
      have h4 : (last - -149).toNat ≤ 251 := by omega
      have h5 : (last - -149).toNat * 2 ^ 23 ≤ 251 * 2 ^ 23 := Nat.mul_le_mul_right _ h4
      omega)
    refine ⟨s, _, h3, ?_⟩
    rw [place32]
    have h6 : Toward.even.cut s (mag * 2 ^ c) d * 2 ^ (last - -149).toNat ≤ 2 ^ (K - (last + 149).toNat) * 2 ^ (last - -149).toNat := Nat.mul_le_mul_right _ h2
    rw [← Nat.pow_add, show K - (last + 149).toNat + (last - -149).toNat = K by omega] at h6
    exact h6
theorem Le.add {k x y : Nat} (hx : Le k x) (hy : Le k y) (hk : k ≤ 260) : floatBits .add .f32 x y = some (sumv x y) ∧ Le (k + 1) (sumv x y) := by
  refine ⟨(Mag.add hx.mag hy.mag (by omega)).1, ?_⟩
  obtain ⟨s, u, ⟨m, i, a1, a2, a3⟩, hu⟩ := hx
  obtain ⟨t, v, ⟨n, j, b1, b2, b3⟩, hv⟩ := hy
  rw [place32] at a2 a3 b2 b3
  have e : floatBits .add .f32 x y = some (single.write (Datum.number (if signed s m (i - min i j).toNat + signed t n (j - min i j).toNat = 0 then s && t else decide (signed s m (i - min i j).toNat + signed t n (j - min i j).toNat < 0)) (signed s m (i - min i j).toNat + signed t n (j - min i j).toNat).natAbs (min i j))) := by
    show single.add x y = _
    unfold Format.add
    rw [a1, b1]
    rfl
  unfold sumv
  rw [e]
  show Le (k + 1) (single.nearest _ _ _)
  refine nearest_le _ _ _ (k + 1) (by omega) (by omega) ?_
  rw [signed_sg, signed_sg]
  have hle : (sg s (m * 2 ^ (i - min i j).toNat) + sg t (n * 2 ^ (j - min i j).toNat)).natAbs ≤ m * 2 ^ (i - min i j).toNat + n * 2 ^ (j - min i j).toNat := by
    have := Int.natAbs_add_le (sg s (m * 2 ^ (i - min i j).toNat)) (sg t (n * 2 ^ (j - min i j).toNat))
    rw [natAbs_sg, natAbs_sg] at this
    exact this
  refine Nat.le_trans (Nat.mul_le_mul_right _ hle) ?_
  rw [Nat.add_mul, Nat.mul_assoc, Nat.mul_assoc, ← Nat.pow_add, ← Nat.pow_add, Nat.pow_succ]
  rw [show (i - min i j).toNat + (min i j + 149).toNat = (i - -149).toNat by omega, show (j - min i j).toNat + (min i j + 149).toNat = (j - -149).toNat by omega, ← a3, ← b3]
  omega
end Go.Proofs.YtobpnoiienpipaaGreat.Flt

/-
  What is proved: the walk of MeanRow.
  Conditions: both rows can be read.
-/
namespace Go.Proofs.YtobpnoiienpipaaGreat
set_option linter.unusedVariables false
open Go.RowKit
attribute [local go_sem] run_store_float run_store_complex unary_negf neg256

def meanOk (a b : List C3) : Bool := rok a && (rok b && decide (a.length = b.length))
def MeanPost (a b : List C3) (w : World) (e : Ending) (w' : World) : Prop := ∃ v', e = .returned (.tuple #[v', .bool (meanOk a b)]) ∧ (meanOk a b = true → RowV w' v' (List.zipWith mid a b)) ∧ Below w.heap.size w w'
theorem MeanPost.no {a b : List C3} {w w' : World} {v' : Value} (h : meanOk a b = false) (hb : Below w.heap.size w w') : MeanPost a b w (.returned (.tuple #[v', .bool false])) w' := ⟨v', by rw [h], (fun e => by rw [h] at e; cases e), hb⟩
theorem MeanPost.yes {a b : List C3} {w w' : World} {v' : Value} (h : meanOk a b = true) (hr : RowV w' v' (List.zipWith mid a b)) (hb : Below w.heap.size w w') : MeanPost a b w (.returned (.tuple #[v', .bool true])) w' := ⟨v', by rw [h], fun _ => hr, hb⟩
theorem RowV.len {w : World} {v : Value} {cs : List C3} (h : RowV w v cs) (hne : cs ≠ []) : ∃ g o cap, v = .slice (some ⟨g, o, none⟩) cs.length cap ∧ cs.length ≤ cap ∧
    ∀ i (h : i < cs.length), w.cell? ⟨g, o + i * 2, none⟩ = some (.float .f32 cs[i].1) ∧ w.cell? ⟨g, o + i * 2 + 1, none⟩ = some (.complex .f32 cs[i].2.1 cs[i].2.2) := by
  rcases h with ⟨_, h⟩ | h
  · exact absurd h hne
  · exact h
theorem RowV.lenv {w : World} {v : Value} {cs : List C3} (h : RowV w v cs) : ∃ a cap, v = .slice a cs.length cap := by
  rcases h with ⟨h, h2⟩ | ⟨g, o, cap, h, _⟩
  · subst h2; exact ⟨none, 0, h⟩
  · exact ⟨_, _, h⟩

/-- What holds all through a round. -/
def Mid (w : World) (B n k : Nat) (zs : List C3) (W : World) : Prop := Below w.heap.size w W ∧ B < W.heap.size ∧ Made W B n k zs
theorem Mid.drew {w W : World} {B n k : Nat} {zs : List C3} (h : Mid w B n k zs W) : Mid w B n k zs W.drew := ⟨h.1.drew, h.2.1, h.2.2⟩
theorem Mid.next {w W W' : World} {B n k : Nat} {zs : List C3} (h : Mid w B n k zs W) (hb : Below W.heap.size W W') : Mid w B n k zs W' :=
  ⟨below_trans h.1 hb h.1.size, Nat.lt_of_lt_of_le h.2.1 hb.size, h.2.2.kept (hb.block _ h.2.1)⟩
theorem Mid.load {w W : World} {B n k : Nat} {zs : List C3} (h : Mid w B n k zs W) {p : Addr} {v : Value} (hc : w.cell? p = some v) : W.cell? p = some v := (grown_of h.1).cell hc (by simp)
theorem Mid.put {w W : World} {B n k : Nat} {zs : List C3} (h : Mid w B n k zs W) (hwB : w.heap.size ≤ B) (hn : k < zs.length) (hk : zs.length ≤ n) :
    Mid w B n (k + 1) zs ((W.setCell ⟨B, k * 2, none⟩ (.float .f32 zs[k].1)).setCell ⟨B, k * 2 + 1, none⟩ (.complex .f32 zs[k].2.1 zs[k].2.2)) :=
  ⟨(h.1.setCell (p := ⟨B, k * 2, none⟩) hwB _).setCell (p := ⟨B, k * 2 + 1, none⟩) hwB _, by simpa [World.setCell] using h.2.1, h.2.2.step hn hk⟩
end Go.Proofs.YtobpnoiienpipaaGreat

/-
  What is proved: how far the program says that colours are turned from one row to another.
  Conditions: those that each fact names.
-/
namespace Go.Proofs.YtobpnoiienpipaaGreat
set_option linter.unusedVariables false
open Go.RowKit
attribute [local go_sem] run_store_float run_store_complex unary_negf neg256

def tterm (c d : C3) : Nat := Flt.subv (Flt.mulv c.2.1 d.2.2) (Flt.mulv c.2.2 d.2.1)
def tsum (ps qs : List C3) : Nat → Nat
  | 0 => 0
  | k + 1 => Flt.sumv (tsum ps qs k) (tterm (ps.getD k (0, 0, 0)) (qs.getD k (0, 0, 0)))
def turnV (ps qs : List C3) : Nat := if meanOk ps qs = true then tsum ps qs ps.length else 0
def TurnPost (ps qs : List C3) (w : World) (e : Ending) (w' : World) : Prop := e = .returned (.tuple #[.float .f32 (turnV ps qs), .bool (meanOk ps qs)]) ∧ Below w.heap.size w w'
theorem TurnPost.no {ps qs : List C3} {w w' : World} (h : meanOk ps qs = false) (hb : Below w.heap.size w w') : TurnPost ps qs w (.returned (.tuple #[.float .f32 0, .bool false])) w' := by
  refine ⟨?_, hb⟩
  unfold turnV
  rw [if_neg (by rw [h]; decide), h]
theorem TurnPost.yes {ps qs : List C3} {w w' : World} (h : meanOk ps qs = true) (hb : Below w.heap.size w w') : TurnPost ps qs w (.returned (.tuple #[.float .f32 (tsum ps qs ps.length), .bool true])) w' := by
  refine ⟨?_, hb⟩
  unfold turnV
  rw [if_pos h, h]
end Go.Proofs.YtobpnoiienpipaaGreat
