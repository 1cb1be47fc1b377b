/-
  What is proved: a line of a plain row that came through a plain channel whose G is its A is brought to level as it was.
  Conditions: those that each fact names.
-/
import Derived.Test.YtgecclccmmcdoaaLevelQ
import Derived.Test.YtgecclccmmcdoaaPlainOk
namespace Go.Proofs.Ytgecclccmmcdoaa
set_option linter.unusedVariables false
open Go.RowKit
open Flt (Q Mag sumv subv mulv quov)

def pcell : C3 := (3263168512, 0, 0)
theorem pcell_pc : PC pcell (-1024) 0 0 := ⟨q_cn64.lift 4 (by decide), Flt.Sx.zero, Flt.Sx.zero, by decide, by decide, by decide⟩
theorem bcell_pc : PC bcell 0 (-256) 256 := ⟨Flt.Sx.zero, q_n16.lift 4 (by decide), q_16.lift 4 (by decide), by decide, by decide, by decide⟩
def bim3 (odd : Bool) : I3 := (0, -256, if odd = true then -256 else 256)
theorem bcells_q (odd : Bool) : CellsQ (oddRow (bcells 4) odd) [bim3 odd, bim3 odd, bim3 odd, bim3 odd] := by
  cases odd with
  | false => exact ⟨bcell_pc, bcell_pc, bcell_pc, bcell_pc, trivial⟩
  | true => exact ⟨bcell_pc.cj, bcell_pc.cj, bcell_pc.cj, bcell_pc.cj, trivial⟩
theorem pulse_enc : enc [pcell, pcell] = List.replicate 8 3263168512 := by decide +kernel
theorem lineL_enc (cs : List C3) (odd : Bool) : lineL cs odd = enc (([pcell, pcell] ++ oddRow (bcells 4) odd) ++ oddRow cs odd) := by
  rw [enc_append, enc_append, pulse_enc]; rfl
theorem plain_odd {cs : List C3} (h : PlainR cs) (odd : Bool) : PlainR (oddRow cs odd) := by
  cases odd with
  | false => exact h
  | true => exact h.cj
/-- What the samples of a line are, in sixteenths. -/
theorem line_ints {cs : List C3} (hp : PlainR cs) (odd : Bool) : ∃ js : List Int, QL 145 (lineL cs odd) (([bim3 odd, bim3 odd, bim3 odd, bim3 odd].flatMap encI |> fun b => List.replicate 8 (-1024) ++ b) ++ js) ∧ (∀ k ∈ (([bim3 odd, bim3 odd, bim3 odd, bim3 odd].flatMap encI |> fun b => List.replicate 8 (-1024) ++ b) ++ js), k.natAbs ≤ 1536) ∧
    ∀ (h : Chn) (α ω : Int), PlainH h α ω α 0 → QL 143 (txs h (lineL cs odd)) ((([bim3 odd, bim3 odd, bim3 odd, bim3 odd].flatMap encI |> fun b => List.replicate 8 (-1024) ++ b) ++ js).map fun s => α * s + 8 * ω) := by
  obtain ⟨ks, hk⟩ := cellsQ_of (plain_odd hp odd)
  have hall : CellsQ (([pcell, pcell] ++ oddRow (bcells 4) odd) ++ oddRow cs odd) (([(-1024, 0, 0), (-1024, 0, 0)] ++ [bim3 odd, bim3 odd, bim3 odd, bim3 odd]) ++ ks) :=
    CellsQ.append (CellsQ.append ⟨pcell_pc, pcell_pc, trivial⟩ (bcells_q odd)) hk
  have e : ((([(-1024, 0, 0), (-1024, 0, 0)] : List I3) ++ [bim3 odd, bim3 odd, bim3 odd, bim3 odd]) ++ ks).flatMap encI = ([bim3 odd, bim3 odd, bim3 odd, bim3 odd].flatMap encI |> fun b => List.replicate 8 (-1024) ++ b) ++ ks.flatMap encI := by
    rw [List.flatMap_append, List.flatMap_append]; rfl
  refine ⟨ks.flatMap encI, ?_, ?_, fun h α ω hh => ?_⟩
  · rw [lineL_enc, ← e]; exact hall.samples.1
  · rw [← e]; exact hall.samples.2
  · rw [lineL_enc, ← e]; exact hall.tx hh
theorem gap_bits {g : Nat} {A : Nat} {α : Int} (hg : GainOf A α) (hq : Q 143 g (1024 * α)) : ∃ κ, Q 148 (quov 1115684864 g) κ ∧ α * κ = 8 ∧ κ.natAbs ≤ 8 := by
  have c16 : Q 143 1098907648 1024 := q_16.lift 6 (by decide)
  have c32 : Q 143 1107296256 2048 := (Flt.q_word (e := 149) (a := 32) (by decide) (show Ieee.single.read 1107296256 = .number false 8388608 (-18) by decide +kernel) (by decide +kernel)).lift 6 (by decide)
  have c64 : Q 143 1115684864 4096 := q_c64.lift 6 (by decide)
  have c128 : Q 143 1124073472 8192 := (Flt.q_word (e := 149) (a := 128) (by decide) (show Ieee.single.read 1124073472 = .number false 8388608 (-16) by decide +kernel) (by decide +kernel)).lift 6 (by decide)
  have d4 : Q 148 1082130432 8 := (Flt.q_word (e := 149) (a := 4) (by decide) (show Ieee.single.read 1082130432 = .number false 8388608 (-21) by decide +kernel) (by decide +kernel)).lift 1 (by decide)
  have d2 : Q 148 1073741824 4 := (Flt.q_word (e := 149) (a := 2) (by decide) (show Ieee.single.read 1073741824 = .number false 8388608 (-22) by decide +kernel) (by decide +kernel)).lift 1 (by decide)
  have d1 : Q 148 1065353216 2 := q_one.lift 1 (by decide)
  have d0 : Q 148 1056964608 1 := Flt.q_word (by decide) (show Ieee.single.read 1056964608 = .number false 8388608 (-24) by decide +kernel) (by decide +kernel)
  rcases hg with ⟨_, rfl⟩ | ⟨_, rfl⟩ | ⟨_, rfl⟩ | ⟨_, rfl⟩
  · have := hq.unique c16 (by decide); subst this
    exact ⟨8, by rwa [show quov 1115684864 1098907648 = 1082130432 by decide +kernel], by decide, by decide⟩
  · have := hq.unique c32 (by decide); subst this
    exact ⟨4, by rwa [show quov 1115684864 1107296256 = 1073741824 by decide +kernel], by decide, by decide⟩
  · have := hq.unique c64 (by decide); subst this
    exact ⟨2, by rwa [show quov 1115684864 1115684864 = 1065353216 by decide +kernel], by decide, by decide⟩
  · have := hq.unique c128 (by decide); subst this
    exact ⟨1, by rwa [show quov 1115684864 1124073472 = 1056964608 by decide +kernel], by decide, by decide⟩
theorem ql_fin1 {e B : Nat} : ∀ {xs : List Nat} {ks : List Int}, QL e xs ks → (∀ k ∈ ks, k.natAbs ≤ B) → B * 2 ^ e ≤ 2 ^ 159 → ∀ x ∈ xs, fin1 x = true
  | x :: xs, k :: ks, h, hB, he, y, hy => by
    rcases List.mem_cons.1 hy with rfl | hy
    · exact q_fin1 h.1 (Nat.le_trans (Nat.mul_le_mul_right _ (hB k (by simp))) he)
    · exact ql_fin1 h.2 (fun l hl => hB l (by simp [hl])) he y hy
  | [], [], _, _, _, _, hy => by cases hy
  | [], _ :: _, h, _, _, _, _ => h.elim
  | _ :: _, [], h, _, _, _, _ => h.elim
theorem lineOk_mk {xs : List Nat} (h : xs.length % 4 = 0 ∧ 28 ≤ xs.length ∧ xs.length ≤ 280) (hf : ∀ x ∈ xs, fin1 x = true) : lineOk xs = true := by
  unfold lineOk; rw [lineLen_yes h, List.all_eq_true.2 hf]; rfl
theorem level_back {cs : List C3} (hp : PlainR cs) (h1 : 1 ≤ cs.length) (h2 : cs.length ≤ 64) (odd : Bool) {h : Chn} {α ω : Int} (hh : PlainH h α ω α 0) (hg : GainOf h.A α) :
    sampOk (lineL cs odd) = true ∧ sampOk (txs h (lineL cs odd)) = true ∧ levOk (txs h (lineL cs odd)) = true ∧ EqL (levs (txs h (lineL cs odd))) (lineL cs odd) := by
  obtain ⟨js, q1, q2, q3⟩ := line_ints hp odd
  replace q3 := q3 h α ω hh
  have hlen := lineL_len cs odd
  obtain ⟨ha1, ha2⟩ := hh.2.1
  have hw := hh.2.2.1
  have hl3 := q3.len
  have hl1 := q1.len
  generalize hx : txs h (lineL cs odd) = xs at *
  generalize lineL cs odd = line at *
  have hxl : xs.length = line.length := by rw [hl3, hl1, List.length_map]
  have hB : ∀ k ∈ ((([bim3 odd, bim3 odd, bim3 odd, bim3 odd].flatMap encI |> fun b => List.replicate 8 (-1024) ++ b) ++ js).map fun s => α * s + 8 * ω), k.natAbs ≤ 12544 := by
    intro k hk
    obtain ⟨s, hs, rfl⟩ := List.mem_map.1 hk
    have b1 := q2 s hs
    have b2 := mul_le (a := α) (b := s) (m := 8) (n := 1536) (by omega) b1
    omega
  have hf1 := ql_fin1 q1 q2 (by decide)
  have hfx := ql_fin1 q3 hB (by decide)
  have hlo : lineOk xs = true := lineOk_mk (by rw [hxl]; omega) hfx
  have htip : Q 143 (tipOf xs) (α * (-1024) + 8 * ω) := by
    have p1 : QL 143 (part xs 0 8) _ := (q3.drop 0).take 8
    have p2 := q_sumF (B := 12544) p1 (by rw [part_len xs 0 8 (by omega)]; decide) (fun k hk => hB k (List.mem_of_mem_drop (List.mem_of_mem_take hk))) (by rw [List.length_take]; omega) (by decide)
    have p3 : ksum ((((([bim3 odd, bim3 odd, bim3 odd, bim3 odd].flatMap encI |> fun b => List.replicate 8 (-1024) ++ b) ++ js).map fun s => α * s + 8 * ω).drop 0).take 8) = (α * (-1024) + 8 * ω) * 2 ^ 3 := by
      show ksum [α * (-1024) + 8 * ω, α * (-1024) + 8 * ω, α * (-1024) + 8 * ω, α * (-1024) + 8 * ω, α * (-1024) + 8 * ω, α * (-1024) + 8 * ω, α * (-1024) + 8 * ω, α * (-1024) + 8 * ω] = _
      simp only [ksum]; omega
    rw [p3] at p2
    exact q_drop (q_quov (f := 140) read_8 p2 (by omega) (by decide) (by decide))
  have hblk : Q 143 (blackOf xs) (8 * ω) := by
    have p1 : QL 143 (part xs 8 16) _ := (q3.drop 8).take 16
    have p2 := q_sumF (B := 12544) p1 (by rw [part_len xs 8 16 (by omega)]; decide) (fun k hk => hB k (List.mem_of_mem_drop (List.mem_of_mem_take hk))) (by rw [List.length_take]; omega) (by decide)
    have p3 : ksum ((((([bim3 odd, bim3 odd, bim3 odd, bim3 odd].flatMap encI |> fun b => List.replicate 8 (-1024) ++ b) ++ js).map fun s => α * s + 8 * ω).drop 8).take 16) = (8 * ω) * 2 ^ 4 := by
      cases odd with
      | false =>
        show ksum [α * (0 + -256) + 8 * ω, α * (0 - 256) + 8 * ω, α * (0 - -256) + 8 * ω, α * (0 + 256) + 8 * ω, α * (0 + -256) + 8 * ω, α * (0 - 256) + 8 * ω, α * (0 - -256) + 8 * ω, α * (0 + 256) + 8 * ω, α * (0 + -256) + 8 * ω, α * (0 - 256) + 8 * ω, α * (0 - -256) + 8 * ω, α * (0 + 256) + 8 * ω, α * (0 + -256) + 8 * ω, α * (0 - 256) + 8 * ω, α * (0 - -256) + 8 * ω, α * (0 + 256) + 8 * ω] = _
        simp only [ksum]; omega
      | true =>
        show ksum [α * (0 + -256) + 8 * ω, α * (0 - -256) + 8 * ω, α * (0 - -256) + 8 * ω, α * (0 + -256) + 8 * ω, α * (0 + -256) + 8 * ω, α * (0 - -256) + 8 * ω, α * (0 - -256) + 8 * ω, α * (0 + -256) + 8 * ω, α * (0 + -256) + 8 * ω, α * (0 - -256) + 8 * ω, α * (0 - -256) + 8 * ω, α * (0 + -256) + 8 * ω, α * (0 + -256) + 8 * ω, α * (0 - -256) + 8 * ω, α * (0 - -256) + 8 * ω, α * (0 + -256) + 8 * ω] = _
        simp only [ksum]; omega
    rw [p3] at p2
    exact q_drop (q_quov (f := 139) read_16 p2 (by omega) (by decide) (by decide))
  have hleb : leb (blackOf xs) (tipOf xs) = false := by
    unfold leb
    rw [hblk.order htip, show compare (8 * ω) (α * (-1024) + 8 * ω) = .gt from Flt.cmp_gt (by omega)]
    rfl
  have hlv : lvOk xs = true := by unfold lvOk; rw [hlo, hleb]; rfl
  have hgap : Q 143 (gapOf xs) (1024 * α) := by
    have := q_subv hblk htip (by omega) (by decide)
    rwa [show 8 * ω - (α * (-1024) + 8 * ω) = 1024 * α by omega] at this
  obtain ⟨κ, hκ, hακ, hκb⟩ := gap_bits hg hgap
  have hone : ∀ x ∈ xs, ∀ k ∈ ((([bim3 odd, bim3 odd, bim3 odd, bim3 odd].flatMap encI |> fun b => List.replicate 8 (-1024) ++ b) ++ js).map fun s => α * s + 8 * ω), Q 143 x k → (floatBits .mul .f32 (diffOf xs x) (liftOf xs)).isSome = true ∧ ∃ s, k = α * s + 8 * ω ∧ Q 145 (mulv (diffOf xs x) (liftOf xs)) s := by
    intro x hx k hk hq
    obtain ⟨s, hs, rfl⟩ := List.mem_map.1 hk
    have b1 := q2 s hs
    have b2 := mul_le (a := α) (b := s) (m := 8) (n := 1536) (by omega) b1
    have d1 : Q 143 (diffOf xs x) (α * s) := by
      have := q_subv hq hblk (by omega) (by decide)
      rwa [show α * s + 8 * ω - 8 * ω = α * s by omega] at this
    have e1 : α * s * κ = s * 2 ^ 3 := by rw [Int.mul_comm α s, Int.mul_assoc, hακ]; rfl
    obtain ⟨r, hr, _⟩ := Q.mul d1 hκ (by rw [e1]; omega) (by decide) (by decide)
    have d2 := q_mulv d1 hκ (by rw [e1]; omega) (by decide) (by decide)
    rw [e1] at d2
    exact ⟨by rw [show floatBits .mul .f32 (diffOf xs x) (liftOf xs) = some r from hr]; rfl, s, rfl, q_drop d2⟩
  have hαi : ∀ s t : Int, α * s + 8 * ω = α * t + 8 * ω → s = t := fun s t hst => Int.eq_of_mul_eq_mul_left (show α ≠ 0 by omega) (by omega)
  have hys : QL 145 (levs xs) (([bim3 odd, bim3 odd, bim3 odd, bim3 odd].flatMap encI |> fun b => List.replicate 8 (-1024) ++ b) ++ js) := by
    have key : ∀ (L : List Int) (ys : List Nat), (∀ x ∈ ys, x ∈ xs) → (∀ k ∈ L, k ∈ (([bim3 odd, bim3 odd, bim3 odd, bim3 odd].flatMap encI |> fun b => List.replicate 8 (-1024) ++ b) ++ js)) → QL 143 ys (L.map fun s => α * s + 8 * ω) → QL 145 (ys.map fun x => mulv (diffOf xs x) (liftOf xs)) L := by
      intro L
      induction L with
      | nil =>
        intro ys _ _ hq
        cases ys with
        | nil => trivial
        | cons _ _ => exact hq.elim
      | cons s L ih =>
        intro ys hy hL hq
        cases ys with
        | nil => exact hq.elim
        | cons y ys =>
          obtain ⟨_, t, ht, hqt⟩ := hone y (hy y (by simp)) (α * s + 8 * ω) (List.mem_map.2 ⟨s, hL s (by simp), rfl⟩) hq.1
          have := hαi s t ht
          subst this
          exact ⟨hqt, ih ys (fun x hx => hy x (by simp [hx])) (fun k hk => hL k (by simp [hk])) hq.2⟩
    exact key _ xs (fun x hx => hx) (fun k hk => hk) q3
  have hsome : (xs.all fun x => (floatBits .mul .f32 (diffOf xs x) (liftOf xs)).isSome) = true := by
    rw [List.all_eq_true]
    intro x hx
    obtain ⟨i, hi, rfl⟩ := List.mem_iff_getElem.1 hx
    have hi' : i < ((([bim3 odd, bim3 odd, bim3 odd, bim3 odd].flatMap encI |> fun b => List.replicate 8 (-1024) ++ b) ++ js).map fun s => α * s + 8 * ω).length := by rw [← q3.len]; exact hi
    exact (hone _ (List.getElem_mem hi) _ (List.getElem_mem hi') (q3.get i hi hi')).1
  have hfy := ql_fin1 hys q2 (by decide)
  have hly : lineOk (levs xs) = true := lineOk_mk (by rw [levs_len, hxl]; omega) hfy
  refine ⟨sampOk_mk (by omega) hf1, sampOk_mk (by omega) hfx, by unfold levOk; rw [hlv, hsome, hly]; rfl, by rw [levs_len, hxl], fun i hi hi' => ?_⟩
  have hi2 : i < (([bim3 odd, bim3 odd, bim3 odd, bim3 odd].flatMap encI |> fun b => List.replicate 8 (-1024) ++ b) ++ js).length := by rw [← hys.len]; exact hi
  exact (hys.get i hi hi2).eq (q1.get i hi' hi2)
end Go.Proofs.Ytgecclccmmcdoaa
