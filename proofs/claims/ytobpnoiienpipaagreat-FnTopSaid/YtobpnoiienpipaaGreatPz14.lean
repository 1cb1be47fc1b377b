/-
  What is proved: sums of squares of singles: they are not negative, are 0 only if both squares are, and do not depend on signs or on order.
  Conditions: none of the numbers is NaN.
-/
import Derived.Test.YtobpnoiienpipaaGreatPz13
import Derived.Test.YtobpnoiienpipaaGreatPz05
import Derived.Test.YtobpnoiienpipaaGreatPz03
import Derived.Test.YtobpnoiienpipaaGreatPz08
import Derived.OwnWalk
import Derived.Test.YtobpnoiienpipaaGreatPz06
namespace Go.Proofs.YtobpnoiienpipaaGreat
set_option linter.unusedVariables false
open Ieee
open Flt (Mag sumv subv mulv quov Q)

/-- Not negative, and no NaN. -/
def NN (x : Nat) : Prop := (∃ m e, single.read x = .number false m e) ∨ single.read x = .infinity false
def Nul (x : Nat) : Prop := ∃ s e, single.read x = .number s 0 e
theorem NN.ok {x : Nat} (h : NN x) : isN x = false := by
  unfold isN
  rcases h with ⟨m, e, h⟩ | h <;> rw [h] <;> rfl
theorem nn_word (r : Nat) (h : r ≤ single.infRung) : NN (single.word false r) := by
  have h2 : r < single.signWeight := Nat.lt_of_le_of_lt h single.infRung_lt
  have hr := Flt.read_word single false r h2
  by_cases h1 : r < single.binade
  · rw [if_pos h1] at hr; exact .inl ⟨_, _, hr⟩
  · rw [if_neg h1] at hr
    by_cases h3 : r < single.infRung
    · rw [if_pos h3] at hr; exact .inl ⟨_, _, hr⟩
    · rw [if_neg h3, if_pos (by omega)] at hr; exact .inr hr
theorem word_nul {s : Bool} {r : Nat} (h : r ≤ single.infRung) : Nul (single.word s r) ↔ r = 0 := by
  have h2 : r < single.signWeight := Nat.lt_of_le_of_lt h single.infRung_lt
  have hr := Flt.read_word single s r h2
  have hb : 0 < single.binade := Flt.two_pos _
  constructor
  · rintro ⟨t, e, h0⟩
    by_cases h1 : r < single.binade
    · rw [if_pos h1, h0] at hr; cases hr; rfl
    · rw [if_neg h1] at hr
      by_cases h3 : r < single.infRung
      · rw [if_pos h3, h0] at hr
        injection hr with _ h4 _
        omega
      · rw [if_neg h3, if_pos (by omega), h0] at hr; cases hr
  · rintro rfl
    rw [if_pos hb] at hr
    exact ⟨_, _, hr⟩
/-- Rounding takes no number of units to 0. -/
theorem nearest_nul (s : Bool) (mag : Nat) (place : Int) (hp : -149 ≤ place) : Nul (single.nearest s mag place) ↔ mag = 0 := by
  unfold Format.nearest
  by_cases h : mag = 0
  · rw [if_pos h]
    exact ⟨fun _ => h, fun _ => (word_nul (Nat.zero_le _)).2 rfl⟩
  · rw [if_neg h]
    refine ⟨fun h1 => ?_, fun h1 => absurd h1 h⟩
    exfalso
    have h2 := (word_nul (Nat.min_le_right _ _)).1 h1
    simp only [Flt.shl, Flt.place32, Flt.frac32] at h2
    obtain ⟨last, hl⟩ : ∃ last : Int, last = max (place + mag.log2 - ((23 : Nat) : Int)) (-149) := ⟨_, rfl⟩
    rw [← hl] at h2
    have hi : 0 < single.infRung := by rw [Flt.inf32]; decide
    have h4 : 1 ≤ Toward.even.cut s (mag * 2 ^ (place - last).toNat) (last - place).toNat := by
      apply Flt.le_cut
      have h5 : 2 ^ mag.log2 ≤ mag := Nat.log2_self_le h
      have h6 : (2 : Nat) ^ (last - place).toNat ≤ 2 ^ mag.log2 := Nat.pow_le_pow_right (by decide) (by omega)
      have h7 : mag * 1 ≤ mag * 2 ^ (place - last).toNat := Nat.mul_le_mul_left _ (Flt.two_pos _)
      omega
    omega
theorem nn_nearest (mag : Nat) (place : Int) : NN (single.nearest false mag place) := by
  unfold Format.nearest
  by_cases h : mag = 0
  · rw [if_pos h]; exact nn_word 0 (Nat.zero_le _)
  · rw [if_neg h]; exact nn_word _ (Nat.min_le_right _ _)
theorem place_ge {x m : Nat} {s : Bool} {e : Int} (h : single.read x = .number s m e) : -149 ≤ e := by
  obtain ⟨m', e', h', hle, _⟩ := Flt.read_num h
  rw [h] at h'
  cases h'
  rw [Flt.place32] at hle
  exact hle
theorem sq_nn {x : Nat} (h : isN x = false) : ∃ r, floatBits .mul .f32 x x = some r ∧ NN r := by
  have e : floatBits .mul .f32 x x = ((single.read x).product (single.read x)).map single.write := rfl
  unfold isN at h
  cases hx : single.read x with
  | nan s p => rw [hx] at h; cases h
  | infinity s =>
    refine ⟨single.word false single.infRung, ?_, nn_word _ (Nat.le_refl _)⟩
    rw [e, hx]
    show some (single.write (.infinity (s ^^ s))) = _
    rw [Bool.xor_self]; rfl
  | number s m i =>
    refine ⟨single.nearest false (m * m) (i + i), ?_, nn_nearest _ _⟩
    rw [e, hx]
    show some (single.nearest (s ^^ s) (m * m) (i + i)) = _
    rw [Bool.xor_self]
theorem sum_nn {x y : Nat} (hx : NN x) (hy : NN y) : ∃ r, floatBits .add .f32 x y = some r ∧ NN r ∧ (Nul r ↔ Nul x ∧ Nul y) := by
  have e : floatBits .add .f32 x y = ((single.read x).sum (single.read y)).map single.write := rfl
  have hni : ∀ z, single.read z = .infinity false → ¬ Nul z := by rintro z hz ⟨s, k, hk⟩; rw [hz] at hk; cases hk
  have hinf : NN (single.word false single.infRung) ∧ ¬ Nul (single.word false single.infRung) := by
    refine ⟨nn_word _ (Nat.le_refl _), fun h => ?_⟩
    have := (word_nul (Nat.le_refl _)).1 h
    rw [Flt.inf32] at this
    exact absurd this (by decide)
  rcases hx with ⟨m, i, hx⟩ | hx
  · rcases hy with ⟨n, j, hy⟩ | hy
    · have p1 := place_ge hx
      have p2 := place_ge hy
      have ez : ∀ (z a : Nat) (k : Int), single.read z = .number false a k → (Nul z ↔ a = 0) := by
        intro z a k hz
        constructor
        · rintro ⟨s, l, h⟩; rw [hz] at h; cases h; rfl
        · rintro rfl; exact ⟨_, _, hz⟩
      rw [ez x m i hx, ez y n j hy]
      have es : (single.read x).sum (single.read y) = some (.number (if signed false m (i - min i j).toNat + signed false n (j - min i j).toNat = 0 then false && false else decide (signed false m (i - min i j).toNat + signed false n (j - min i j).toNat < 0)) (signed false m (i - min i j).toNat + signed false n (j - min i j).toNat).natAbs (min i j)) := by rw [hx, hy]; rfl
      rw [Flt.signed_sg, Flt.signed_sg] at es
      have a1 : Flt.sg false (m * 2 ^ (i - min i j).toNat) = ((m * 2 ^ (i - min i j).toNat : Nat) : Int) := rfl
      have a2 : Flt.sg false (n * 2 ^ (j - min i j).toNat) = ((n * 2 ^ (j - min i j).toNat : Nat) : Int) := rfl
      rw [a1, a2] at es
      have hz : (m * 2 ^ (i - min i j).toNat + n * 2 ^ (j - min i j).toNat = 0) ↔ (m = 0 ∧ n = 0) := by
        have q1 := Flt.two_pos (i - min i j).toNat
        have q2 := Flt.two_pos (j - min i j).toNat
        constructor
        · intro h
          have h1 : m * 2 ^ (i - min i j).toNat = 0 := by omega
          have h2 : n * 2 ^ (j - min i j).toNat = 0 := by omega
          exact ⟨(Nat.mul_eq_zero.1 h1).resolve_right (by omega), (Nat.mul_eq_zero.1 h2).resolve_right (by omega)⟩
        · rintro ⟨rfl, rfl⟩; simp
      generalize m * 2 ^ (i - min i j).toNat = M at *
      generalize n * 2 ^ (j - min i j).toNat = N at *
      have hsign : (if (M : Int) + (N : Int) = 0 then false && false else decide ((M : Int) + (N : Int) < 0)) = false := by
        split
        · rfl
        · exact decide_eq_false (by omega)
      rw [hsign, show ((M : Int) + (N : Int)).natAbs = M + N by omega] at es
      refine ⟨single.nearest false (M + N) (min i j), by rw [e, es]; rfl, nn_nearest _ _, ?_⟩
      rw [nearest_nul false _ _ (by omega), hz]
    · refine ⟨_, by rw [e, hx, hy]; rfl, hinf.1, ⟨fun h => absurd h hinf.2, fun h => absurd h.2 (hni y hy)⟩⟩
  · rcases hy with ⟨n, j, hy⟩ | hy
    · refine ⟨_, by rw [e, hx, hy]; rfl, hinf.1, ⟨fun h => absurd h hinf.2, fun h => absurd h.1 (hni x hx)⟩⟩
    · refine ⟨_, by rw [e, hx, hy]; rfl, hinf.1, ⟨fun h => absurd h hinf.2, fun h => absurd h.1 (hni x hx)⟩⟩
/-- What the power of x + yi may be. -/
def PowR (x y p : Nat) : Prop := ∃ m n, Res .mul x x m ∧ Res .mul y y n ∧ Res .add m n p
theorem PowR.nan {x y p : Nat} (h : PowR x y p) (hn : isN x = true ∨ isN y = true) : isN p = true := by
  obtain ⟨m, n, h1, h2, h3⟩ := h
  rcases hn with hn | hn
  · exact Res.nan (.inl (Res.nan (.inl hn) h1)) h3
  · exact Res.nan (.inr (Res.nan (.inl hn) h2)) h3
theorem PowR.same {x y p p' : Nat} (h : PowR x y p) (h' : PowR x y p') : Sm p p' := by
  obtain ⟨m, n, h1, h2, h3⟩ := h
  obtain ⟨m', n', g1, g2, g3⟩ := h'
  exact Res.same (Res.same (Sm.refl _) (Sm.refl _) h1 g1) (Res.same (Sm.refl _) (Sm.refl _) h2 g2) h3 g3
theorem PowR.nn {x y p : Nat} (h : PowR x y p) (hx : isN x = false) (hy : isN y = false) : NN p ∧ ∃ m n, floatBits .mul .f32 x x = some m ∧ floatBits .mul .f32 y y = some n ∧ (Nul p ↔ Nul m ∧ Nul n) := by
  obtain ⟨m, n, h1, h2, h3⟩ := h
  obtain ⟨a, ea, na⟩ := sq_nn hx
  obtain ⟨b, eb, nb⟩ := sq_nn hy
  obtain rfl := res_some h1 ea
  obtain rfl := res_some h2 eb
  obtain ⟨r, er, nr, hz⟩ := sum_nn na nb
  obtain rfl := res_some h3 er
  exact ⟨nr, m, n, ea, eb, hz⟩
theorem read_neg {x : Nat} (h : x < 2 ^ 32) : single.read (Go.Op.negFloat .f32 x) = (single.read x).opposite := by
  obtain ⟨s, r, rfl, hr⟩ := Flt.word_parts32 x h
  rw [Flt.neg_word32 s r hr, Flt.read_word single _ r (by rw [Flt.sw32]; exact hr), Flt.read_word single s r (by rw [Flt.sw32]; exact hr)]
  split
  · rfl
  · split
    · rfl
    · split
      · rfl
      · rfl
theorem sq_neg {x : Nat} (h : x < 2 ^ 32) : floatBits .mul .f32 (Go.Op.negFloat .f32 x) (Go.Op.negFloat .f32 x) = floatBits .mul .f32 x x := by
  show ((single.read _).product (single.read _)).map single.write = ((single.read x).product (single.read x)).map single.write
  rw [read_neg h]
  cases single.read x with
  | nan s p => rfl
  | infinity s => cases s <;> rfl
  | number s m i => cases s <;> rfl
theorem PowR.neg {x y p p' : Nat} (hy : y < 2 ^ 32) (h : PowR x y p) (h' : PowR x (Go.Op.negFloat .f32 y) p') : Sm p p' := by
  refine h.same ?_
  obtain ⟨m, n, h1, h2, h3⟩ := h'
  refine ⟨m, n, h1, ?_, h3⟩
  unfold Res at h2 ⊢
  rwa [sq_neg hy] at h2
end Go.Proofs.YtobpnoiienpipaaGreat

/-
  What is proved: a plain channel that turns by quarters, and its undoing, are together no channel at all; a plain channel with no gain changes nothing.
  Conditions: none beyond plainness.
-/
namespace Go.Proofs.YtobpnoiienpipaaGreat
set_option linter.unusedVariables false
open Ieee
open Flt (Mag sumv subv mulv quov Q)

theorem q_one : Q 149 1065353216 1 := Flt.q_word (by decide) (show single.read 1065353216 = .number false 8388608 (-23) by decide +kernel) (by decide +kernel)
end Go.Proofs.YtobpnoiienpipaaGreat

/-
  What is proved: what the model draws as a channel of small dyadic numbers.
  Conditions: the cursor's block holds a cursor.
-/
namespace Go.Proofs.YtobpnoiienpipaaGreat
set_option linter.unusedVariables false
open Go.RowKit
open Flt (Q)
attribute [local go_sem] run_store_float run_store_complex unary_negf neg256

theorem Flt.Q.down {e j x : Nat} {a : Int} (h : Flt.Q e x (a * 2 ^ j)) : Flt.Q (e + j) x a := by
  obtain ⟨h0, s, u, hx, ha⟩ := h
  exact ⟨h0, s, u, hx, by rw [ha, Int.mul_assoc, Flt.pow_cast, Flt.pow_cast, Flt.pow_cast, ← Int.natCast_mul, ← Nat.pow_add, Nat.add_comm j e]⟩
theorem q_int {n : Int} (h : n.natAbs < 2 ^ 20) : Q 149 (floatOfInt .f32 n) n := by
  have h1 := (Flt.Sx.ofInt h).q
  have e : 16 * n = n * 2 ^ 4 := by omega
  rw [e] at h1
  exact h1.down
theorem quarter {n : Int} (h : n.natAbs < 2 ^ 20) : ∃ r, floatBits .quo .f32 (floatOfInt .f32 n) 1082130432 = some r ∧ Q 147 r n := by
  obtain ⟨r, h1, h2⟩ := (q_int h).quo (f := 147) (show Ieee.single.read 1082130432 = .number false 8388608 (-21) by decide +kernel) (by omega) (by decide) (by decide)
  exact ⟨r, h1, h2⟩
theorem eighth {n : Int} (h : n.natAbs < 2 ^ 20) : ∃ r, floatBits .quo .f32 (floatOfInt .f32 n) 1090519040 = some r ∧ Q 146 r n := by
  obtain ⟨r, h1, h2⟩ := (q_int h).quo (f := 146) (show Ieee.single.read 1090519040 = .number false 8388608 (-20) by decide +kernel) (by omega) (by decide) (by decide)
  exact ⟨r, h1, h2⟩
/-- The gains of brightness that are drawn. -/
def GainOf (A : Nat) (α : Int) : Prop := A = 1048576000 ∧ α = 1 ∨ A = 1056964608 ∧ α = 2 ∨ A = 1065353216 ∧ α = 4 ∨ A = 1073741824 ∧ α = 8
theorem GainOf.q {A : Nat} {α : Int} (h : GainOf A α) : Q 147 A α := by
  rcases h with ⟨rfl, rfl⟩ | ⟨rfl, rfl⟩ | ⟨rfl, rfl⟩ | ⟨rfl, rfl⟩
  · exact Flt.q_word (by decide) (show Ieee.single.read 1048576000 = .number false 8388608 (-25) by decide +kernel) (by decide +kernel)
  · exact Flt.q_word (by decide) (show Ieee.single.read 1056964608 = .number false 8388608 (-24) by decide +kernel) (by decide +kernel)
  · exact Flt.q_word (by decide) (show Ieee.single.read 1065353216 = .number false 8388608 (-23) by decide +kernel) (by decide +kernel)
  · exact Flt.q_word (by decide) (show Ieee.single.read 1073741824 = .number false 8388608 (-22) by decide +kernel) (by decide +kernel)
/-- A channel of small dyadic numbers. -/
def PlainC (h : Chn) : Prop := ∃ α ω ξ η, PlainH h α ω ξ η ∧ GainOf h.A α
theorem PlainC.mk {A O X Y : Nat} {α ω ξ η : Int} (hA : GainOf A α) (hO : Q 146 O ω) (hX : Q 147 X ξ) (hY : Q 147 Y η) (h1 : ω.natAbs ≤ 32) (h2 : ξ.natAbs ≤ 8) (h3 : η.natAbs ≤ 8) : PlainC ⟨A, O, X, Y⟩ := by
  refine ⟨α, ω, ξ, η, ⟨⟨hA.q, hO, hX, hY⟩, ?_, h1, h2, h3⟩, hA⟩
  rcases hA with ⟨_, rfl⟩ | ⟨_, rfl⟩ | ⟨_, rfl⟩ | ⟨_, rfl⟩ <;> decide
end Go.Proofs.YtobpnoiienpipaaGreat

/-
  What is proved: a list of single floats, perhaps an empty one, is appended to a list that a call owns; a list that is owned is written in place.
  Conditions: those that each fact names.
-/
namespace Go.Proofs.YtobpnoiienpipaaGreat
set_option linter.unusedVariables false
open Go.RowKit

/-- Nothing is appended. -/
theorem run_app_zero {P : Program} {w : World} {t ty e : TypeId} {i : TypeInfo} (hu : P.underlying t = some (.slice e)) (hi : P.info? e = some i) (a0 x : Option Addr) (l c cx : Nat) (hlc : l ≤ c) :
    (Builtin.append_ #[t, t] ty #[.slice a0 l c, .slice x 0 cx]).run P w = .ok (.slice a0 l c) w := by
  cases a0 <;> cases x <;> simp [Builtin.append_, run_underlying hu, sizeOf, typeInfo, hi, Builtin.lenOf, Builtin.firstCells, loadCells, loadCellsFrom, storeCells, hlc]
/-- Any list is appended. -/
theorem ownF_row {ops : Array Oper} {rest : List Oper} {o : Oper} {a : Act} {w : World} {Q : Exit → Act → World → Prop} (hgd : o.guard = none) (s x : Operand)
    (ho : o.op = .call { callee := .builtin .append, args := #[s, x], argTypes := #[31, 31] })
    (base g0 n cap0 : Nat) (xs ys : List Nat) (hs : a.eval s = .slice (some ⟨g0, 0, none⟩) n cap0) (hn : xs.length = n) (hown : OwnF w base (.slice (some ⟨g0, 0, none⟩) n cap0) xs)
    (vx : Value) (hx : a.eval x = vx) (hrow : FRow w vx ys) (m : Nat) (hm : ys.length = m) (hlen : n + m ≤ 1000000000) (hbase : base ≤ w.heap.size)
    (h : ∀ g cap w', OwnF w' base (.slice (some ⟨g, 0, none⟩) (n + m) cap) (xs ++ ys) → w.grownBy w' (some g0) → (g = g0 ∨ g = w.heap.size) → g < w'.heap.size → wpList Tryz.prog ops Q rest (a.put o.dst (.slice (some ⟨g, 0, none⟩) (n + m) cap)) w') :
    wpList Tryz.prog ops Q (o :: rest) a w := by
  subst hn hm
  by_cases h0 : ys.length = 0
  · obtain rfl : ys = [] := List.length_eq_zero_iff.1 h0
    obtain ⟨ax, cx, rfl⟩ := hrow.lenv
    obtain ⟨i0, hi, hz0, hz1, hz2⟩ := info_parts info_f32
    rcases hown.shape with ⟨hk, _⟩ | ⟨g, cap, hk, hb, hg, hc, _⟩
    · cases hk
    · cases hk
      refine wpList_plain hgd fun K hK' => ?_
      have hrun := run_app_zero (P := Tryz.prog) (w := w) (ty := o.type) Tryz.underlying31 hi (some ⟨g0, 0, none⟩) ax xs.length cap0 cx hc
      unfold Oper.wp
      simp [execOp, ho, resolve, invoke, builtin, hs, hx, hrun, Result.andThen]
      exact hK' _ _ (by simpa using h g0 cap0 w (by simpa using hown) (World.grownBy.refl _ _) (.inl rfl) hg)
  · rcases hrow with ⟨_, rfl⟩ | ⟨g', o', c', rfl, hc', hcell⟩
    · exact absurd rfl h0
    · refine ownF_append hgd s x ho base _ xs ys hs hown g' o' c' hx hcell (by omega) hlen hbase ?_
      intro g cap w' h1 h2 h3 h4
      exact h g cap w' h1 h2 (h3.elim (fun e => .inl (Option.some.inj e).symm) .inr) h4
/-- One number of an owned list is written. -/
theorem OwnF.put {w : World} {base g n cap i : Nat} {xs : List Nat} (h : OwnF w base (.slice (some ⟨g, 0, none⟩) n cap) xs) (hi : i < xs.length) (z : Nat) : OwnF (w.setCell ⟨g, i, none⟩ (.float .f32 z)) base (.slice (some ⟨g, 0, none⟩) n cap) (xs.set i z) := by
  obtain ⟨hl, hk⟩ := h
  rcases hk with ⟨h1, _⟩ | ⟨g', cap', cur, h1, hb, hg, hc, hm, hs, ht⟩
  · cases h1
  · injection h1 with e1 e2 e3
    injection e1 with e1
    injection e1 with e1
    subst e1 e2 e3
    refine ⟨by simp, .inr ⟨g, cap, cur.setIfInBounds i (.float .f32 z), by rw [List.length_set], hb, heapF hg, by rw [List.length_set]; exact hc, hm, by simpa using hs, ?_⟩⟩
    rw [List.length_set, Array.toList_setIfInBounds, List.take_set, ht, List.map_set]
theorem OwnF.read {w : World} {base g n cap i : Nat} {xs : List Nat} (h : OwnF w base (.slice (some ⟨g, 0, none⟩) n cap) xs) (hi : i < xs.length) : w.cell? ⟨g, i, none⟩ = some (.float .f32 xs[i]) ∧ w.frozen? ⟨g, i, none⟩ = false := by
  have h1 := h.new
  rcases h1 with ⟨h2, _⟩ | ⟨g', cap', h2, hb, hc, hm⟩
  · cases h2
  · injection h2 with e1 e2 e3
    injection e1 with e1
    injection e1 with e1
    subst e1
    exact ⟨hm.get i hi hi, (hm.at i hi).2⟩
end Go.Proofs.YtobpnoiienpipaaGreat

/-
  What is proved: the laws' comparing of single floats that are alike answers true, NaN among them.
  Conditions: those that each fact names.
-/
namespace Go.Proofs.YtobpnoiienpipaaGreat
set_option linter.unusedVariables false
open Go.RowKit
attribute [local go_sem] run_store_float run_store_complex unary_negf neg256

/-- The lists are as long as each other, and the same place for place. -/
def SmL (xs ys : List Nat) : Prop := xs.length = ys.length ∧ ∀ i (h : i < xs.length) (h' : i < ys.length), Sm xs[i] ys[i]
theorem SmL.refl (xs : List Nat) : SmL xs xs := ⟨rfl, fun i h h' => Sm.refl _⟩
end Go.Proofs.YtobpnoiienpipaaGreat

/-
  What is proved: the walk of the law FnDelayed.
  Conditions: none beyond the argument's own.
-/
namespace Go.Proofs.YtobpnoiienpipaaGreat
set_option linter.unusedVariables false
open Go.RowKit
attribute [local go_sem] run_store_float run_store_complex unary_negf neg256

def DrawDl (w : World) (e : Ending) (w' : World) : Prop := ∃ v xs n, xs.length ≤ 5000 ∧ I64 n ∧ e = .returned (.tuple #[v, .int .i64 n]) ∧ FRow w' v xs ∧ Below w.heap.size w w'
theorem DrawDl.mk {w w' : World} {v : Value} {xs : List Nat} {n : Int} (hl : xs.length ≤ 5000) (hn : I64 n) (hr : FRow w' v xs) (hb : Below w.heap.size w w') : DrawDl w (.returned (.tuple #[v, .int .i64 n])) w' := ⟨v, xs, n, hl, hn, rfl, hr, hb⟩
end Go.Proofs.YtobpnoiienpipaaGreat

/-
  What is proved: what the model draws for chapter 5: channels, complex numbers, echoes.
  Conditions: the cursor's block holds a cursor; the bytes can be read.
-/
namespace Go.Proofs.YtobpnoiienpipaaGreat
set_option linter.unusedVariables false
open Go.RowKit
open Flt (Q)
attribute [local go_sem] run_store_float run_store_complex unary_negf neg256

theorem PlainC.fit {h : Chn} (hp : PlainC h) : h.X < 2 ^ 32 ∧ h.Y < 2 ^ 32 := by
  obtain ⟨α, ω, ξ, η, ⟨⟨_, _, h1, h2⟩, _⟩, _⟩ := hp
  exact ⟨h1.1, h2.1⟩
/-- A channel lies in a block. -/
def HoldC (w : World) (x A O X Y : Nat) : Prop := (X < 2 ^ 32 ∧ Y < 2 ^ 32) ∧ w.heap[x]? = some (.cells #[.float .f32 A, .float .f32 O, .complex .f32 X Y] 28 (0, 0))
theorem HoldC.c0 {w : World} {x A O X Y : Nat} (h : HoldC w x A O X Y) : w.cell? ⟨x, 0, none⟩ = some (.float .f32 A) := by simp [World.cell?, h.2]
theorem HoldC.c1 {w : World} {x A O X Y : Nat} (h : HoldC w x A O X Y) : w.cell? ⟨x, 1, none⟩ = some (.float .f32 O) := by simp [World.cell?, h.2]
theorem HoldC.c2 {w : World} {x A O X Y : Nat} (h : HoldC w x A O X Y) : w.cell? ⟨x, 2, none⟩ = some (.complex .f32 X Y) := by simp [World.cell?, h.2]
theorem HoldC.f0 {w : World} {x A O X Y : Nat} (h : HoldC w x A O X Y) : w.frozen? ⟨x, 0, none⟩ = false := by simp [World.frozen?, h.2]
theorem HoldC.f1 {w : World} {x A O X Y : Nat} (h : HoldC w x A O X Y) : w.frozen? ⟨x, 1, none⟩ = false := by simp [World.frozen?, h.2]
theorem HoldC.f2 {w : World} {x A O X Y : Nat} (h : HoldC w x A O X Y) : w.frozen? ⟨x, 2, none⟩ = false := by simp [World.frozen?, h.2]
theorem HoldC.kept {w w' : World} {x A O X Y : Nat} {row : Option Nat} (h : HoldC w x A O X Y) (hg : w.grownBy w' row) (hne : some x ≠ row) : HoldC w' x A O X Y :=
  ⟨h.1, (hg.block x (Array.getElem?_eq_some_iff.1 h.2).1 hne).trans h.2⟩
theorem HoldC.new (w : World) {A O X Y : Nat} (h : X < 2 ^ 32 ∧ Y < 2 ^ 32) : HoldC (w.alloc (.cells #[.float .f32 A, .float .f32 O, .complex .f32 X Y] 28)) w.heap.size A O X Y := ⟨h, heap_alloc_new w _⟩
theorem HoldC.set0 {w : World} {x A O X Y : Nat} (h : HoldC w x A O X Y) (A' : Nat) : HoldC (w.setCell ⟨x, 0, none⟩ (.float .f32 A')) x A' O X Y := ⟨h.1, heap_put (i := 0) h.2⟩
theorem HoldC.set1 {w : World} {x A O X Y : Nat} (h : HoldC w x A O X Y) (O' : Nat) : HoldC (w.setCell ⟨x, 1, none⟩ (.float .f32 O')) x A O' X Y := ⟨h.1, heap_put (i := 1) h.2⟩
theorem HoldC.set2 {w : World} {x A O X Y X' Y' : Nat} (h : HoldC w x A O X Y) (h' : X' < 2 ^ 32 ∧ Y' < 2 ^ 32) : HoldC (w.setCell ⟨x, 2, none⟩ (.complex .f32 X' Y')) x A O X' Y' := ⟨h', heap_put (i := 2) h.2⟩
theorem HoldC.drewN {w : World} {x A O X Y : Nat} (h : HoldC w x A O X Y) (n : Nat) : HoldC (w.drewN n) x A O X Y := h
theorem HoldC.all {w : World} {x A O X Y : Nat} (h : HoldC w x A O X Y) : w.cell? ⟨x, 0, none⟩ = some (.float .f32 A) ∧ w.cell? ⟨x, 1, none⟩ = some (.float .f32 O) ∧ w.cell? ⟨x, 2, none⟩ = some (.complex .f32 X Y) ∧ w.frozen? ⟨x, 0, none⟩ = false ∧ w.frozen? ⟨x, 1, none⟩ = false ∧ w.frozen? ⟨x, 2, none⟩ = false := ⟨h.c0, h.c1, h.c2, h.f0, h.f1, h.f2⟩
/-- All three fields written. -/
def putC (w : World) (x A O X Y : Nat) : World := ((w.setCell ⟨x, 0, none⟩ (.float .f32 A)).setCell ⟨x, 1, none⟩ (.float .f32 O)).setCell ⟨x, 2, none⟩ (.complex .f32 X Y)
theorem HoldC.put {w : World} {x A O X Y A' O' X' Y' : Nat} (h : HoldC w x A O X Y) (h' : X' < 2 ^ 32 ∧ Y' < 2 ^ 32) : HoldC (putC w x A' O' X' Y') x A' O' X' Y' := ((h.set0 A').set1 O').set2 h'
theorem putC.grown {w : World} (x A O X Y : Nat) : w.grownBy (putC w x A O X Y) (some x) := ((Lib.grownBy_setCell w x 0 _).trans (Lib.grownBy_setCell _ x 1 _)).trans (Lib.grownBy_setCell _ x 2 _)
theorem putC.cur {w : World} {x A O X Y b : Nat} (h : Cur w b) (hb : b < x) : Cur (putC w x A O X Y) b := h.grown (putC.grown x A O X Y) (fun r e => by cases e; exact hb)
theorem putC.below {a w : World} {x A O X Y b : Nat} (h : a.grownBy w (some b)) (hx : a.heap.size ≤ x) : a.grownBy (putC w x A O X Y) (some b) := grown_set (grown_set (grown_set h (p := ⟨x, 0, none⟩) hx _) (p := ⟨x, 1, none⟩) hx _) (p := ⟨x, 2, none⟩) hx _
/-- What stands ahead of the return: the channel, and the place of the answer. -/
structure AtEnd (w wz : World) (b x A O X Y : Nat) : Prop where
  ch : HoldC wz x A O X Y
  res : HoldC wz w.heap.size 0 0 0 0
  cur : Cur wz b
  grown : w.grownBy wz (some b)
theorem AtEnd.set0 {w wz : World} {b x A O X Y : Nat} (h : AtEnd w wz b x A O X Y) (hb : b < w.heap.size) (hx : w.heap.size < x) (A' : Nat) : AtEnd w (wz.setCell ⟨x, 0, none⟩ (.float .f32 A')) b x A' O X Y :=
  ⟨h.ch.set0 A', h.res.kept (Lib.grownBy_setCell wz x 0 _) (by intro e; cases e; omega), h.cur.set (p := ⟨x, 0, none⟩) (by show b < x; omega) _, grown_set h.grown (p := ⟨x, 0, none⟩) (by show _ ≤ x; omega) _⟩
theorem AtEnd.set1 {w wz : World} {b x A O X Y : Nat} (h : AtEnd w wz b x A O X Y) (hb : b < w.heap.size) (hx : w.heap.size < x) (O' : Nat) : AtEnd w (wz.setCell ⟨x, 1, none⟩ (.float .f32 O')) b x A O' X Y :=
  ⟨h.ch.set1 O', h.res.kept (Lib.grownBy_setCell wz x 1 _) (by intro e; cases e; omega), h.cur.set (p := ⟨x, 1, none⟩) (by show b < x; omega) _, grown_set h.grown (p := ⟨x, 1, none⟩) (by show _ ≤ x; omega) _⟩
theorem AtEnd.set2 {w wz : World} {b x A O X Y X' Y' : Nat} (h : AtEnd w wz b x A O X Y) (hb : b < w.heap.size) (hx : w.heap.size < x) (hf : X' < 2 ^ 32 ∧ Y' < 2 ^ 32) : AtEnd w (wz.setCell ⟨x, 2, none⟩ (.complex .f32 X' Y')) b x A O X' Y' :=
  ⟨h.ch.set2 hf, h.res.kept (Lib.grownBy_setCell wz x 2 _) (by intro e; cases e; omega), h.cur.set (p := ⟨x, 2, none⟩) (by show b < x; omega) _, grown_set h.grown (p := ⟨x, 2, none⟩) (by show _ ≤ x; omega) _⟩
theorem AtEnd.next {w wz w' : World} {b x A O X Y : Nat} (h : AtEnd w wz b x A O X Y) (hb : b < w.heap.size) (hx : w.heap.size < x) (hc : Cur w' b) (hg : wz.grownBy w' (some b)) (n : Nat) : AtEnd w (w'.drewN n) b x A O X Y :=
  ⟨(h.ch.kept hg (by intro e; cases e; omega)).drewN n, (h.res.kept hg (by intro e; cases e; omega)).drewN n, hc.drewN n, grownN (h.grown.trans hg) n⟩
/-- What the return leaves. -/
theorem AtEnd.done {w wz : World} {b x A O X Y : Nat} (h : AtEnd w wz b x A O X Y) (hb : b < w.heap.size) : HoldC (putC wz w.heap.size A O X Y) w.heap.size A O X Y ∧ Cur (putC wz w.heap.size A O X Y) b ∧ w.grownBy (putC wz w.heap.size A O X Y) (some b) :=
  ⟨h.res.put h.ch.1, putC.cur h.cur hb, putC.below h.grown (Nat.le_refl _)⟩
theorem Src.below {w w' : World} {b b' : Nat} {a : Option Addr} {len cap : Nat} (h : Src w b a len cap) (hb : Below w.heap.size w w') (hle : b ≤ b') : Src w' b' a len cap := by
  refine ⟨h.1, fun i hi => ?_⟩
  obtain ⟨g, off, z, h1, h2, h3, h4⟩ := h.2 i hi
  exact ⟨g, off, z, h1, by omega, h3, (grown_of hb).cell h4 (by simp)⟩
def DrawEc (w : World) (e : Ending) (w' : World) : Prop := ∃ v xs n k, (xs.length ≤ 5000 ∧ I64 n ∧ k < 2 ^ 32) ∧ e = .returned (.tuple #[v, .int .i64 n, .float .f32 k]) ∧ FRow w' v xs ∧ Below w.heap.size w w'
theorem DrawEc.mk {w w' : World} {v : Value} {xs : List Nat} {n : Int} {k : Nat} (h : xs.length ≤ 5000 ∧ I64 n ∧ k < 2 ^ 32) (hr : FRow w' v xs) (hb : Below w.heap.size w w') : DrawEc w (.returned (.tuple #[v, .int .i64 n, .float .f32 k])) w' := ⟨v, xs, n, k, h, rfl, hr, hb⟩
end Go.Proofs.YtobpnoiienpipaaGreat

/-
  What is proved: the walks of the program's Times and Power.
  Conditions: none.
-/
namespace Go.Proofs.YtobpnoiienpipaaGreat
set_option linter.unusedVariables false
open Go.RowKit
attribute [local go_sem] run_store_float run_store_complex unary_negf neg256

/-- What Times tells. -/
def TimesA (a b x y : Nat) (w : World) (e : Ending) (w' : World) : Prop := ∃ re im, e = .returned (.complex .f32 re im) ∧ (TimesR a b x y re im ∧ re < 2 ^ 32 ∧ im < 2 ^ 32) ∧ ∃ n, w' = w.drewN n
set_option maxHeartbeats 1000000 in
theorem times_any (a b x y : Nat) (w : World) :
    Calls Tryz.prog 201 #[.complex .f32 a b, .complex .f32 x y] w fun e w' => TimesA a b x y w e w' := by
  go_enter Tryz.func201, Tryz.ntmps201
  obtain ⟨m1, n1, e1, R1, B1⟩ := run_res .mul (.inr (.inr (.inl rfl))) a x w
  obtain ⟨m2, n2, e2, R2, B2⟩ := run_res .mul (.inr (.inr (.inl rfl))) b y (w.drewN (n1))
  rw [drewN_addD] at e2
  obtain ⟨re, n3, e3, R3, B3⟩ := run_res .sub (.inr (.inl rfl)) m1 m2 (w.drewN (n1 + n2))
  rw [drewN_addD] at e3
  obtain ⟨m3, n4, e4, R4, B4⟩ := run_res .mul (.inr (.inr (.inl rfl))) a y (w.drewN (n1 + n2 + n3))
  rw [drewN_addD] at e4
  obtain ⟨m4, n5, e5, R5, B5⟩ := run_res .mul (.inr (.inr (.inl rfl))) b x (w.drewN (n1 + n2 + n3 + n4))
  rw [drewN_addD] at e5
  obtain ⟨im, n6, e6, R6, B6⟩ := run_res .add (.inl rfl) m3 m4 (w.drewN (n1 + n2 + n3 + n4 + n5))
  rw [drewN_addD] at e6
  have HR := Lib.hid (show TimesR a b x y re im ∧ re < 2 ^ 32 ∧ im < 2 ^ 32 from ⟨⟨m1, m2, m3, m4, R1, R2, R3, R4, R5, R6⟩, B3, B6⟩)
  clear R1 R2 R3 R4 R5 R6 B1 B2 B3 B4 B5 B6
  go_wp2
  go_ret
  exact ⟨re, im, rfl, HR.out, _, rfl⟩
end Go.Proofs.YtobpnoiienpipaaGreat
