/-
  What is proved: what the model draws as a row of sixteenths; the decoding of what such a row is encoded to.
  Conditions: the cursor's block holds a cursor.
-/
import Derived.Test.YtobpnoiienpipaaGreatPz06
import Derived.Test.YtobpnoiienpipaaGreatPz07
import Derived.Test.YtobpnoiienpipaaGreatDecode
import Derived.Test.YtobpnoiienpipaaGreatPz03
import Derived.Deep.RegionWith
import Derived.Deep.RegionHeld3
namespace Go.Proofs.YtobpnoiienpipaaGreat
set_option linter.unusedVariables false
open Go.RowKit
attribute [local go_sem] run_store_float run_store_complex unary_negf neg256

/-- A cell of sixteenths a, b, d. -/
def PC (c : C3) (a b d : Int) : Prop := Flt.Sx c.1 a ∧ Flt.Sx c.2.1 b ∧ Flt.Sx c.2.2 d ∧ a.natAbs ≤ 1024 ∧ b.natAbs ≤ 512 ∧ d.natAbs ≤ 512
def PlainR (cs : List C3) : Prop := ∀ c ∈ cs, ∃ a b d, PC c a b d
theorem PC.fit {c : C3} {a b d : Int} (h : PC c a b d) : c.1 < 2 ^ 32 ∧ c.2.1 < 2 ^ 32 ∧ c.2.2 < 2 ^ 32 := ⟨h.1.1, h.2.1.1, h.2.2.1.1⟩
theorem PC.fins {c : C3} {a b d : Int} (h : PC c a b d) : Flt.fin c.1 = true ∧ Flt.fin c.2.1 = true ∧ Flt.fin c.2.2 = true := by
  obtain ⟨h1, h2, h3, k1, k2, k3⟩ := h
  exact ⟨h1.fin (by omega), h2.fin (by omega), h3.fin (by omega)⟩
theorem PC.cj {c : C3} {a b d : Int} (h : PC c a b d) : PC (cj c) a b (-d) := by
  obtain ⟨h1, h2, h3, k1, k2, k3⟩ := h
  exact ⟨h1, h2, h3.neg, k1, k2, by omega⟩
theorem PlainR.fit {cs : List C3} (h : PlainR cs) : Fit cs := fun c hc => by obtain ⟨a, b, d, k⟩ := h c hc; exact k.fit
theorem PlainR.cj {cs : List C3} (h : PlainR cs) : PlainR (cs.map cj) := by
  intro c hc
  obtain ⟨e, he, rfl⟩ := List.mem_map.1 hc
  obtain ⟨a, b, d, k⟩ := h e he
  exact ⟨_, _, _, k.cj⟩
theorem PlainR.rok {cs : List C3} (h : PlainR cs) (h1 : 1 ≤ cs.length) (h2 : cs.length ≤ 64) : rok cs = true :=
  rok_iff.2 ⟨⟨h1, h2⟩, fun c hc => by obtain ⟨a, b, d, k⟩ := h c hc; exact k.fins⟩
theorem PlainR.snoc {cs : List C3} {c : C3} {a b d : Int} (h : PlainR cs) (hc : PC c a b d) : PlainR (cs ++ [c]) := by
  intro e he
  rcases List.mem_append.1 he with he | he
  · exact h e he
  · obtain rfl := List.mem_singleton.1 he; exact ⟨_, _, _, hc⟩
theorem Res.is {op : BinOp} {x y r r' : Nat} (h : Res op x y r) (e : floatBits op .f32 x y = some r') : r = r' := by
  rcases h with h | ⟨h, _⟩
  · rw [e] at h; exact (Option.some.inj h).symm
  · rw [e] at h; cases h
def PlainDraw (w : World) (e : Ending) (w' : World) : Prop := ∃ v cs, (1 ≤ cs.length ∧ cs.length ≤ 6) ∧ PlainR cs ∧ e = .returned v ∧ RowV w' v cs ∧ Below w.heap.size w w'
theorem PlainDraw.mk {w w' : World} {v : Value} {cs : List C3} (hl : 1 ≤ cs.length ∧ cs.length ≤ 6) (hp : PlainR cs) (hr : RowV w' v cs) (hb : Below w.heap.size w w') : PlainDraw w (.returned v) w' := ⟨v, cs, hl, hp, rfl, hr, hb⟩
theorem decode_any (v : Value) (xs : List Nat) (odd : Bool) (w : World) (h : FRow w v xs) (hl : xs.length ≤ 4000000) :
    Calls Tryz.prog 173 #[v, .bool odd] w fun e w' => DecPost xs odd w e w' := by
  obtain ⟨a, c, rfl, hcell⟩ := h.any
  by_cases hm : xs.length % 4 = 0
  · exact callsIn_wide.1 (decode_in a c (xs.length / 4) xs odd w (by omega) hl hcell)
  · have hmod : ((xs.length : Int) % 4 != 0) = true := by simp; omega
    have HM := Lib.hid hm
    clear hcell h hm
    go_enter Tryz.func173, Tryz.ntmps173
    go_wp2
    go_ret2
    exact ⟨_, [], fun h => absurd h HM.out, fun _ => rfl, (by intro c hc; cases hc), rfl, RNew.nil _ _, Below.refl _ _⟩
end Go.Proofs.YtobpnoiienpipaaGreat

/-
  What is proved: samples of plain rows come through two plain channels as through their chain; no sample is too large on the way.
  Conditions: none beyond plainness.
-/
namespace Go.Proofs.YtobpnoiienpipaaGreat
set_option linter.unusedVariables false
open Go.RowKit
open Flt (Mag sumv subv mulv quov Q)

/-- Lists of equal numbers. -/
def EqL (xs ys : List Nat) : Prop := xs.length = ys.length ∧ ∀ i (h : i < xs.length) (h' : i < ys.length), Ieee.single.order xs[i] ys[i] = some .eq
theorem EqL.append {a b c d : List Nat} (h : EqL a b) (h' : EqL c d) : EqL (a ++ c) (b ++ d) := by
  obtain ⟨l1, e1⟩ := h
  obtain ⟨l2, e2⟩ := h'
  refine ⟨by rw [List.length_append, List.length_append, l1, l2], fun i hi hi' => ?_⟩
  by_cases hlt : i < a.length
  · rw [List.getElem_append_left hlt, List.getElem_append_left (by omega)]
    exact e1 i hlt (by omega)
  · rw [List.length_append] at hi hi'
    rw [List.getElem_append_right (by omega), List.getElem_append_right (by omega)]
    have := e2 (i - a.length) (by omega) (by omega)
    simp only [l1] at this ⊢
    exact this
theorem EqL.enc {f g : C3 → C3} : ∀ {cs : List C3}, (∀ c ∈ cs, EqL (enc4 (f c)) (enc4 (g c))) → EqL (enc (cs.map f)) (enc (cs.map g))
  | [], _ => ⟨rfl, fun i hi => absurd hi (by simp [Proofs.YtobpnoiienpipaaGreat.enc])⟩
  | c :: cs, h => by
    show EqL (enc4 (f c) ++ Proofs.YtobpnoiienpipaaGreat.enc (cs.map f)) (enc4 (g c) ++ Proofs.YtobpnoiienpipaaGreat.enc (cs.map g))
    exact EqL.append (h c (by simp)) (EqL.enc fun d hd => h d (by simp [hd]))
/-- A plain channel. -/
def PlainH (h : Chn) (α ω ξ η : Int) : Prop := QH 147 146 h α ω ξ η ∧ (1 ≤ α ∧ α ≤ 8) ∧ ω.natAbs ≤ 32 ∧ ξ.natAbs ≤ 8 ∧ η.natAbs ≤ 8
end Go.Proofs.YtobpnoiienpipaaGreat

/-
  What is proved: products of complex singles: their order, the factors 1 and i; powers.
  Conditions: those that each fact names.
-/
namespace Go.Proofs.YtobpnoiienpipaaGreat
set_option linter.unusedVariables false
open Go.RowKit
open Flt (Mag sumv subv mulv quov Q)

/-- What the product of a + bi and x + yi may be. -/
def TimesR (a b x y re im : Nat) : Prop := ∃ m1 m2 m3 m4, Res .mul a x m1 ∧ Res .mul b y m2 ∧ Res .sub m1 m2 re ∧ Res .mul a y m3 ∧ Res .mul b x m4 ∧ Res .add m3 m4 im
theorem TimesR.is {a b x y re im : Nat} {k l : Nat} (ha : Mag k a) (hb : Mag k b) (hx : Mag l x) (hy : Mag l y) (hkl : k + l ≤ 400) (hl : 149 ≤ k + l) (h : TimesR a b x y re im) : re = timesRe a b x y ∧ im = timesIm a b x y := by
  obtain ⟨m1, m2, m3, m4, h1, h2, h3, h4, h5, h6⟩ := h
  have e1 := ha.mul hx (by omega) hl
  have e2 := hb.mul hy (by omega) hl
  have e3 := ha.mul hy (by omega) hl
  have e4 := hb.mul hx (by omega) hl
  have e5 := e1.2.sub e2.2 (by omega)
  have e6 := e3.2.add e4.2 (by omega)
  obtain rfl := res_some h1 e1.1
  obtain rfl := res_some h2 e2.1
  obtain rfl := res_some h4 e3.1
  obtain rfl := res_some h5 e4.1
  exact ⟨res_some h3 e5.1, res_some h6 e6.1⟩
/-! ### Zeros -/
theorem zero_add {x z : Nat} {s t : Bool} {u : Nat} (hx : Flt.Num Ieee.single x s u) (hz : Flt.Num Ieee.single z t 0) (hr : Flt.Rep Ieee.single u) (hc : u < 2 ^ Flt.cap Ieee.single) : floatBits .add .f32 x z = some (sumv x z) ∧ Ieee.single.order (sumv x z) x = some .eq := by
  have e : Flt.sg s u + Flt.sg t 0 = Flt.sg s u := by have : Flt.sg t 0 = 0 := by cases t <;> rfl
                                                      omega
  obtain ⟨r, h1, h2⟩ := Flt.add_num Flt.fine32 hx hz (by rw [e, Flt.natAbs_sg]; exact hr) (by rw [e, Flt.natAbs_sg]; exact hc)
  have h1' : floatBits .add .f32 x z = some r := h1
  unfold sumv
  rw [h1']
  refine ⟨rfl, ?_⟩
  rw [e] at h2
  show Ieee.single.order r x = _
  rw [Flt.order_num h2 hx, Flt.sg_self, Flt.cmp_eq rfl]
end Go.Proofs.YtobpnoiienpipaaGreat

/-
  What is proved: sums of squares of singles: they are not negative, are 0 only if both squares are, and do not depend on signs or on order.
  Conditions: none of the numbers is NaN.
-/
namespace Go.Proofs.YtobpnoiienpipaaGreat
set_option linter.unusedVariables false
open Ieee
open Flt (Mag sumv subv mulv quov Q)

/-- Not negative, and no NaN. -/
def NN (x : Nat) : Prop := (∃ m e, single.read x = .number false m e) ∨ single.read x = .infinity false
def Nul (x : Nat) : Prop := ∃ s e, single.read x = .number s 0 e
theorem NN.ok {x : Nat} (h : NN x) : isN x = false := by
  unfold isN
  rcases h with ⟨m, e, h⟩ | h <;> rw [h] <;> rfl
theorem nn_word (r : Nat) (h : r ≤ single.infRung) : NN (single.word false r) := by
  have h2 : r < single.signWeight := Nat.lt_of_le_of_lt h single.infRung_lt
  have hr := Flt.read_word single false r h2
  by_cases h1 : r < single.binade
  · rw [if_pos h1] at hr; exact .inl ⟨_, _, hr⟩
  · rw [if_neg h1] at hr
    by_cases h3 : r < single.infRung
    · rw [if_pos h3] at hr; exact .inl ⟨_, _, hr⟩
    · rw [if_neg h3, if_pos (by omega)] at hr; exact .inr hr
theorem word_nul {s : Bool} {r : Nat} (h : r ≤ single.infRung) : Nul (single.word s r) ↔ r = 0 := by
  have h2 : r < single.signWeight := Nat.lt_of_le_of_lt h single.infRung_lt
  have hr := Flt.read_word single s r h2
  have hb : 0 < single.binade := Flt.two_pos _
  constructor
  · rintro ⟨t, e, h0⟩
    by_cases h1 : r < single.binade
    · rw [if_pos h1, h0] at hr; cases hr; rfl
    · rw [if_neg h1] at hr
      by_cases h3 : r < single.infRung
      · rw [if_pos h3, h0] at hr
        injection hr with _ h4 _
        omega
      · rw [if_neg h3, if_pos (by omega), h0] at hr; cases hr
  · rintro rfl
    rw [if_pos hb] at hr
    exact ⟨_, _, hr⟩
/-- Rounding takes no number of units to 0. -/
theorem nearest_nul (s : Bool) (mag : Nat) (place : Int) (hp : -149 ≤ place) : Nul (single.nearest s mag place) ↔ mag = 0 := by
  unfold Format.nearest
  by_cases h : mag = 0
  · rw [if_pos h]
    exact ⟨fun _ => h, fun _ => (word_nul (Nat.zero_le _)).2 rfl⟩
  · rw [if_neg h]
    refine ⟨fun h1 => ?_, fun h1 => absurd h1 h⟩
    exfalso
    have h2 := (word_nul (Nat.min_le_right _ _)).1 h1
    simp only [Flt.shl, Flt.place32, Flt.frac32] at h2
    obtain ⟨last, hl⟩ : ∃ last : Int, last = max (place + mag.log2 - ((23 : Nat) : Int)) (-149) := ⟨_, rfl⟩
    rw [← hl] at h2
    have hi : 0 < single.infRung := by rw [Flt.inf32]; decide
    have h4 : 1 ≤ Toward.even.cut s (mag * 2 ^ (place - last).toNat) (last - place).toNat := by
      apply Flt.le_cut
      have h5 : 2 ^ mag.log2 ≤ mag := Nat.log2_self_le h
      have h6 : (2 : Nat) ^ (last - place).toNat ≤ 2 ^ mag.log2 := Nat.pow_le_pow_right (by decide) (by omega)
      have h7 : mag * 1 ≤ mag * 2 ^ (place - last).toNat := Nat.mul_le_mul_left _ (Flt.two_pos _)
      omega
    omega
theorem nn_nearest (mag : Nat) (place : Int) : NN (single.nearest false mag place) := by
  unfold Format.nearest
  by_cases h : mag = 0
  · rw [if_pos h]; exact nn_word 0 (Nat.zero_le _)
  · rw [if_neg h]; exact nn_word _ (Nat.min_le_right _ _)
theorem place_ge {x m : Nat} {s : Bool} {e : Int} (h : single.read x = .number s m e) : -149 ≤ e := by
  obtain ⟨m', e', h', hle, _⟩ := Flt.read_num h
  rw [h] at h'
  cases h'
  rw [Flt.place32] at hle
  exact hle
theorem sq_nn {x : Nat} (h : isN x = false) : ∃ r, floatBits .mul .f32 x x = some r ∧ NN r := by
  have e : floatBits .mul .f32 x x = ((single.read x).product (single.read x)).map single.write := rfl
  unfold isN at h
  cases hx : single.read x with
  | nan s p => rw [hx] at h; cases h
  | infinity s =>
    refine ⟨single.word false single.infRung, ?_, nn_word _ (Nat.le_refl _)⟩
    rw [e, hx]
    show some (single.write (.infinity (s ^^ s))) = _
    rw [Bool.xor_self]; rfl
  | number s m i =>
    refine ⟨single.nearest false (m * m) (i + i), ?_, nn_nearest _ _⟩
    rw [e, hx]
    show some (single.nearest (s ^^ s) (m * m) (i + i)) = _
    rw [Bool.xor_self]
theorem sum_nn {x y : Nat} (hx : NN x) (hy : NN y) : ∃ r, floatBits .add .f32 x y = some r ∧ NN r ∧ (Nul r ↔ Nul x ∧ Nul y) := by
  have e : floatBits .add .f32 x y = ((single.read x).sum (single.read y)).map single.write := rfl
  have hni : ∀ z, single.read z = .infinity false → ¬ Nul z := by rintro z hz ⟨s, k, hk⟩; rw [hz] at hk; cases hk
  have hinf : NN (single.word false single.infRung) ∧ ¬ Nul (single.word false single.infRung) := by
    refine ⟨nn_word _ (Nat.le_refl _), fun h => ?_⟩
    have := (word_nul (Nat.le_refl _)).1 h
    rw [Flt.inf32] at this
    exact absurd this (by decide)
  rcases hx with ⟨m, i, hx⟩ | hx
  · rcases hy with ⟨n, j, hy⟩ | hy
    · have p1 := place_ge hx
      have p2 := place_ge hy
      have ez : ∀ (z a : Nat) (k : Int), single.read z = .number false a k → (Nul z ↔ a = 0) := by
        intro z a k hz
        constructor
        · rintro ⟨s, l, h⟩; rw [hz] at h; cases h; rfl
        · rintro rfl; exact ⟨_, _, hz⟩
      rw [ez x m i hx, ez y n j hy]
      have es : (single.read x).sum (single.read y) = some (.number (if signed false m (i - min i j).toNat + signed false n (j - min i j).toNat = 0 then false && false else decide (signed false m (i - min i j).toNat + signed false n (j - min i j).toNat < 0)) (signed false m (i - min i j).toNat + signed false n (j - min i j).toNat).natAbs (min i j)) := by rw [hx, hy]; rfl
      rw [Flt.signed_sg, Flt.signed_sg] at es
      have a1 : Flt.sg false (m * 2 ^ (i - min i j).toNat) = ((m * 2 ^ (i - min i j).toNat : Nat) : Int) := rfl
      have a2 : Flt.sg false (n * 2 ^ (j - min i j).toNat) = ((n * 2 ^ (j - min i j).toNat : Nat) : Int) := rfl
      rw [a1, a2] at es
      have hz : (m * 2 ^ (i - min i j).toNat + n * 2 ^ (j - min i j).toNat = 0) ↔ (m = 0 ∧ n = 0) := by
        have q1 := Flt.two_pos (i - min i j).toNat
        have q2 := Flt.two_pos (j - min i j).toNat
        constructor
        · intro h
          have h1 : m * 2 ^ (i - min i j).toNat = 0 := by omega
          have h2 : n * 2 ^ (j - min i j).toNat = 0 := by omega
          exact ⟨(Nat.mul_eq_zero.1 h1).resolve_right (by omega), (Nat.mul_eq_zero.1 h2).resolve_right (by omega)⟩
        · rintro ⟨rfl, rfl⟩; simp
      generalize m * 2 ^ (i - min i j).toNat = M at *
      generalize n * 2 ^ (j - min i j).toNat = N at *
      have hsign : (if (M : Int) + (N : Int) = 0 then false && false else decide ((M : Int) + (N : Int) < 0)) = false := by
        split
        · rfl
        · exact decide_eq_false (by omega)
      rw [hsign, show ((M : Int) + (N : Int)).natAbs = M + N by omega] at es
      refine ⟨single.nearest false (M + N) (min i j), by rw [e, es]; rfl, nn_nearest _ _, ?_⟩
      rw [nearest_nul false _ _ (by omega), hz]
    · refine ⟨_, by rw [e, hx, hy]; rfl, hinf.1, ⟨fun h => absurd h hinf.2, fun h => absurd h.2 (hni y hy)⟩⟩
  · rcases hy with ⟨n, j, hy⟩ | hy
    · refine ⟨_, by rw [e, hx, hy]; rfl, hinf.1, ⟨fun h => absurd h hinf.2, fun h => absurd h.1 (hni x hx)⟩⟩
    · refine ⟨_, by rw [e, hx, hy]; rfl, hinf.1, ⟨fun h => absurd h hinf.2, fun h => absurd h.1 (hni x hx)⟩⟩
/-- What the power of x + yi may be. -/
def PowR (x y p : Nat) : Prop := ∃ m n, Res .mul x x m ∧ Res .mul y y n ∧ Res .add m n p
theorem PowR.nan {x y p : Nat} (h : PowR x y p) (hn : isN x = true ∨ isN y = true) : isN p = true := by
  obtain ⟨m, n, h1, h2, h3⟩ := h
  rcases hn with hn | hn
  · exact Res.nan (.inl (Res.nan (.inl hn) h1)) h3
  · exact Res.nan (.inr (Res.nan (.inl hn) h2)) h3
theorem PowR.same {x y p p' : Nat} (h : PowR x y p) (h' : PowR x y p') : Sm p p' := by
  obtain ⟨m, n, h1, h2, h3⟩ := h
  obtain ⟨m', n', g1, g2, g3⟩ := h'
  exact Res.same (Res.same (Sm.refl _) (Sm.refl _) h1 g1) (Res.same (Sm.refl _) (Sm.refl _) h2 g2) h3 g3
theorem PowR.nn {x y p : Nat} (h : PowR x y p) (hx : isN x = false) (hy : isN y = false) : NN p ∧ ∃ m n, floatBits .mul .f32 x x = some m ∧ floatBits .mul .f32 y y = some n ∧ (Nul p ↔ Nul m ∧ Nul n) := by
  obtain ⟨m, n, h1, h2, h3⟩ := h
  obtain ⟨a, ea, na⟩ := sq_nn hx
  obtain ⟨b, eb, nb⟩ := sq_nn hy
  obtain rfl := res_some h1 ea
  obtain rfl := res_some h2 eb
  obtain ⟨r, er, nr, hz⟩ := sum_nn na nb
  obtain rfl := res_some h3 er
  exact ⟨nr, m, n, ea, eb, hz⟩
theorem read_neg {x : Nat} (h : x < 2 ^ 32) : single.read (Go.Op.negFloat .f32 x) = (single.read x).opposite := by
  obtain ⟨s, r, rfl, hr⟩ := Flt.word_parts32 x h
  rw [Flt.neg_word32 s r hr, Flt.read_word single _ r (by rw [Flt.sw32]; exact hr), Flt.read_word single s r (by rw [Flt.sw32]; exact hr)]
  split
  · rfl
  · split
    · rfl
    · split
      · rfl
      · rfl
theorem sq_neg {x : Nat} (h : x < 2 ^ 32) : floatBits .mul .f32 (Go.Op.negFloat .f32 x) (Go.Op.negFloat .f32 x) = floatBits .mul .f32 x x := by
  show ((single.read _).product (single.read _)).map single.write = ((single.read x).product (single.read x)).map single.write
  rw [read_neg h]
  cases single.read x with
  | nan s p => rfl
  | infinity s => cases s <;> rfl
  | number s m i => cases s <;> rfl
theorem PowR.neg {x y p p' : Nat} (hy : y < 2 ^ 32) (h : PowR x y p) (h' : PowR x (Go.Op.negFloat .f32 y) p') : Sm p p' := by
  refine h.same ?_
  obtain ⟨m, n, h1, h2, h3⟩ := h'
  refine ⟨m, n, h1, ?_, h3⟩
  unfold Res at h2 ⊢
  rwa [sq_neg hy] at h2
end Go.Proofs.YtobpnoiienpipaaGreat

/-
  What is proved: a plain channel that turns by quarters, and its undoing, are together no channel at all; a plain channel with no gain changes nothing.
  Conditions: none beyond plainness.
-/
namespace Go.Proofs.YtobpnoiienpipaaGreat
set_option linter.unusedVariables false
open Ieee
open Flt (Mag sumv subv mulv quov Q)

end Go.Proofs.YtobpnoiienpipaaGreat

/-
  What is proved: what the model draws as a channel of small dyadic numbers.
  Conditions: the cursor's block holds a cursor.
-/
namespace Go.Proofs.YtobpnoiienpipaaGreat
set_option linter.unusedVariables false
open Go.RowKit
open Flt (Q)
attribute [local go_sem] run_store_float run_store_complex unary_negf neg256

theorem Flt.Q.down {e j x : Nat} {a : Int} (h : Flt.Q e x (a * 2 ^ j)) : Flt.Q (e + j) x a := by
  obtain ⟨h0, s, u, hx, ha⟩ := h
  exact ⟨h0, s, u, hx, by rw [ha, Int.mul_assoc, Flt.pow_cast, Flt.pow_cast, Flt.pow_cast, ← Int.natCast_mul, ← Nat.pow_add, Nat.add_comm j e]⟩
theorem q_int {n : Int} (h : n.natAbs < 2 ^ 20) : Q 149 (floatOfInt .f32 n) n := by
  have h1 := (Flt.Sx.ofInt h).q
  have e : 16 * n = n * 2 ^ 4 := by omega
  rw [e] at h1
  exact h1.down
theorem quarter {n : Int} (h : n.natAbs < 2 ^ 20) : ∃ r, floatBits .quo .f32 (floatOfInt .f32 n) 1082130432 = some r ∧ Q 147 r n := by
  obtain ⟨r, h1, h2⟩ := (q_int h).quo (f := 147) (show Ieee.single.read 1082130432 = .number false 8388608 (-21) by decide +kernel) (by omega) (by decide) (by decide)
  exact ⟨r, h1, h2⟩
/-- The gains of brightness that are drawn. -/
def GainOf (A : Nat) (α : Int) : Prop := A = 1048576000 ∧ α = 1 ∨ A = 1056964608 ∧ α = 2 ∨ A = 1065353216 ∧ α = 4 ∨ A = 1073741824 ∧ α = 8
theorem GainOf.q {A : Nat} {α : Int} (h : GainOf A α) : Q 147 A α := by
  rcases h with ⟨rfl, rfl⟩ | ⟨rfl, rfl⟩ | ⟨rfl, rfl⟩ | ⟨rfl, rfl⟩
  · exact Flt.q_word (by decide) (show Ieee.single.read 1048576000 = .number false 8388608 (-25) by decide +kernel) (by decide +kernel)
  · exact Flt.q_word (by decide) (show Ieee.single.read 1056964608 = .number false 8388608 (-24) by decide +kernel) (by decide +kernel)
  · exact Flt.q_word (by decide) (show Ieee.single.read 1065353216 = .number false 8388608 (-23) by decide +kernel) (by decide +kernel)
  · exact Flt.q_word (by decide) (show Ieee.single.read 1073741824 = .number false 8388608 (-22) by decide +kernel) (by decide +kernel)
/-- A channel of small dyadic numbers. -/
def PlainC (h : Chn) : Prop := ∃ α ω ξ η, PlainH h α ω ξ η ∧ GainOf h.A α
theorem PlainC.mk {A O X Y : Nat} {α ω ξ η : Int} (hA : GainOf A α) (hO : Q 146 O ω) (hX : Q 147 X ξ) (hY : Q 147 Y η) (h1 : ω.natAbs ≤ 32) (h2 : ξ.natAbs ≤ 8) (h3 : η.natAbs ≤ 8) : PlainC ⟨A, O, X, Y⟩ := by
  refine ⟨α, ω, ξ, η, ⟨⟨hA.q, hO, hX, hY⟩, ?_, h1, h2, h3⟩, hA⟩
  rcases hA with ⟨_, rfl⟩ | ⟨_, rfl⟩ | ⟨_, rfl⟩ | ⟨_, rfl⟩ <;> decide
end Go.Proofs.YtobpnoiienpipaaGreat

/-
  What is proved: what the functions that draw samples of chapter 3 answer.
  Conditions: the cursor's block holds a cursor.
-/
namespace Go.Proofs.YtobpnoiienpipaaGreat
set_option linter.unusedVariables false
open Go.RowKit
attribute [local go_sem] run_store_float run_store_complex unary_negf neg256

theorem putGrown {w w1 w6 : World} {g g1 : Nat} {o : Obj} (hg : w.grownBy w1 (some g)) (hsz : w.heap.size ≤ w1.heap.size) (hg6 : (w1.alloc o).grownBy w6 (some g1)) (h : g1 = g ∨ w.heap.size ≤ g1) : w.grownBy w6 (some g) := by
  have hA := grown_alloc hg o
  rcases h with rfl | h
  · exact hA.trans hg6
  · exact grown_own hA hg6 (fun r hr => by cases hr; exact h)
def SampW (N : Nat) (w : World) (e : Ending) (w' : World) : Prop :=
  ∃ g cap ys, e = .returned (.slice (some ⟨g, 0, none⟩) ys.length cap) ∧ ys.length ≤ N ∧ OwnF w' w.heap.size (.slice (some ⟨g, 0, none⟩) ys.length cap) ys ∧ Below w.heap.size w w'
theorem SampW.mk {N n : Nat} {w w' : World} {g cap : Nat} {ys : List Nat} (hn : ys.length = n) (hl : n ≤ N) (ho : OwnF w' w.heap.size (.slice (some ⟨g, 0, none⟩) n cap) ys) (hb : Below w.heap.size w w') : SampW N w (.returned (.slice (some ⟨g, 0, none⟩) n cap)) w' := by
  subst hn; exact ⟨g, cap, ys, rfl, hl, ho, hb⟩
theorem OwnF.mono {w : World} {base base' : Nat} {v : Value} {xs : List Nat} (h : OwnF w base v xs) (hb : base' ≤ base) : OwnF w base' v xs :=
  ⟨h.1, h.2.elim .inl (fun ⟨g, cap, cur, h1, h2, h3⟩ => .inr ⟨g, cap, cur, h1, by omega, h3⟩)⟩
def lenOf : Value → Nat
  | .slice _ n _ => n
  | _ => 0
theorem OwnF.at {w : World} {base g n cap : Nat} {xs : List Nat} (h : OwnF w base (.slice (some ⟨g, 0, none⟩) n cap) xs) (hn : xs.length = n) (i : Nat) (hi : i < n) : (∃ x, w.cell? ⟨g, i, none⟩ = some x) ∧ w.frozen? ⟨g, i, none⟩ = false := by
  rcases h.2 with ⟨h1, _⟩ | ⟨g', cap', cur, h1, _, hg, hle, _, hsz, _⟩
  · cases h1
  · simp only [Value.slice.injEq, Option.some.injEq, Addr.mk.injEq] at h1
    obtain ⟨⟨rfl, _⟩, _, rfl⟩ := h1
    refine ⟨⟨cur[i]'(by omega), ?_⟩, ?_⟩
    · simp [World.cell?, hg, Array.getElem?_eq_getElem (show i < cur.size by omega)]
    · simp [World.frozen?, hg]
theorem OwnF.set {w : World} {base g n cap : Nat} {xs : List Nat} (h : OwnF w base (.slice (some ⟨g, 0, none⟩) n cap) xs) (hn : xs.length = n) (i : Nat) (hi : i < n) (z : Nat) : OwnF (w.setCell ⟨g, i, none⟩ (.float .f32 z)) base (.slice (some ⟨g, 0, none⟩) n cap) (xs.set i z) := by
  subst hn
  refine ⟨by simp, ?_⟩
  rcases h.2 with ⟨h1, _⟩ | ⟨g', cap', cur, h1, hb, hg, hle, hm, hsz, htk⟩
  · cases h1
  · simp only [Value.slice.injEq, Option.some.injEq, Addr.mk.injEq] at h1
    obtain ⟨⟨rfl, _⟩, _, rfl⟩ := h1
    refine .inr ⟨g, cap, cur.setIfInBounds i (.float .f32 z), by simp, hb, heapF hg, by simpa using hle, hm, by simpa using hsz, ?_⟩
    rw [List.length_set, Array.toList_setIfInBounds, List.map_set, ← htk, List.take_set]
def SampPost (b : Nat) (w : World) (e : Ending) (w' : World) : Prop :=
  ∃ g cap ys, e = .returned (.slice (some ⟨g, 0, none⟩) ys.length cap) ∧ ys.length ≤ 5000 ∧ OwnF w' w.heap.size (.slice (some ⟨g, 0, none⟩) ys.length cap) ys ∧ Cur w' b ∧ w.grownBy w' (some b)
theorem SampPost.mk {b n : Nat} {w w' : World} {g cap : Nat} {ys : List Nat} (hn : ys.length = n) (hl : n ≤ 5000) (ho : OwnF w' w.heap.size (.slice (some ⟨g, 0, none⟩) n cap) ys) (hc : Cur w' b) (hg : w.grownBy w' (some b)) : SampPost b w (.returned (.slice (some ⟨g, 0, none⟩) n cap)) w' := by
  subst hn; exact ⟨g, cap, ys, rfl, hl, ho, hc, hg⟩
end Go.Proofs.YtobpnoiienpipaaGreat

/-
  What is proved: the laws' comparing of single floats that are alike answers true, NaN among them.
  Conditions: those that each fact names.
-/
namespace Go.Proofs.YtobpnoiienpipaaGreat
set_option linter.unusedVariables false
open Go.RowKit
attribute [local go_sem] run_store_float run_store_complex unary_negf neg256

set_option maxHeartbeats 400000 in
theorem sameFloat_self (a : Nat) (w : World) (ha : (Ieee.double.read a).isNaN = false) :
    Calls Tryz.prog 47 #[.float .f64 a, .float .f64 a] w fun e w' => e = .returned (.bool true) ∧ w = w' := by
  have hs : (FloatKind.f64.format.order a a) = some .eq := Flt.order_self ha
  cases hz : FloatKind.f64.format.order a 0 == some .eq
  · clear ha
    go_enter Tryz.func47, Tryz.ntmps47
    go_wp2
    go_ret
    exact ⟨rfl, rfl⟩
  · obtain ⟨s, i, he⟩ := Flt.eq_zero rd0 (eq_of_beq hz)
    obtain ⟨r, hr⟩ := Flt.div_zero rd1 (by decide) he
    have hd := fun wx => run_float_arith (P := Tryz.prog) wx .quo 80 .f64 _ _ r (show floatBits .quo .f64 _ _ = _ from hr)
    clear he hr ha
    go_enter Tryz.func47, Tryz.ntmps47
    go_wp2
    go_ret
    exact ⟨by simp, rfl⟩
theorem sameFloat_nan (a b : Nat) (w : World) (ha : (Ieee.double.read a).isNaN = true) (hb : (Ieee.double.read b).isNaN = true) :
    Calls Tryz.prog 47 #[.float .f64 a, .float .f64 b] w fun e w' => e = .returned (.bool true) ∧ w = w' := by
  have h1 : (FloatKind.f64.format.order a a) = none := Flt.order_nan (.inl ha)
  have h2 : (FloatKind.f64.format.order b b) = none := Flt.order_nan (.inl hb)
  clear ha hb
  go_enter Tryz.func47, Tryz.ntmps47
  go_wp2
  go_ret
  exact ⟨rfl, rfl⟩
/-- The lists are as long as each other, and the same place for place. -/
def SmL (xs ys : List Nat) : Prop := xs.length = ys.length ∧ ∀ i (h : i < xs.length) (h' : i < ys.length), Sm xs[i] ys[i]
theorem SmL.refl (xs : List Nat) : SmL xs xs := ⟨rfl, fun i h h' => Sm.refl _⟩
end Go.Proofs.YtobpnoiienpipaaGreat

/-
  What is proved: the walk of the law FnDelayed.
  Conditions: none beyond the argument's own.
-/
namespace Go.Proofs.YtobpnoiienpipaaGreat
set_option linter.unusedVariables false
open Go.RowKit
attribute [local go_sem] run_store_float run_store_complex unary_negf neg256

def DrawDl (w : World) (e : Ending) (w' : World) : Prop := ∃ v xs n, xs.length ≤ 5000 ∧ I64 n ∧ e = .returned (.tuple #[v, .int .i64 n]) ∧ FRow w' v xs ∧ Below w.heap.size w w'
theorem DrawDl.mk {w w' : World} {v : Value} {xs : List Nat} {n : Int} (hl : xs.length ≤ 5000) (hn : I64 n) (hr : FRow w' v xs) (hb : Below w.heap.size w w') : DrawDl w (.returned (.tuple #[v, .int .i64 n])) w' := ⟨v, xs, n, hl, hn, rfl, hr, hb⟩
end Go.Proofs.YtobpnoiienpipaaGreat
