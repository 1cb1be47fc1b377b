/-
  What is proved: plain facts on binary floats: when rounding is exact, what comparing says, what sums, differences and products of exact numbers are.
  Conditions: none beyond those that each fact names.
-/
import Derived.Laws.FloatArith
import Derived.Laws.BitsAllLaws
import Derived.WalkLawsBesides
namespace Go.Proofs.YtobpnoiienpipaaDoor.Flt
set_option linter.unusedVariables false
open Ieee

theorem two_pos (n : Nat) : 0 < 2 ^ n := Nat.two_pow_pos n
theorem shl (a n : Nat) : a <<< n = a * 2 ^ n := Nat.shiftLeft_eq a n

/-! ### Rounding a whole number of units -/
theorem lt_log (n : Nat) : n < 2 ^ (n.log2 + 1) := Nat.lt_log2_self
theorem cut_gap (s : Bool) (n d : Nat) (h : d ≤ n.log2 + 2) : Toward.even.cut s n d = n / 2 ^ d + (decide (2 ^ d < 2 * (n % 2 ^ d)) || (2 ^ d == 2 * (n % 2 ^ d) && n / 2 ^ d % 2 == 1)).toNat := by
  unfold Toward.cut
  rw [Nat.min_eq_left h, shl, Nat.one_mul]
theorem cut_big (s : Bool) (n d : Nat) (h : n.log2 + 2 < d) : Toward.even.cut s n d = 0 := by
  unfold Toward.cut
  rw [Nat.min_eq_right (by omega), shl, Nat.one_mul]
  have h1 := lt_log n
  have h2 : 2 ^ (n.log2 + 2) = 2 * 2 ^ (n.log2 + 1) := by rw [Nat.pow_succ]; omega
  have h3 : n < 2 ^ (n.log2 + 2) := by omega
  dsimp only
  rw [Nat.div_eq_of_lt h3, Nat.mod_eq_of_lt h3]
  have h4 : ¬ 2 ^ (n.log2 + 2) < 2 * n := by omega
  have h5 : (2 ^ (n.log2 + 2) == 2 * n) = false := by simp; omega
  simp [h4, h5]
/-- A number that is a multiple of what is dropped is cut exactly. -/
theorem cut_exact (s : Bool) (k d : Nat) : Toward.even.cut s (k * 2 ^ d) d = k := by
  by_cases h : d ≤ (k * 2 ^ d).log2 + 2
  · have hp := two_pos d
    rw [cut_gap s _ d h, Nat.mul_div_cancel _ hp, Nat.mul_mod_left]
    have h1 : ¬ 2 ^ d < 2 * 0 := by omega
    have h2 : (2 ^ d == 2 * 0) = false := by simp
    simp [h2]
  · have h1 := lt_log (k * 2 ^ d)
    have h2 : 2 ^ ((k * 2 ^ d).log2 + 1) ≤ 2 ^ d := Nat.pow_le_pow_right (by decide) (by omega)
    have h3 : k * 2 ^ d < 1 * 2 ^ d := by omega
    have h4 : k < 1 := Nat.lt_of_mul_lt_mul_right h3
    rw [cut_big s _ d (by omega)]
    omega
/-- What cutting is off by: at most half a unit. -/
theorem cut_near (s : Bool) (n d : Nat) : 2 * (Toward.even.cut s n d * 2 ^ d) ≤ 2 * n + 2 ^ d ∧ 2 * n ≤ 2 * (Toward.even.cut s n d * 2 ^ d) + 2 ^ d := by
  by_cases h : d ≤ n.log2 + 2
  · rw [cut_gap s n d h]
    have hd := Nat.div_add_mod n (2 ^ d)
    have hm := Nat.mod_lt n (two_pos d)
    generalize n / 2 ^ d = q at *
    generalize n % 2 ^ d = r at *
    generalize 2 ^ d = g at *
    have hc : g * q = q * g := Nat.mul_comm _ _
    by_cases h1 : g < 2 * r
    · simp only [h1, decide_true, Bool.true_or, Bool.toNat_true]
      rw [Nat.add_mul]
      omega
    · by_cases h2 : (g == 2 * r && q % 2 == 1) = true
      · simp only [h1, decide_false, Bool.false_or, h2, Bool.toNat_true]
        simp only [Bool.and_eq_true, beq_iff_eq] at h2
        rw [Nat.add_mul]
        omega
      · simp only [Bool.not_eq_true] at h2
        simp only [h1, decide_false, Bool.false_or, h2, Bool.toNat_false, Nat.add_zero]
        omega
  · have h1 := lt_log n
    have h2 : 2 ^ (n.log2 + 1) * 2 ≤ 2 ^ d := by
      rw [← Nat.pow_succ]
      exact Nat.pow_le_pow_right (by decide) (by omega)
    rw [cut_big s n d (by omega)]
    omega
theorem cut_le (s : Bool) (n d m : Nat) (h : n ≤ m * 2 ^ d) : Toward.even.cut s n d ≤ m := by
  have h1 := (cut_near s n d).1
  have hp := two_pos d
  rcases Nat.lt_or_ge m (Toward.even.cut s n d) with h2 | h2
  · exfalso
    by_cases hg : d ≤ n.log2 + 2
    · -- the quotient is at most m, and m itself only if nothing is left over
      rw [cut_gap s n d hg] at h2
      have hd := Nat.div_add_mod n (2 ^ d)
      have hm := Nat.mod_lt n hp
      have hq : n / 2 ^ d ≤ m := by
        apply Nat.div_le_of_le_mul; rw [Nat.mul_comm]; exact h
      rcases Nat.lt_or_ge (n / 2 ^ d) m with h3 | h3
      · have : ∀ b : Bool, b.toNat ≤ 1 := by decide
        have := this (decide (2 ^ d < 2 * (n % 2 ^ d)) || (2 ^ d == 2 * (n % 2 ^ d) && n / 2 ^ d % 2 == 1))
        omega
      · have h4 : n / 2 ^ d = m := by omega
        have h5 : n % 2 ^ d = 0 := by
          rw [h4, Nat.mul_comm] at hd
          omega
        rw [h5, h4] at h2
        have h6 : (2 ^ d == 2 * 0) = false := by simp
        simp [h6] at h2
    · rw [cut_big s n d (by omega)] at h2
      omega
  · exact h2
theorem le_cut (s : Bool) (n d m : Nat) (h : m * 2 ^ d ≤ n) : m ≤ Toward.even.cut s n d := by
  have hp := two_pos d
  by_cases hg : d ≤ n.log2 + 2
  · rw [cut_gap s n d hg]
    have : m ≤ n / 2 ^ d := (Nat.le_div_iff_mul_le hp).2 h
    omega
  · have h1 := lt_log n
    have h2 : 2 ^ (n.log2 + 1) ≤ 2 ^ d := Nat.pow_le_pow_right (by decide) (by omega)
    have h3 : m * 2 ^ d < 1 * 2 ^ d := by omega
    have h4 : m < 1 := Nat.lt_of_mul_lt_mul_right h3
    omega

/-! ### Words -/
theorem word_mod (f : Format) (s : Bool) (r : Nat) (h : r < f.signWeight) : f.word s r % f.signWeight = r := by
  unfold Format.word
  cases s
  · simp [Nat.mod_eq_of_lt h]
  · simp [Nat.mod_eq_of_lt h]
theorem word_neg (f : Format) (s : Bool) (r : Nat) (h : r < f.signWeight) : (f.word s r / f.signWeight % 2 == 1) = s := by
  have hp : 0 < f.signWeight := two_pos _
  unfold Format.word
  cases s
  · simp [Nat.div_eq_of_lt h]
  · simp only [if_true]
    rw [Nat.add_div_left _ hp, Nat.div_eq_of_lt h]; rfl
theorem read_word (f : Format) (s : Bool) (r : Nat) (h : r < f.signWeight) : f.read (f.word s r) =
    if r < f.binade then .number s r f.leastPlace
    else if r < f.infRung then .number s (f.binade + r % f.binade) (f.leastPlace + (r / f.binade - 1 : Nat))
    else if r = f.infRung then .infinity s else .nan s (r - f.infRung) := by
  unfold Format.read
  rw [word_mod f s r h, word_neg f s r h]

/-- The word b is a number with the sign s and u units of the least place. -/
def Num (f : Format) (b : Nat) (s : Bool) (u : Nat) : Prop := ∃ m e, f.read b = .number s m e ∧ f.leastPlace ≤ e ∧ u = m * 2 ^ (e - f.leastPlace).toNat

theorem num_word (f : Format) (s : Bool) (q k : Nat) (hk : k ≤ 2 * f.binade) (hq : q = 0 ∨ f.binade ≤ k) (hi : q * f.binade + k < f.infRung) : Num f (f.word s (q * f.binade + k)) s (k * 2 ^ q) := by
  have hb : 0 < f.binade := two_pos _
  have hr := read_word f s (q * f.binade + k) (Nat.lt_trans hi f.infRung_lt)
  by_cases h1 : q * f.binade + k < f.binade
  · rw [if_pos h1] at hr
    have hq0 : q = 0 := by
      rcases hq with h | h
      · exact h
      · omega
    subst hq0
    exact ⟨_, _, hr, Int.le_refl _, by simp⟩
  · rw [if_neg h1, if_pos hi] at hr
    refine ⟨_, _, hr, by omega, ?_⟩
    have hbk : f.binade ≤ k := by
      rcases hq with h | h
      · subst h; omega
      · exact h
    have e1 : (f.leastPlace + ((q * f.binade + k) / f.binade - 1 : Nat) - f.leastPlace).toNat = (q * f.binade + k) / f.binade - 1 := by omega
    rw [e1]
    rcases Nat.lt_or_ge k (2 * f.binade) with hk2 | hk2
    · have e2 : q * f.binade + k = (k - f.binade) + f.binade * (q + 1) := by rw [Nat.mul_add, Nat.mul_one, Nat.mul_comm f.binade q]; omega
      have hlt : k - f.binade < f.binade := by omega
      rw [e2, Nat.add_mul_mod_self_left, Nat.add_mul_div_left _ _ hb, Nat.mod_eq_of_lt hlt, Nat.div_eq_of_lt hlt]
      rw [show f.binade + (k - f.binade) = k by omega, show 0 + (q + 1) - 1 = q by omega]
    · have hk3 : k = 2 * f.binade := by omega
      have e2 : q * f.binade + k = 0 + f.binade * (q + 2) := by rw [Nat.mul_add, Nat.mul_comm f.binade q]; omega
      rw [e2, Nat.add_mul_mod_self_left, Nat.add_mul_div_left _ _ hb, Nat.zero_mod, Nat.zero_div, hk3]
      rw [show 0 + (q + 2) - 1 = q + 1 by omega, Nat.pow_succ, Nat.add_zero]
      rw [Nat.mul_comm 2 f.binade, Nat.mul_assoc, Nat.mul_comm 2]

theorem num_zero (f : Format) (s : Bool) (hf : 0 < f.infRung) : Num f (f.word s 0) s 0 := by
  have := num_word f s 0 0 (Nat.zero_le _) (.inl rfl) (by simpa using hf)
  simpa using this

/-- WHAT ROUNDING GIVES: place 'last' is the last that is kept, d digits are dropped (or none, and the number is shifted up by c). -/
theorem num_nearest (f : Format) (s : Bool) (mag : Nat) (place : Int) (hm : mag ≠ 0) (last : Int) (hlast : last = max (place + mag.log2 - f.fractionBits) f.leastPlace)
    (c d : Nat) (hc : c = (place - last).toNat) (hd : d = (last - place).toNat)
    (hi : (last - f.leastPlace).toNat * f.binade + Toward.even.cut s (mag * 2 ^ c) d < f.infRung) :
    Num f (f.nearest s mag place) s (Toward.even.cut s (mag * 2 ^ c) d * 2 ^ (last - f.leastPlace).toNat) := by
  have e : f.nearest s mag place = f.word s ((last - f.leastPlace).toNat * f.binade + Toward.even.cut s (mag * 2 ^ c) d) := by
    unfold Format.nearest
    rw [if_neg hm]
    simp only [shl, ← hlast, ← hc, ← hd]
    rw [Nat.min_eq_left (by omega)]
  rw [e]
  have hbin : f.binade = 2 ^ f.fractionBits := rfl
  have hlg := lt_log mag
  have hlo : 2 ^ mag.log2 ≤ mag := Nat.log2_self_le hm
  refine num_word f s _ _ ?_ ?_ hi
  · -- at most two binades
    apply cut_le
    have h1 : mag.log2 + 1 + c ≤ f.fractionBits + 1 + d := by omega
    have h2 : 2 ^ (mag.log2 + 1 + c) ≤ 2 ^ (f.fractionBits + 1 + d) := Nat.pow_le_pow_right (by decide) h1
    have h3 : mag * 2 ^ c ≤ 2 ^ (mag.log2 + 1) * 2 ^ c := Nat.mul_le_mul_right _ (Nat.le_of_lt hlg)
    rw [← Nat.pow_add] at h3
    rw [hbin, ← Nat.pow_succ', ← Nat.pow_add]
    exact Nat.le_trans h3 h2
  · by_cases hq : last = f.leastPlace
    · left; omega
    · right
      apply le_cut
      have h1 : f.fractionBits + d = mag.log2 + c := by omega
      rw [hbin, ← Nat.pow_add, h1, Nat.pow_add]
      exact Nat.mul_le_mul_right _ hlo

/-- Numbers below 2^cap units of the least place are finite. -/
def cap (f : Format) : Nat := f.fractionBits + (2 ^ f.exponentBits - 2)
theorem log_shift {n : Nat} (hn : n ≠ 0) (t : Nat) : (n * 2 ^ t).log2 = n.log2 + t := by
  apply (Nat.log2_eq_iff (Nat.mul_ne_zero hn (Nat.ne_of_gt (two_pos t)))).2
  constructor
  · rw [Nat.pow_add]; exact Nat.mul_le_mul_right _ (Nat.log2_self_le hn)
  · rw [show n.log2 + t + 1 = (n.log2 + 1) + t by omega, Nat.pow_add]; exact Nat.mul_lt_mul_of_pos_right (lt_log n) (two_pos t)
/-- EXACT ROUNDING: a number of at most one digit more than the fraction field's, however it is written, is kept as it is: n units, shifted up by t; v is its value in units of the least place. -/
theorem num_exact (f : Format) (s : Bool) (n t : Nat) (place : Int) (heb : 2 ≤ f.exponentBits) (hn : n < 2 ^ (f.fractionBits + 1)) (hp : f.leastPlace ≤ place + t) (v : Nat) (hv : v = n * 2 ^ (place + t - f.leastPlace).toNat)
    (hcap : v < 2 ^ cap f) : Num f (f.nearest s (n * 2 ^ t) place) s v := by
  have hbin : f.binade = 2 ^ f.fractionBits := rfl
  have hbp : 0 < f.binade := two_pos _
  have he4 : 2 ^ 2 ≤ 2 ^ f.exponentBits := Nat.pow_le_pow_right (by decide) heb
  have hinf : f.infRung = (2 ^ f.exponentBits - 1) * f.binade := rfl
  by_cases hn0 : n = 0
  · subst hn0
    have e : f.nearest s (0 * 2 ^ t) place = f.word s 0 := by unfold Format.nearest; rw [if_pos (by simp)]
    rw [e, hv, Nat.zero_mul]
    exact num_zero f s (by rw [hinf]; exact Nat.mul_pos (by omega) hbp)
  · have hm : n * 2 ^ t ≠ 0 := Nat.mul_ne_zero hn0 (Nat.ne_of_gt (two_pos t))
    have hlg := log_shift hn0 t
    have hl1 : n.log2 ≤ f.fractionBits := by
      have h1 : 2 ^ n.log2 ≤ n := Nat.log2_self_le hn0
      have h2 : 2 ^ n.log2 < 2 ^ (f.fractionBits + 1) := by omega
      have := (Nat.pow_lt_pow_iff_right (by decide : 1 < 2)).1 h2
      omega
    obtain ⟨last, hlast⟩ : ∃ last, last = max (place + (n * 2 ^ t).log2 - f.fractionBits) f.leastPlace := ⟨_, rfl⟩
    obtain ⟨c, hc⟩ : ∃ c, c = (place - last).toNat := ⟨_, rfl⟩
    obtain ⟨d, hd⟩ : ∃ d, d = (last - place).toNat := ⟨_, rfl⟩
    obtain ⟨g, hg⟩ : ∃ g, g = (place + t - last).toNat := ⟨_, rfl⟩
    obtain ⟨q, hq⟩ : ∃ q, q = (last - f.leastPlace).toNat := ⟨_, rfl⟩
    have hle : last ≤ place + t := by rw [hlast, hlg]; omega
    have hL : f.leastPlace ≤ last := by rw [hlast]; omega
    have hgd : t + c = g + d := by omega
    have hcut : Toward.even.cut s (n * 2 ^ t * 2 ^ c) d = n * 2 ^ g := by
      rw [Nat.mul_assoc, ← Nat.pow_add, hgd, Nat.pow_add, ← Nat.mul_assoc]
      exact cut_exact s _ d
    have hval : n * 2 ^ g * 2 ^ q = v := by
      rw [Nat.mul_assoc, ← Nat.pow_add, hv]
      congr 2
      omega
    have hkept : n * 2 ^ g < 2 * f.binade := by
      have h1 : n * 2 ^ g < 2 ^ (n.log2 + 1) * 2 ^ g := Nat.mul_lt_mul_of_pos_right (lt_log n) (two_pos g)
      rw [← Nat.pow_add] at h1
      have h2 : 2 ^ (n.log2 + 1 + g) ≤ 2 ^ (f.fractionBits + 1) := Nat.pow_le_pow_right (by decide) (by rw [hlg] at hlast; omega)
      rw [hbin, ← Nat.pow_succ']
      exact Nat.lt_of_lt_of_le h1 h2
    have hq2 : q + 2 ≤ 2 ^ f.exponentBits - 1 := by
      by_cases hq0 : q = 0
      · omega
      · have h1 : n.log2 + g = f.fractionBits := by rw [hlg] at hlast; omega
        have h2 : 2 ^ (f.fractionBits + q) ≤ v := by
          rw [← hval, Nat.pow_add, ← h1, Nat.pow_add]
          exact Nat.mul_le_mul_right _ (Nat.mul_le_mul_right _ (Nat.log2_self_le hn0))
        have h3 : 2 ^ (f.fractionBits + q) < 2 ^ cap f := Nat.lt_of_le_of_lt h2 hcap
        have h4 := (Nat.pow_lt_pow_iff_right (by decide : 1 < 2)).1 h3
        unfold cap at h4
        omega
    have hi : q * f.binade + n * 2 ^ g < f.infRung := by
      have h1 : q * f.binade + n * 2 ^ g < (q + 2) * f.binade := by rw [Nat.add_mul]; omega
      exact Nat.lt_of_lt_of_le h1 (by rw [hinf]; exact Nat.mul_le_mul_right _ hq2)
    have := num_nearest f s (n * 2 ^ t) place hm last hlast c d hc hd (by rw [hcut, ← hq]; exact hi)
    rw [hcut, ← hq, hval] at this
    exact this

/-! ### Comparing -/
def sg (s : Bool) (u : Nat) : Int := if s then -(u : Int) else u
theorem signed_sg (s : Bool) (m k : Nat) : signed s m k = sg s (m * 2 ^ k) := by unfold signed sg; rw [shl]
theorem cmp_scale (a b : Int) (k : Nat) : compare (a * 2 ^ k) (b * 2 ^ k) = compare a b := by
  have hp : (0 : Int) < 2 ^ k := Int.pow_pos (by decide)
  rcases Int.lt_trichotomy a b with h | h | h
  · rw [(Int.compare_eq_lt).2 h, (Int.compare_eq_lt).2 (Int.mul_lt_mul_of_pos_right h hp)]
  · subst h; simp
  · rw [(Int.compare_eq_gt).2 h, (Int.compare_eq_gt).2 (Int.mul_lt_mul_of_pos_right h hp)]
theorem sg_scale (s : Bool) (m k : Nat) : sg s (m * 2 ^ k) = sg s m * 2 ^ k := by
  unfold sg
  cases s <;> simp [Int.neg_mul]
theorem order_num {f : Format} {x y : Nat} {s t : Bool} {u v : Nat} (hx : Num f x s u) (hy : Num f y t v) : f.order x y = some (compare (sg s u) (sg t v)) := by
  obtain ⟨m, i, hx, hi, hu⟩ := hx
  obtain ⟨n, j, hy, hj, hv⟩ := hy
  unfold Format.order
  rw [hx, hy]
  simp only [Datum.order, signed_sg]
  congr 1
  rw [← cmp_scale (sg s (m * 2 ^ (i - min i j).toNat)) _ (min i j - f.leastPlace).toNat, ← sg_scale, ← sg_scale, Nat.mul_assoc, Nat.mul_assoc, ← Nat.pow_add, ← Nat.pow_add, hu, hv]
  congr 3 <;> congr 2 <;> omega

/-! ### Sums, products, whole numbers -/
/-- A whole number of units that has at most one digit more than the fraction field's, behind which stand zeros. -/
def Rep (f : Format) (w : Nat) : Prop := ∃ n k, w = n * 2 ^ k ∧ n < 2 ^ (f.fractionBits + 1)
theorem rep_zero (f : Format) : Rep f 0 := ⟨0, 0, by simp, two_pos _⟩
theorem rep_small {f : Format} {w : Nat} (h : w < 2 ^ (f.fractionBits + 1)) : Rep f w := ⟨w, 0, by simp, h⟩
theorem rep_mul {f : Format} {w : Nat} (h : Rep f w) (k : Nat) : Rep f (w * 2 ^ k) := by
  obtain ⟨n, j, rfl, hn⟩ := h
  exact ⟨n, j + k, by rw [Nat.mul_assoc, ← Nat.pow_add], hn⟩
/-- The kinds of floats that there are. -/
structure Fine (f : Format) : Prop where
  eb : 2 ≤ f.exponentBits
  neg : f.leastPlace ≤ 0
theorem fine32 : Fine single := ⟨by decide, by decide⟩
theorem fine64 : Fine double := ⟨by decide, by decide⟩

theorem num_of {f : Format} (hf : Fine f) (s : Bool) (a w : Nat) (place : Int) (h : a * 2 ^ (place - f.leastPlace).toNat = w * 2 ^ (f.leastPlace - place).toNat) (hr : Rep f w) (hcap : w < 2 ^ cap f) :
    Num f (f.nearest s a place) s w := by
  obtain ⟨n, k, hw, hn⟩ := hr
  rcases Int.le_total f.leastPlace place with hp | hp
  · obtain ⟨g, hg⟩ : ∃ g, g = (place - f.leastPlace).toNat := ⟨_, rfl⟩
    have h0 : (f.leastPlace - place).toNat = 0 := by omega
    rw [h0, Nat.pow_zero, Nat.mul_one, ← hg] at h
    rcases Nat.le_total g k with hgk | hgk
    · -- a is n, shifted
      have ha : a = n * 2 ^ (k - g) := by
        apply Nat.eq_of_mul_eq_mul_right (two_pos g)
        rw [h, hw, Nat.mul_assoc, ← Nat.pow_add]
        congr 2
        omega
      subst ha
      refine num_exact f s n (k - g) place hf.eb hn (by omega) w ?_ hcap
      rw [hw]
      congr 2
      omega
    · have ha : a ≤ n := by
        have h1 : a * 2 ^ (g - k) = n := by
          apply Nat.eq_of_mul_eq_mul_right (two_pos k)
          rw [Nat.mul_assoc, ← Nat.pow_add, show g - k + k = g by omega, h, hw]
        rw [← h1]
        exact Nat.le_mul_of_pos_right _ (two_pos _)
      have := num_exact f s a 0 place hf.eb (by omega) (by omega) w (by rw [← h, hg]; congr 2; omega) hcap
      simpa using this
  · have h0 : (place - f.leastPlace).toNat = 0 := by omega
    rw [h0, Nat.pow_zero, Nat.mul_one] at h
    have ha : a = n * 2 ^ (k + (f.leastPlace - place).toNat) := by rw [h, hw, Nat.mul_assoc, ← Nat.pow_add]
    subst ha
    refine num_exact f s n _ place hf.eb hn (by omega) w ?_ hcap
    rw [hw]
    congr 2
    omega

theorem num_read {f : Format} {b : Nat} {s : Bool} {u : Nat} (h : Num f b s u) : (f.read b).isNaN = false := by
  obtain ⟨m, e, h, _⟩ := h; rw [h]; rfl
theorem natAbs_sg (s : Bool) (u : Nat) : (sg s u).natAbs = u := by unfold sg; cases s <;> simp

/-- A sum that needs no rounding. -/
theorem add_num {f : Format} (hf : Fine f) {x y : Nat} {s t : Bool} {u v : Nat} (hx : Num f x s u) (hy : Num f y t v) (hr : Rep f (sg s u + sg t v).natAbs) (hcap : (sg s u + sg t v).natAbs < 2 ^ cap f) :
    ∃ r, f.add x y = some r ∧ Num f r (if sg s u + sg t v = 0 then s && t else decide (sg s u + sg t v < 0)) (sg s u + sg t v).natAbs := by
  obtain ⟨m, i, hx, hi, hu⟩ := hx
  obtain ⟨n, j, hy, hj, hv⟩ := hy
  unfold Format.add
  rw [hx, hy]
  simp only [Datum.sum, signed_sg, Option.map_some, Format.write]
  refine ⟨_, rfl, ?_⟩
  obtain ⟨g, hg⟩ : ∃ g, g = (min i j - f.leastPlace).toNat := ⟨_, rfl⟩
  have hp : (0 : Int) < 2 ^ g := Int.pow_pos (by decide)
  have e1 : sg s u = sg s (m * 2 ^ (i - min i j).toNat) * 2 ^ g := by
    rw [← sg_scale, Nat.mul_assoc, ← Nat.pow_add, hu]; congr 3; omega
  have e2 : sg t v = sg t (n * 2 ^ (j - min i j).toNat) * 2 ^ g := by
    rw [← sg_scale, Nat.mul_assoc, ← Nat.pow_add, hv]; congr 3; omega
  rw [e1, e2, ← Int.add_mul] at hr hcap ⊢
  generalize sg s (m * 2 ^ (i - min i j).toNat) + sg t (n * 2 ^ (j - min i j).toNat) = total at hr hcap ⊢
  have e3 : (total * 2 ^ g).natAbs = total.natAbs * 2 ^ g := by
    rw [Int.natAbs_mul, Int.natAbs_pow]; rfl
  have e4 : (total * 2 ^ g = 0) ↔ total = 0 := by
    constructor
    · intro h
      rcases Int.mul_eq_zero.1 h with h | h
      · exact h
      · omega
    · intro h; rw [h, Int.zero_mul]
  have e5 : (total * 2 ^ g < 0) ↔ total < 0 := by
    constructor
    · intro h
      rcases (by omega : total < 0 ∨ 0 ≤ total) with h1 | h1
      · exact h1
      · have := Int.mul_nonneg h1 (Int.le_of_lt hp); omega
    · intro h; exact Int.mul_neg_of_neg_of_pos h hp
  simp only [e4, e5]
  rw [e3] at hr hcap ⊢
  exact num_of hf _ _ _ _ (by rw [← hg, show (f.leastPlace - min i j).toNat = 0 by omega]; simp) hr hcap

theorem neg_num {f : Format} {y : Nat} {t : Bool} {v : Nat} (hy : Num f y t v) : ∃ m e, (f.read y).opposite = .number (!t) m e ∧ f.leastPlace ≤ e ∧ v = m * 2 ^ (e - f.leastPlace).toNat := by
  obtain ⟨m, e, h, h1, h2⟩ := hy
  exact ⟨m, e, by rw [h]; rfl, h1, h2⟩
theorem sg_not (t : Bool) (v : Nat) : sg (!t) v = - sg t v := by unfold sg; cases t <;> simp

/-- A difference that needs no rounding. -/
theorem sub_num {f : Format} (hf : Fine f) {x y : Nat} {s t : Bool} {u v : Nat} (hx : Num f x s u) (hy : Num f y t v) (hr : Rep f (sg s u - sg t v).natAbs) (hcap : (sg s u - sg t v).natAbs < 2 ^ cap f) :
    ∃ r, f.sub x y = some r ∧ Num f r (if sg s u - sg t v = 0 then s && !t else decide (sg s u - sg t v < 0)) (sg s u - sg t v).natAbs := by
  obtain ⟨m, i, hx, hi, hu⟩ := hx
  obtain ⟨n, j, hy, hj, hv⟩ := neg_num hy
  unfold Format.sub
  rw [hx, hy]
  simp only [Datum.sum, signed_sg, Option.map_some, Format.write]
  refine ⟨_, rfl, ?_⟩
  obtain ⟨g, hg⟩ : ∃ g, g = (min i j - f.leastPlace).toNat := ⟨_, rfl⟩
  have hp : (0 : Int) < 2 ^ g := Int.pow_pos (by decide)
  have e1 : sg s u = sg s (m * 2 ^ (i - min i j).toNat) * 2 ^ g := by
    rw [← sg_scale, Nat.mul_assoc, ← Nat.pow_add, hu]; congr 3; omega
  have e2 : - sg t v = sg (!t) (n * 2 ^ (j - min i j).toNat) * 2 ^ g := by
    rw [← sg_not, ← sg_scale, Nat.mul_assoc, ← Nat.pow_add, hv]; congr 3; omega
  have e0 : sg s u - sg t v = (sg s (m * 2 ^ (i - min i j).toNat) + sg (!t) (n * 2 ^ (j - min i j).toNat)) * 2 ^ g := by
    rw [Int.add_mul, ← e1, ← e2]; omega
  rw [e0] at hr hcap ⊢
  generalize sg s (m * 2 ^ (i - min i j).toNat) + sg (!t) (n * 2 ^ (j - min i j).toNat) = total at hr hcap ⊢
  have e3 : (total * 2 ^ g).natAbs = total.natAbs * 2 ^ g := by
    rw [Int.natAbs_mul, Int.natAbs_pow]; rfl
  have e4 : (total * 2 ^ g = 0) ↔ total = 0 := by
    constructor
    · intro h
      rcases Int.mul_eq_zero.1 h with h | h
      · exact h
      · omega
    · intro h; rw [h, Int.zero_mul]
  have e5 : (total * 2 ^ g < 0) ↔ total < 0 := by
    constructor
    · intro h
      rcases (by omega : total < 0 ∨ 0 ≤ total) with h1 | h1
      · exact h1
      · have := Int.mul_nonneg h1 (Int.le_of_lt hp); omega
    · intro h; exact Int.mul_neg_of_neg_of_pos h hp
  simp only [e4, e5]
  rw [e3] at hr hcap ⊢
  exact num_of hf _ _ _ _ (by rw [← hg, show (f.leastPlace - min i j).toNat = 0 by omega]; simp) hr hcap

/-- One, in units of the least place: 2 to this. -/
def unit (f : Format) : Nat := (-f.leastPlace).toNat

/-- A product that needs no rounding: w units, where u times v is w ones. -/
theorem mul_num {f : Format} (hf : Fine f) {x y : Nat} {s t : Bool} {u v : Nat} (hx : Num f x s u) (hy : Num f y t v) (w : Nat) (hw : u * v = w * 2 ^ unit f) (hr : Rep f w) (hcap : w < 2 ^ cap f) :
    ∃ r, f.mul x y = some r ∧ Num f r (s ^^ t) w := by
  obtain ⟨m, i, hx, hi, hu⟩ := hx
  obtain ⟨n, j, hy, hj, hv⟩ := hy
  unfold Format.mul
  rw [hx, hy]
  simp only [Datum.product, Option.map_some, Format.write]
  refine ⟨_, rfl, ?_⟩
  refine num_of hf _ _ _ _ ?_ hr hcap
  have hneg := hf.neg
  -- both sides, times what makes the places whole
  have h1 : m * n * 2 ^ ((i - f.leastPlace).toNat + (j - f.leastPlace).toNat) = w * 2 ^ unit f := by
    rw [← hw, hu, hv, Nat.pow_add]
    simp only [Nat.mul_assoc, Nat.mul_left_comm, Nat.mul_comm]
  unfold unit at h1
  rcases Int.le_total f.leastPlace (i + j) with hp | hp
  · rw [show (f.leastPlace - (i + j)).toNat = 0 by omega, Nat.pow_zero, Nat.mul_one]
    apply Nat.eq_of_mul_eq_mul_right (two_pos (-f.leastPlace).toNat)
    rw [← h1, Nat.mul_assoc, ← Nat.pow_add]
    congr 2
    omega
  · rw [show (i + j - f.leastPlace).toNat = 0 by omega, Nat.pow_zero, Nat.mul_one]
    apply Nat.eq_of_mul_eq_mul_right (two_pos ((i - f.leastPlace).toNat + (j - f.leastPlace).toNat))
    rw [h1, Nat.mul_assoc, ← Nat.pow_add]
    congr 2
    omega

/-- A whole number as a float. -/
theorem int_num {f : Format} (hf : Fine f) (s : Bool) (n : Nat) (hr : Rep f n) (hcap : n * 2 ^ unit f < 2 ^ cap f) : Num f (f.nearest s n 0) s (n * 2 ^ unit f) := by
  refine num_of hf s n _ 0 ?_ (rep_mul hr _) hcap
  have := hf.neg
  unfold unit
  rw [show (0 - f.leastPlace).toNat = (-f.leastPlace).toNat by omega, show (f.leastPlace - 0).toNat = 0 by omega]
  simp

/-- A float cut towards zero. -/
theorem toInt_num {f : Format} (hf : Fine f) {x : Nat} {s : Bool} {u : Nat} (hx : Num f x s u) : (f.read x).toInt .zero = some (sg s (u / 2 ^ unit f)) := by
  obtain ⟨m, i, hx, hi, hu⟩ := hx
  rw [hx]
  have hneg := hf.neg
  have hcut : Toward.zero.cut s (m <<< i.toNat) (-i).toNat = u / 2 ^ unit f := by
    have hz : ∀ a d : Nat, Toward.zero.cut s a d = a / 2 ^ d := by
      intro a d
      unfold Toward.cut
      dsimp only
      rw [Bool.toNat_false, Nat.add_zero, shl, Nat.one_mul]
      rcases Nat.le_total d (a.log2 + 2) with h | h
      · rw [Nat.min_eq_left h]
      · rw [Nat.min_eq_right h]
        have h1 := lt_log a
        have h2 : 2 ^ (a.log2 + 1) ≤ 2 ^ (a.log2 + 2) := Nat.pow_le_pow_right (by decide) (by omega)
        have h3 : 2 ^ (a.log2 + 2) ≤ 2 ^ d := Nat.pow_le_pow_right (by decide) h
        rw [Nat.div_eq_of_lt (by omega), Nat.div_eq_of_lt (by omega)]
    rw [hz, shl, hu]
    unfold unit
    rcases Int.le_total 0 i with h | h
    · rw [show (-i).toNat = 0 by omega, Nat.pow_zero, Nat.div_one, show (i - f.leastPlace).toNat = i.toNat + (-f.leastPlace).toNat by omega, Nat.pow_add, ← Nat.mul_assoc, Nat.mul_div_cancel _ (two_pos _)]
    · rw [show i.toNat = 0 by omega, Nat.pow_zero, Nat.mul_one, show (-f.leastPlace).toNat = (-i).toNat + (i - f.leastPlace).toNat by omega, Nat.pow_add, Nat.mul_div_mul_right _ _ (two_pos _)]
  simp only [Datum.toInt, Datum.integral, hcut, signed_sg, Nat.pow_zero, Nat.mul_one]

/-! ### What is no NaN -/
theorem nearest_ok (f : Format) (s : Bool) (mag : Nat) (place : Int) : (f.read (f.nearest s mag place)).isNaN = false := by
  have key : ∀ r, r ≤ f.infRung → (f.read (f.word s r)).isNaN = false := by
    intro r hr
    rw [read_word f s r (Nat.lt_of_le_of_lt hr f.infRung_lt)]
    split
    · rfl
    · split
      · rfl
      · rw [if_pos (by omega)]; rfl
  unfold Format.nearest
  split
  · exact key 0 (Nat.zero_le _)
  · exact key _ (Nat.min_le_right _ _)
theorem order_self {f : Format} {x : Nat} (h : (f.read x).isNaN = false) : f.order x x = some .eq := by
  unfold Format.order
  cases hx : f.read x with
  | number s m e => simp [Datum.order]
  | infinity s => simp [Datum.order]
  | nan s t => rw [hx] at h; cases h
theorem order_nan {f : Format} {x y : Nat} (h : (f.read x).isNaN = true ∨ (f.read y).isNaN = true) : f.order x y = none := by
  unfold Format.order
  rcases h with h | h
  · cases hx : f.read x with
    | nan s t => rfl
    | number s m e => rw [hx] at h; cases h
    | infinity s => rw [hx] at h; cases h
  · cases hy : f.read y with
    | nan s t => cases f.read x <;> rfl
    | number s m e => rw [hy] at h; cases h
    | infinity s => rw [hy] at h; cases h
/-- A quotient by a number that is not 0. -/
theorem div_some {f : Format} {x y : Nat} (hx : (f.read x).isNaN = false) {t : Bool} {n : Nat} {j : Int} (hy : f.read y = .number t n j) (hn : n ≠ 0) : ∃ r, f.div x y = some r ∧ (f.read r).isNaN = false := by
  unfold Format.div
  rw [hy]
  cases h : f.read x with
  | nan s t => rw [h] at hx; cases hx
  | infinity s =>
    refine ⟨_, rfl, ?_⟩
    show (f.read (f.word (s ^^ t) f.infRung)).isNaN = false
    rw [read_word f _ _ f.infRung_lt]
    have h1 : f.binade ≤ f.infRung ∨ f.infRung < f.binade := by omega
    split
    · rfl
    · rw [if_neg (by omega), if_pos rfl]; rfl
  | number s m i =>
    simp only [Datum.quotient, if_neg hn, Option.map_some, Format.write]
    exact ⟨_, rfl, nearest_ok _ _ _ _⟩
/-- A number by a zero. -/
theorem div_zero {f : Format} {x y : Nat} {s t : Bool} {m : Nat} {i j : Int} (hx : f.read x = .number s m i) (hm : m ≠ 0) (hy : f.read y = .number t 0 j) : ∃ r, f.div x y = some r := by
  unfold Format.div
  rw [hx, hy]
  simp only [Datum.quotient, if_true, if_neg hm, Option.map_some]
  exact ⟨_, rfl⟩
/-- What equals a zero is one. -/
theorem eq_zero {f : Format} {x y : Nat} {t : Bool} {j : Int} (hy : f.read y = .number t 0 j) (h : f.order x y = some .eq) : ∃ s i, f.read x = .number s 0 i := by
  unfold Format.order at h
  rw [hy] at h
  cases hx : f.read x with
  | nan s t => rw [hx] at h; simp [Datum.order] at h
  | infinity s => rw [hx] at h; cases s <;> simp [Datum.order] at h
  | number s m i =>
    rw [hx] at h
    simp only [Datum.order, signed_sg, Option.some.injEq, Nat.zero_mul] at h
    have h1 := Int.compare_eq_eq.1 h
    have h2 : sg t 0 = 0 := by unfold sg; cases t <;> rfl
    rw [h2] at h1
    have h3 : m * 2 ^ (i - min i j).toNat = 0 := by
      have := congrArg Int.natAbs h1
      rw [natAbs_sg] at this
      simpa using this
    have h4 : m = 0 := by
      rcases Nat.mul_eq_zero.1 h3 with h | h
      · exact h
      · exact absurd h (Nat.ne_of_gt (two_pos _))
    subst h4
    exact ⟨s, i, rfl⟩
end Go.Proofs.YtobpnoiienpipaaDoor.Flt

/-
  What is proved: plain facts on doubles: what rounding to the nearest whole number does to a word, and when the thousandths of a float are in range.
  Conditions: none beyond those that each fact names.
-/
namespace Go.Proofs.YtobpnoiienpipaaDoor.Flt
set_option linter.unusedVariables false
open Ieee

def B52 : Nat := 2 ^ 52
/-- The rung of the nearest whole number (of two, the one with the greater amount). -/
def rndRung (r : Nat) : Nat :=
  if r / 2 ^ 52 < 1022 then 0 else if r / 2 ^ 52 = 1022 then 1023 * 2 ^ 52
  else if r / 2 ^ 52 < 1075 then (r + 2 ^ (1074 - r / 2 ^ 52)) / 2 ^ (1075 - r / 2 ^ 52) * 2 ^ (1075 - r / 2 ^ 52) else r

theorem unit64 : unit double = 1074 := by decide
theorem bin64 : double.binade = 2 ^ 52 := rfl
theorem inf64 : double.infRung = 2047 * 2 ^ 52 := by decide +kernel
theorem sw64 : double.signWeight = 2 ^ 63 := rfl

/-- One, and a half, in units. -/
def E73 : Nat := 1073
theorem e73 : E73 = 1073 := rfl
def ONE : Nat := 2 ^ (E73 + 1)
def HALF : Nat := 2 ^ E73
theorem one_two : ONE = 2 * HALF := by unfold ONE HALF; rw [← Nat.pow_succ']
theorem half_pos : 0 < HALF := two_pos _
theorem one_unit : 2 ^ unit double = ONE := congrArg (fun n => 2 ^ n) (show unit double = E73 + 1 from unit64)

theorem pow_le {a b : Nat} (h : a ≤ b) : 2 ^ a ≤ 2 ^ b := Nat.pow_le_pow_right (by decide) h

theorem rung_parts (r : Nat) (h : 2 ^ 52 ≤ r) : ∃ q M, r = q * 2 ^ 52 + M ∧ 2 ^ 52 ≤ M ∧ M < 2 * 2 ^ 52 ∧ r / 2 ^ 52 = q + 1 := by
  refine ⟨r / 2 ^ 52 - 1, 2 ^ 52 + r % 2 ^ 52, ?_, ?_, ?_, ?_⟩ <;> omega
theorem num_parts (s : Bool) (q M : Nat) (h1 : 2 ^ 52 ≤ M) (h2 : M ≤ 2 * 2 ^ 52) (h3 : q * 2 ^ 52 + M < 2047 * 2 ^ 52) : Num double (double.word s (q * 2 ^ 52 + M)) s (M * 2 ^ q) :=
  num_word double s q M h2 (.inr h1) (by rw [inf64]; exact h3)
theorem num_small (s : Bool) (r : Nat) (h : r < 2 ^ 52) : Num double (double.word s r) s r := by
  have := num_word double s 0 r (by rw [bin64]; omega) (.inl rfl) (by rw [inf64]; omega)
  simpa using this

/-- What rounding gives, in units. -/
def rnd (u : Nat) : Nat := (u + HALF) / ONE
theorem rnd_num (r : Nat) (h : r / 2 ^ 52 < 1075) : ∃ u, ∀ s, Num double (double.word s r) s u ∧ Num double (double.word s (rndRung r)) s (rnd u * ONE) := by
  have hone : 0 < ONE := two_pos _
  rcases Nat.lt_or_ge r (2 ^ 52) with h0 | h0
  · refine ⟨r, fun s => ⟨num_small s r h0, ?_⟩⟩
    have e1 : rndRung r = 0 := by unfold rndRung; rw [if_pos (by omega)]
    have hb : 2 ^ 52 ≤ HALF := pow_le (by have := e73; omega)
    have e2 : rnd r = 0 := by unfold rnd; rw [Nat.div_eq_of_lt (by rw [one_two]; omega)]
    rw [e1, e2, Nat.zero_mul]
    exact num_zero double s (by rw [inf64]; decide)
  · obtain ⟨q, M, hr, hM1, hM2, hq⟩ := rung_parts r h0
    rw [hq] at h
    refine ⟨M * 2 ^ q, fun s => ⟨by rw [hr]; exact num_parts s q M hM1 (by omega) (by omega), ?_⟩⟩
    rcases Nat.lt_or_ge q 1021 with hlo | hlo
    · have e1 : rndRung r = 0 := by unfold rndRung; rw [hq, if_pos (by omega)]
      have hlt : M * 2 ^ q < HALF := by
        have h1 : M * 2 ^ q < 2 ^ 53 * 2 ^ q := Nat.mul_lt_mul_of_pos_right (by omega) (two_pos q)
        rw [← Nat.pow_add] at h1
        exact Nat.lt_of_lt_of_le h1 (pow_le (by have := e73; omega))
      have e2 : rnd (M * 2 ^ q) = 0 := by unfold rnd; rw [Nat.div_eq_of_lt (by rw [one_two]; omega)]
      rw [e1, e2, Nat.zero_mul]
      exact num_zero double s (by rw [inf64]; decide)
    · rcases Nat.lt_or_ge q 1022 with hm | hm
      · have hq2 : q = 1021 := by omega
        have e1 : rndRung r = (q + 1) * 2 ^ 52 + 2 ^ 52 := by unfold rndRung; rw [hq, if_neg (by omega), if_pos (by omega), hq2]
        have hE : HALF = 2 ^ 52 * 2 ^ q := by unfold HALF; rw [← Nat.pow_add]; exact congrArg (fun n => 2 ^ n) (by have := e73; omega)
        have h1 : HALF ≤ M * 2 ^ q := by rw [hE]; exact Nat.mul_le_mul_right _ hM1
        have h2 : M * 2 ^ q < 2 * HALF := by rw [hE, ← Nat.mul_assoc]; exact Nat.mul_lt_mul_of_pos_right hM2 (two_pos _)
        have e2 : rnd (M * 2 ^ q) = 1 := by
          unfold rnd
          rw [one_two]
          apply Nat.div_eq_of_lt_le <;> omega
        rw [e1, e2, Nat.one_mul]
        have e4 : ONE = 2 ^ 52 * 2 ^ (q + 1) := by rw [one_two, hE, Nat.pow_succ, ← Nat.mul_assoc]; omega
        rw [e4]
        exact num_parts s (q + 1) (2 ^ 52) (Nat.le_refl _) (by omega) (by omega)
      · obtain ⟨j, hj⟩ : ∃ j, j = 1074 - q := ⟨_, rfl⟩
        have hj1 : 1 ≤ j := by omega
        have hj2 : j ≤ 52 := by omega
        have hpj := two_pos j
        have h52 : 2 ^ (52 - j) * 2 ^ j = 2 ^ 52 := by rw [← Nat.pow_add]; congr 1; omega
        have hhj : 2 * 2 ^ (j - 1) = 2 ^ j := by rw [← Nat.pow_succ']; congr 1; omega
        obtain ⟨X, hX⟩ : ∃ X, X = (M + 2 ^ (j - 1)) / 2 ^ j := ⟨_, rfl⟩
        have e1 : rndRung r = q * 2 ^ 52 + X * 2 ^ j := by
          unfold rndRung
          rw [hq, if_neg (by omega), if_neg (by omega), if_pos (by omega), show 1074 - (q + 1) = j - 1 by omega, show 1075 - (q + 1) = j by omega, hr]
          have e3 : q * 2 ^ 52 + M + 2 ^ (j - 1) = (M + 2 ^ (j - 1)) + (q * 2 ^ (52 - j)) * 2 ^ j := by rw [Nat.mul_assoc, h52]; omega
          rw [e3, Nat.add_mul_div_right _ _ hpj, Nat.add_mul, Nat.mul_assoc q, h52, hX]
          omega
        have hX1 : 2 ^ (52 - j) ≤ X := by
          rw [hX]
          apply (Nat.le_div_iff_mul_le hpj).2
          rw [h52]; omega
        have hX2 : X ≤ 2 * 2 ^ (52 - j) := by
          rw [hX]
          apply Nat.le_of_lt_succ
          apply (Nat.div_lt_iff_lt_mul hpj).2
          rw [Nat.succ_mul, Nat.mul_assoc, h52]
          omega
        have hk1 : 2 ^ 52 ≤ X * 2 ^ j := by rw [← h52]; exact Nat.mul_le_mul_right _ hX1
        have hk2 : X * 2 ^ j ≤ 2 * 2 ^ 52 := by rw [← h52, ← Nat.mul_assoc]; exact Nat.mul_le_mul_right _ hX2
        have e2 : rnd (M * 2 ^ q) = X := by
          unfold rnd ONE HALF
          have a1 : (2 : Nat) ^ E73 = 2 ^ (j - 1) * 2 ^ q := by rw [← Nat.pow_add]; exact congrArg (fun n => 2 ^ n) (by have := e73; omega)
          have a2 : (2 : Nat) ^ (E73 + 1) = 2 ^ j * 2 ^ q := by rw [← Nat.pow_add]; exact congrArg (fun n => 2 ^ n) (by have := e73; omega)
          rw [a1, a2, ← Nat.add_mul, Nat.mul_div_mul_right _ _ (two_pos q), hX]
        rw [e1, e2]
        have := num_parts s q (X * 2 ^ j) hk1 hk2 (by omega)
        rw [Nat.mul_assoc, ← Nat.pow_add, show j + q = E73 + 1 from by have := e73; omega] at this
        exact this

/-- The thousandths that a float (times 1000) stands for. -/
def toFix (p : Nat) : Option Int := match double.read p with
  | .number s m e => if m * 2 ^ (e - double.leastPlace).toNat < 2000000001 * HALF then some (sg s (rnd (m * 2 ^ (e - double.leastPlace).toNat))) else none
  | _ => none
theorem toFix_num {p : Nat} {s : Bool} {u : Nat} (h : Num double p s u) : toFix p = if u < 2000000001 * HALF then some (sg s (rnd u)) else none := by
  obtain ⟨m, e, h, _, rfl⟩ := h
  unfold toFix
  rw [h]

/-- A word, taken apart. -/
theorem word_parts (p : Nat) (h : p < 2 ^ 64) : ∃ s r, p = double.word s r ∧ r < 2 ^ 63 := by
  rcases Nat.lt_or_ge p (2 ^ 63) with h1 | h1
  · exact ⟨false, p, by unfold Format.word; simp, h1⟩
  · exact ⟨true, p - 2 ^ 63, by unfold Format.word; rw [sw64]; simp; omega, by omega⟩
/-- A great number is beyond every bound. -/
theorem big_num (s : Bool) (r : Nat) (h : 1075 ≤ r / 2 ^ 52) (h1 : r < 2047 * 2 ^ 52) : ∃ u, Num double (double.word s r) s u ∧ 2000000001 * HALF ≤ u := by
  obtain ⟨q, M, hr, hM1, hM2, hq⟩ := rung_parts r (by omega)
  refine ⟨M * 2 ^ q, by rw [hr]; exact num_parts s q M hM1 (by omega) (by omega), ?_⟩
  have h2 : 2 ^ 52 * HALF ≤ M * 2 ^ q := Nat.mul_le_mul hM1 (pow_le (by have := e73; omega))
  have h3 : 2000000001 * HALF ≤ 2 ^ 52 * HALF := Nat.mul_le_mul_right _ (by omega)
  exact Nat.le_trans h3 h2

/-! ### Bits -/
theorem word_val (s : Bool) (r : Nat) : double.word s r = s.toNat * 2 ^ 63 + r := by unfold Format.word; rw [sw64]; cases s <;> simp
theorem word_lt64 (s : Bool) (r : Nat) (h : r < 2 ^ 63) : double.word s r < 18446744073709551616 := by rw [word_val]; cases s <;> simp <;> omega
theorem bit_sign (s : Bool) (r : Nat) (h : r < 2 ^ 63) : bits BinOp.and IntKind.u64 (double.word s r : Nat) 9223372036854775808 = ((double.word s 0 : Nat) : Int) := by
  have h1 := u64_and_nat (double.word s r) 9223372036854775808 (word_lt64 s r h) (by decide)
  rw [show ((9223372036854775808 : Nat) : Int) = 9223372036854775808 from rfl] at h1
  rw [h1, show (9223372036854775808 : Nat) = 2 ^ 63 from rfl]
  congr 1
  have h2 : (double.word s r).testBit 63 = s := by
    rw [Nat.testBit_eq_decide_div_mod_eq, word_val]
    cases s
    · simp; omega
    · simp; omega
  apply Nat.eq_of_testBit_eq
  intro i
  rw [Nat.testBit_and, Nat.testBit_two_pow, word_val s 0, Nat.add_zero]
  by_cases hi : 63 = i
  · subst hi
    rw [h2]
    cases s
    · simp
    · simp only [Bool.toNat_true, Nat.one_mul, Bool.true_and]
      rw [Nat.testBit_two_pow]
      simp
  · cases s
    · simp [hi]
    · simp only [hi, decide_false, Bool.and_false, Bool.toNat_true, Nat.one_mul]
      rw [Nat.testBit_two_pow]
      simp [hi]
theorem bit_exp (s : Bool) (r : Nat) (h : r < 2 ^ 63) : bits BinOp.and IntKind.u64 ((double.word s r : Nat) / 4503599627370496) 2047 = ((r / 2 ^ 52 : Nat) : Int) := by
  have hlt := word_lt64 s r h
  have h1 := u64_and_nat (double.word s r / 4503599627370496) 2047 (by omega) (by decide)
  rw [show ((double.word s r / 4503599627370496 : Nat) : Int) = (double.word s r : Nat) / 4503599627370496 by omega, show ((2047 : Nat) : Int) = 2047 from rfl] at h1
  rw [h1, show (2047 : Nat) = 2 ^ 11 - 1 from rfl, Nat.and_two_pow_sub_one_eq_mod]
  congr 1
  rw [word_val]
  cases s <;> simp <;> omega
theorem bit_one (s : Bool) : bits BinOp.or IntKind.u64 (double.word s 0 : Nat) 4607182418800017408 = ((double.word s (1023 * 2 ^ 52) : Nat) : Int) := by
  cases s <;> decide +kernel
theorem bit_abs (s : Bool) (r : Nat) (h : r < 2 ^ 63) : bits BinOp.andNot IntKind.u64 (double.word s r : Nat) 9223372036854775808 = ((r : Nat) : Int) := by
  have h1 := u64_andNot_nat (double.word s r) 9223372036854775808 (word_lt64 s r h) (by decide)
  rw [show ((9223372036854775808 : Nat) : Int) = 9223372036854775808 from rfl] at h1
  rw [h1, show (18446744073709551615 - 9223372036854775808 : Nat) = 2 ^ 63 - 1 from rfl, Nat.and_two_pow_sub_one_eq_mod]
  congr 1
  rw [word_val]
  cases s <;> simp <;> omega
theorem clear_low (a k : Nat) (ha : a < 18446744073709551616) (hk : k ≤ 63) : a &&& (18446744073709551615 - (2 ^ k - 1)) = a / 2 ^ k * 2 ^ k := by
  apply Nat.eq_of_testBit_eq
  intro i
  have hkp := two_pos k
  have hk2 : 2 ^ k ≤ 2 ^ 63 := pow_le hk
  rw [Nat.testBit_and, show 18446744073709551615 - (2 ^ k - 1) = 2 ^ 64 - ((2 ^ k - 1) + 1) by omega, Nat.testBit_two_pow_sub_succ (by omega), Nat.testBit_two_pow_sub_one, Nat.testBit_mul_two_pow, Nat.testBit_div_two_pow]
  by_cases h1 : i < k
  · have h2 : ¬ k ≤ i := by omega
    simp [h1, h2]
  · have h2 : k ≤ i := by omega
    simp only [h1, h2, decide_false, decide_true, Bool.not_false, Bool.and_true, Bool.true_and, ge_iff_le]
    rw [show i - k + k = i by omega]
    by_cases h3 : i < 64
    · simp [h3]
    · have h4 : a.testBit i = false := Nat.testBit_lt_two_pow (Nat.lt_of_lt_of_le ha (pow_le (a := 64) (by omega)))
      simp [h4]
theorem sh_half : ∀ x : Fin 52, (2251799813685248 : Int) / 2 ^ x.val = ((2 ^ (51 - x.val) : Nat) : Int) := by decide +kernel
theorem sh_mask : ∀ x : Fin 52, (4503599627370495 : Int) / 2 ^ x.val = ((2 ^ (52 - x.val) - 1 : Nat) : Int) := by decide +kernel
/-- The bits of the rounded word, as Go's text makes them. -/
theorem bit_mid (s : Bool) (r : Nat) (h : r < 2 ^ 63) (h1 : 1023 ≤ r / 2 ^ 52) (h2 : r / 2 ^ 52 < 1075) :
    bits BinOp.andNot IntKind.u64 (IntKind.u64.wrap ((double.word s r : Nat) + 2251799813685248 / 2 ^ (r / 2 ^ 52 - 1023))) (4503599627370495 / 2 ^ (r / 2 ^ 52 - 1023)) = ((double.word s (rndRung r) : Nat) : Int) := by
  generalize hE : r / 2 ^ 52 = E at h1 h2
  have a1 := sh_half ⟨E - 1023, by omega⟩
  have a2 := sh_mask ⟨E - 1023, by omega⟩
  simp only at a1 a2
  rw [a1, a2, show 51 - (E - 1023) = 1074 - E by omega, show 52 - (E - 1023) = 1075 - E by omega]
  obtain ⟨j, hj⟩ : ∃ j, j = 1075 - E := ⟨_, rfl⟩
  have hj52 : j ≤ 52 := by omega
  rw [show 1074 - E = j - 1 by omega, ← hj]
  have hh : 2 ^ (j - 1) ≤ 2 ^ 51 := pow_le (by omega)
  have hr2 : r < 1075 * 2 ^ 52 := by omega
  have hw := word_val s r
  have hlt : double.word s r + 2 ^ (j - 1) < 18446744073709551616 := by rw [hw]; cases s <;> simp <;> omega
  have hwrap : IntKind.u64.wrap ((double.word s r : Nat) + ((2 ^ (j - 1) : Nat) : Int)) = ((double.word s r + 2 ^ (j - 1) : Nat) : Int) := by
    rw [← Int.natCast_add]
    have hu : ∀ x : Int, IntKind.u64.wrap x = x % 18446744073709551616 := fun x => by simp [IntKind.wrap, IntKind.bits, IntKind.signed]
    rw [hu]
    exact Int.emod_eq_of_lt (Int.natCast_nonneg _) (Int.ofNat_lt.2 hlt)
  have hp := two_pos j
  have hp2 : 2 ^ j ≤ 2 ^ 52 := pow_le hj52
  rw [hwrap, u64_andNot_nat _ _ hlt (by omega), clear_low _ _ hlt (by omega)]
  congr 1
  have e1 : rndRung r = (r + 2 ^ (j - 1)) / 2 ^ j * 2 ^ j := by
    unfold rndRung
    rw [hE, if_neg (by omega), if_neg (by omega), if_pos h2, show 1074 - E = j - 1 by omega, ← hj]
  have h63 : 2 ^ (63 - j) * 2 ^ j = 2 ^ 63 := by rw [← Nat.pow_add]; congr 1; omega
  rw [e1, hw, word_val, Nat.add_assoc, Nat.add_comm (s.toNat * 2 ^ 63), ← h63, ← Nat.mul_assoc, Nat.add_mul_div_right _ _ hp, Nat.add_mul]
  omega

/-! ### Constants, and what is left over -/
theorem num_halves (b : Nat) (s : Bool) (k j : Nat) (h : double.read b = .number s (k * 2 ^ j) (-((j : Int) + 1))) (hj : j ≤ 1073) : Num double b s (k * HALF) := by
  have hL : double.leastPlace = -1074 := by decide
  refine ⟨_, _, h, by omega, ?_⟩
  unfold HALF
  rw [Nat.mul_assoc, ← Nat.pow_add]
  exact congrArg (fun n => k * 2 ^ n) (by have := e73; omega)
theorem c_max : Num double 4741671816366391296 false (2000000000 * HALF) := num_halves _ _ _ 22 (by decide +kernel) (by omega)
theorem c_hi : Num double 4741671816370585600 false (2000000001 * HALF) := num_halves _ _ _ 22 (by decide +kernel) (by omega)
theorem c_lo : Num double 13965043853225361408 true (2000000001 * HALF) := num_halves _ _ _ 22 (by decide +kernel) (by omega)
theorem c_half : Num double 4602678819172646912 false (1 * HALF) := num_halves _ _ _ 52 (by decide +kernel) (by omega)
theorem c_neg : Num double 13826050856027422720 true (1 * HALF) := num_halves _ _ _ 52 (by decide +kernel) (by omega)

theorem read_bound {f : Format} {b : Nat} {s : Bool} {m : Nat} {e : Int} (h : f.read b = .number s m e) : m < 2 ^ (f.fractionBits + 1) := by
  have hb : 0 < f.binade := two_pos _
  have h2 : 2 ^ (f.fractionBits + 1) = 2 * f.binade := Nat.pow_succ'
  unfold Format.read at h
  simp only at h
  split at h
  · simp only [Datum.number.injEq] at h; omega
  · split at h
    · simp only [Datum.number.injEq] at h
      have := Nat.mod_lt (b % f.signWeight) hb
      omega
    · split at h <;> cases h
theorem rep_num {f : Format} {b : Nat} {s : Bool} {u : Nat} (h : Num f b s u) : Rep f u := by
  obtain ⟨m, e, h, _, rfl⟩ := h
  exact ⟨m, _, rfl, read_bound h⟩
theorem rep_mod {f : Format} {u : Nat} (h : Rep f u) (t : Nat) : Rep f (u % 2 ^ t) := by
  obtain ⟨n, k, rfl, hn⟩ := h
  rcases Nat.le_total t k with hk | hk
  · have : n * 2 ^ k % 2 ^ t = 0 := by
      rw [show k = (k - t) + t by omega, Nat.pow_add, ← Nat.mul_assoc, Nat.mul_mod_left]
    rw [this]; exact rep_zero f
  · refine ⟨n % 2 ^ (t - k), k, ?_, ?_⟩
    · conv => lhs; rw [show t = (t - k) + k by omega, Nat.pow_add]
      rw [Nat.mul_mod_mul_right]
    · exact Nat.lt_of_le_of_lt (Nat.mod_le _ _) hn
theorem sg_self (T : Int) (b : Bool) : sg (if T = 0 then b else decide (T < 0)) T.natAbs = T := by
  unfold sg
  by_cases h : T = 0
  · subst h; simp
  · rw [if_neg h]
    by_cases h2 : T < 0
    · simp [h2]; omega
    · simp [h2]; omega
theorem cmp_lt {a b : Int} (h : a < b) : compare a b = .lt := Int.compare_eq_lt.2 h
theorem cmp_gt {a b : Int} (h : b < a) : compare a b = .gt := Int.compare_eq_gt.2 h
theorem cmp_eq {a b : Int} (h : a = b) : compare a b = .eq := Int.compare_eq_eq.2 h
theorem rnd_parts (u : Nat) : rnd u = u / ONE + (if u % ONE < HALF then 0 else 1) := by
  have ho := one_two
  have hp := half_pos
  have hd := Nat.div_add_mod u ONE
  have hm := Nat.mod_lt u (show 0 < ONE by omega)
  unfold rnd
  generalize u / ONE = q at *
  generalize u % ONE = r at *
  have hc : ONE * q = q * ONE := Nat.mul_comm _ _
  by_cases h : r < HALF
  · rw [if_pos h, Nat.add_zero]
    apply Nat.div_eq_of_lt_le
    · omega
    · rw [Nat.succ_mul]; omega
  · rw [if_neg h]
    apply Nat.div_eq_of_lt_le
    · rw [Nat.add_mul]; omega
    · rw [Nat.succ_mul, Nat.add_mul]; omega
theorem rnd_le {u : Nat} (h : u < 2000000001 * HALF) : rnd u ≤ 1000000000 := by
  have ho := one_two
  unfold rnd
  apply Nat.le_of_lt_succ
  apply (Nat.div_lt_iff_lt_mul (by have := half_pos; omega)).2
  rw [ho]; omega
theorem rnd_gt {u : Nat} (h : ¬ u < 2000000001 * HALF) : 1000000001 ≤ rnd u := by
  have ho := one_two
  unfold rnd
  apply (Nat.le_div_iff_mul_le (by have := half_pos; omega)).2
  rw [ho]; omega

theorem whole_sg (s : Bool) (q one : Nat) : sg (decide (sg s q < 0)) (q * one) = sg s (q * one) := by
  by_cases hq0 : q = 0
  · subst hq0
    rw [Nat.zero_mul]
    cases s <;> rfl
  · have hb : decide (sg s q < 0) = s := by
      cases s
      · show decide ((q : Int) < 0) = false
        simp
      · show decide (-(q : Int) < 0) = true
        simp; omega
    rw [hb]
theorem left_core (p : Nat) (s : Bool) (u one half C : Nat) (hp : Num double p s u) (hu : u < 2000000001 * half) (ho : one = 2 * half) (hh : 0 < half) (hunit : 2 ^ unit double = one) (hcapO : one * 2000000000 < 2 ^ C) (hC : C = cap double)
    (hrep : Rep double (u % one)) (ch : Num double 4602678819172646912 false half) (cn : Num double 13826050856027422720 true half) :
    ∃ f, double.sub p (double.nearest (decide (sg s (u / one) < 0)) (u / one) 0) = some f ∧
      double.order f 4602678819172646912 = some (compare (sg s (u % one)) (half : Int)) ∧ double.order f 13826050856027422720 = some (compare (sg s (u % one)) (-(half : Int))) := by
  have hd := Nat.div_add_mod u one
  have hm := Nat.mod_lt u (show 0 < one by omega)
  have hq : u / one ≤ 1000000000 := by
    apply Nat.le_of_lt_succ
    apply (Nat.div_lt_iff_lt_mul (by omega)).2
    rw [ho]; omega
  generalize u / one = q at *
  generalize u % one = r at *
  have hc : one * q = q * one := Nat.mul_comm _ _
  have hqone : q * one ≤ 2000000000 * one := Nat.mul_le_mul_right _ (by omega)
  have h53 : q < 2 ^ (double.fractionBits + 1) := by
    have h54 : 2 ^ (double.fractionBits + 1) = 9007199254740992 := by decide
    omega
  have hint := int_num fine64 (decide (sg s q < 0)) q (rep_small h53) (by rw [hunit, ← hC]; omega)
  rw [hunit] at hint
  have hT : sg s u - sg (decide (sg s q < 0)) (q * one) = sg s r := by
    rw [whole_sg]
    have hu2 : u = q * one + r := by omega
    generalize q * one = Z at hu2
    rw [hu2]
    cases s
    · show ((Z + r : Nat) : Int) - (Z : Int) = (r : Int)
      omega
    · show -((Z + r : Nat) : Int) - -(Z : Int) = -(r : Int)
      omega
  obtain ⟨f, hf, hnum⟩ := sub_num fine64 hp hint (by rw [hT, natAbs_sg]; exact hrep) (by rw [hT, natAbs_sg, ← hC]; omega)
  refine ⟨f, hf, ?_, ?_⟩
  · have := order_num hnum ch
    rw [sg_self, hT] at this
    exact this
  · have := order_num hnum cn
    rw [sg_self, hT] at this
    exact this
theorem cap64 : cap double = 2098 := by decide
theorem one_cap (C : Nat) (hC : C = cap double) : ONE * 2000000000 < 2 ^ C := by
  have h1 : ONE * 2000000000 < ONE * 2 ^ 31 := Nat.mul_lt_mul_of_pos_left (by decide) (two_pos _)
  have h2 : ONE * 2 ^ 31 = 2 ^ (E73 + 1 + 31) := by unfold ONE; rw [← Nat.pow_add]
  have hle : E73 + 1 + 31 ≤ C := by
    have h3 := cap64
    have := e73
    omega
  rw [h2] at h1
  exact Nat.lt_of_lt_of_le h1 (pow_le hle)
theorem c_half1 : Num double 4602678819172646912 false HALF := by have := c_half; rwa [Nat.one_mul] at this
theorem c_neg1 : Num double 13826050856027422720 true HALF := by have := c_neg; rwa [Nat.one_mul] at this
/-- What the whole part leaves over, and how it stands to a half. -/
theorem left_over (p : Nat) (s : Bool) (u : Nat) (hp : Num double p s u) (hu : u < 2000000001 * HALF) :
    ∃ f, double.sub p (double.nearest (decide (sg s (u / ONE) < 0)) (u / ONE) 0) = some f ∧
      double.order f 4602678819172646912 = some (compare (sg s (u % ONE)) (HALF : Int)) ∧ double.order f 13826050856027422720 = some (compare (sg s (u % ONE)) (-(HALF : Int))) :=
  left_core p s u ONE HALF (cap double) hp hu one_two half_pos one_unit (one_cap _ rfl) rfl (rep_mod (rep_num hp) (E73 + 1)) c_half1 c_neg1
end Go.Proofs.YtobpnoiienpipaaDoor.Flt

/-
  What is proved: facts about singles: a number of at most 256; its product with 1, its negative, its sum with another, half of it, its double.
  Conditions: those that each fact names.
-/

namespace Go.Proofs.YtobpnoiienpipaaDoor.Flt
set_option linter.unusedVariables false
open Ieee

theorem unit32 : unit single = 149 := by decide
theorem bin32 : single.binade = 2 ^ 23 := rfl
theorem inf32 : single.infRung = 255 * 2 ^ 23 := by decide +kernel
theorem sw32 : single.signWeight = 2 ^ 31 := rfl
theorem cap32 : cap single = 277 := by decide
theorem place32 : single.leastPlace = -149 := by decide
theorem plc64 : double.leastPlace = -1074 := by decide
theorem frc64 : double.fractionBits = 52 := rfl
theorem frac32 : single.fractionBits = 23 := rfl

theorem word_parts32 (p : Nat) (h : p < 2 ^ 32) : ∃ s r, p = single.word s r ∧ r < 2 ^ 31 := by
  refine ⟨decide (2 ^ 31 ≤ p), p % 2 ^ 31, ?_, Nat.mod_lt _ (by decide)⟩
  unfold Format.word
  rw [sw32]
  by_cases h1 : 2 ^ 31 ≤ p
  · rw [decide_eq_true h1, if_pos rfl]; omega
  · rw [decide_eq_false h1, if_neg (by simp)]; omega
theorem word_lt32 (s : Bool) (r : Nat) (h : r < 2 ^ 31) : single.word s r < 2 ^ 32 := by
  unfold Format.word; rw [sw32]; cases s <;> simp <;> omega

theorem xor_hi (r : Nat) (h : r < 2 ^ 31) : r ^^^ 2 ^ 31 = 2 ^ 31 + r := by
  have e := Nat.two_pow_add_eq_or_of_lt h 1
  rw [Nat.mul_one] at e
  rw [e]
  apply Nat.eq_of_testBit_eq
  intro i
  rw [Nat.testBit_xor, Nat.testBit_or, Nat.testBit_two_pow]
  by_cases hi : 31 = i
  · subst hi
    rw [Nat.testBit_lt_two_pow h]; simp
  · rw [decide_eq_false hi]; simp
theorem neg_word32 (s : Bool) (r : Nat) (h : r < 2 ^ 31) : Op.negFloat .f32 (single.word s r) = single.word (!s) r := by
  show (single.word s r) ^^^ 2 ^ 31 = _
  unfold Format.word
  rw [sw32]
  cases s
  · simp only [Bool.false_eq_true, if_false, Bool.not_false, if_true]; exact xor_hi r h
  · simp only [Bool.not_true, if_true, Bool.false_eq_true, if_false]
    rw [← xor_hi r h, Nat.xor_assoc, Nat.xor_self, Nat.xor_zero]
theorem neg_neg32 (x : Nat) : Op.negFloat .f32 (Op.negFloat .f32 x) = x := by
  show x ^^^ 2 ^ 31 ^^^ 2 ^ 31 = x
  rw [Nat.xor_assoc, Nat.xor_self, Nat.xor_zero]
theorem neg_lt32 {x : Nat} (h : x < 2 ^ 32) : Op.negFloat .f32 x < 2 ^ 32 := by
  obtain ⟨s, r, rfl, hr⟩ := word_parts32 x h
  rw [neg_word32 s r hr]; exact word_lt32 _ _ hr

/-- The parts of a number. -/
theorem read_num {f : Format} {b : Nat} {s : Bool} {m : Nat} {e : Int} (h : f.read b = .number s m e) : Num f b s (m * 2 ^ (e - f.leastPlace).toNat) := by
  refine ⟨m, e, h, ?_, rfl⟩
  unfold Format.read at h
  dsimp only at h
  split at h
  · injection h with h1 h2 h3; omega
  · split at h
    · injection h with h1 h2 h3; omega
    · split at h <;> cases h
theorem num_neg32 {x : Nat} {s : Bool} {u : Nat} (hx : x < 2 ^ 32) (h : Num single x s u) : Num single (Op.negFloat .f32 x) (!s) u := by
  obtain ⟨t, r, rfl, hr⟩ := word_parts32 x hx
  rw [neg_word32 t r hr]
  obtain ⟨m, e, h1, h2, h3⟩ := h
  have hr1 : r < single.signWeight := hr
  rw [read_word _ _ _ hr1] at h1
  refine ⟨m, e, ?_, h2, h3⟩
  rw [read_word _ _ _ hr1]
  split at h1
  · rw [if_pos (by assumption)]; injection h1 with e1 e2 e3; rw [e1, e2, e3]
  · split at h1
    · rw [if_neg (by assumption), if_pos (by assumption)]; injection h1 with e1 e2 e3; rw [e1, e2, e3]
    · split at h1 <;> cases h1

/-- The units of 256. -/
def LIM : Nat := 2 ^ 157
/-- Is the number at most 256, whatever its sign? -/
def lo (x : Nat) : Bool := single.order 3279945728 x == some .lt || single.order 3279945728 x == some .eq
def hi (x : Nat) : Bool := single.order x 1132462080 == some .lt || single.order x 1132462080 == some .eq
def fin (x : Nat) : Bool := lo x && hi x
theorem num_lim : Num single 1132462080 false LIM := by
  refine ⟨8388608, -15, by decide +kernel, by decide, ?_⟩
  unfold LIM; rw [place32]; decide +kernel
theorem num_nlim : Num single 3279945728 true LIM := by
  refine ⟨8388608, -15, by decide +kernel, by decide, ?_⟩
  unfold LIM; rw [place32]; decide +kernel
theorem num_one : Num single 1065353216 false (2 ^ 149) := by
  refine ⟨8388608, -23, by decide +kernel, by decide, ?_⟩
  rw [place32]; decide +kernel
theorem read_two : single.read 1073741824 = .number false 8388608 (-22) := by decide +kernel
theorem read_zero : single.read 0 = .number false 0 (-149) := by decide +kernel
theorem le_iff {f : Format} {x y : Nat} {s t : Bool} {u v : Nat} (hx : Num f x s u) (hy : Num f y t v) : (f.order x y == some .lt || f.order x y == some .eq) = decide (sg s u ≤ sg t v) := by
  rw [order_num hx hy]
  rcases Int.lt_trichotomy (sg s u) (sg t v) with h | h | h
  · rw [cmp_lt h]; simp; omega
  · rw [cmp_eq h]; simp; omega
  · rw [cmp_gt h]; simp; omega
theorem fin_num {x : Nat} {s : Bool} {u : Nat} (h : Num single x s u) : fin x = decide (u ≤ LIM) := by
  unfold fin lo hi
  rw [le_iff num_nlim h, le_iff h num_lim]
  unfold sg
  by_cases hu : u ≤ LIM <;> cases s <;> simp [hu] <;> omega
theorem fin_of {x : Nat} (h : fin x = true) : ∃ s u, Num single x s u ∧ u ≤ LIM := by
  cases hr : single.read x with
  | number s m e =>
    have hn := read_num hr
    refine ⟨s, _, hn, ?_⟩
    rw [fin_num hn] at h
    exact of_decide_eq_true h
  | infinity s =>
    exfalso
    unfold fin lo hi Format.order at h
    obtain ⟨_, _, h1, _⟩ := num_lim
    obtain ⟨_, _, h2, _⟩ := num_nlim
    rw [hr, h1, h2] at h
    cases s <;> simp [Datum.order] at h
  | nan s t =>
    exfalso
    unfold fin lo hi Format.order at h
    rw [hr] at h
    cases single.read 1132462080 <;> simp [Datum.order] at h
theorem fin_neg {x : Nat} (hx : x < 2 ^ 32) (h : fin x = true) : fin (Op.negFloat .f32 x) = true := by
  obtain ⟨s, u, hn, hu⟩ := fin_of h
  rw [fin_num (num_neg32 hx hn)]
  exact decide_eq_true hu
theorem fin_ok {x : Nat} (h : fin x = true) : (single.read x).isNaN = false := by
  obtain ⟨s, u, hn, hu⟩ := fin_of h
  exact num_read hn
theorem lim_cap {u : Nat} (h : u ≤ LIM) : 4 * u < 2 ^ cap single := by
  rw [cap32]; unfold LIM at h; omega

/-- A word is told by its sign and its units. -/
theorem num_inj {x y : Nat} {s : Bool} {u : Nat} (hx : x < 2 ^ 32) (hy : y < 2 ^ 32) (h : Num single x s u) (g : Num single y s u) : x = y := by
  obtain ⟨s1, r1, rfl, h1⟩ := word_parts32 x hx
  obtain ⟨s2, r2, rfl, h2⟩ := word_parts32 y hy
  have key : ∀ (s' : Bool) (r : Nat), r < 2 ^ 31 → Num single (single.word s' r) s u → s' = s ∧ ∃ q M, r = q * 2 ^ 23 + M ∧ u = M * 2 ^ q ∧ M < 2 * 2 ^ 23 ∧ (q = 0 ∨ 2 ^ 23 ≤ M) := by
    intro s' r hr hn
    obtain ⟨m, e, e1, e2, e3⟩ := hn
    have hr1 : r < single.signWeight := hr
    rw [read_word _ _ _ hr1, bin32] at e1
    split at e1
    · injection e1 with f1 f2 f3
      subst f1 f2 f3
      refine ⟨rfl, 0, r, by omega, ?_, by omega, .inl rfl⟩
      rw [e3]; simp
    · split at e1
      · injection e1 with f1 f2 f3
        subst f1 f2 f3
        refine ⟨rfl, r / 2 ^ 23 - 1, 2 ^ 23 + r % 2 ^ 23, by omega, ?_, by omega, .inr (by omega)⟩
        rw [e3]; congr 2; omega
      · split at e1 <;> cases e1
  obtain ⟨rfl, q1, M1, rfl, hu1, hm1, hq1⟩ := key s1 r1 h1 h
  obtain ⟨rfl, q2, M2, rfl, hu2, hm2, hq2⟩ := key s2 r2 h2 g
  have hlt : ∀ q q' M M' : Nat, M * 2 ^ q = M' * 2 ^ q' → M < 2 * 2 ^ 23 → (q' = 0 ∨ 2 ^ 23 ≤ M') → ¬ q < q' := by
    intro q q' M M' e hM hq' hlt
    have h2 : 2 ^ 23 ≤ M' := by
      rcases hq' with h | h
      · omega
      · exact h
    obtain ⟨d, rfl⟩ : ∃ d, q' = q + 1 + d := ⟨q' - q - 1, by omega⟩
    have h3 : 2 ^ (q + 1 + d) = 2 * (2 ^ d * 2 ^ q) := by rw [Nat.pow_add, Nat.pow_succ', Nat.mul_assoc, Nat.mul_comm (2 ^ q) (2 ^ d)]
    rw [h3] at e
    have hp : 0 < 2 ^ q := two_pos q
    have hd : 0 < 2 ^ d := two_pos d
    have e4 : M * 2 ^ q = (M' * 2 * 2 ^ d) * 2 ^ q := by rw [e]; simp only [Nat.mul_assoc]
    have e5 := Nat.eq_of_mul_eq_mul_right hp e4
    have e6 : M' * 2 * 1 ≤ M' * 2 * 2 ^ d := Nat.mul_le_mul_left _ hd
    omega
  have hqq : q1 = q2 := by
    have a1 := hlt q1 q2 M1 M2 (hu1.symm.trans hu2) hm1 hq2
    have a2 := hlt q2 q1 M2 M1 (hu2.symm.trans hu1) hm2 hq1
    omega
  subst hqq
  have hmm : M1 = M2 := Nat.eq_of_mul_eq_mul_right (two_pos q1) (hu1.symm.trans hu2)
  rw [hmm]

theorem mul_one32 {x : Nat} (hx : x < 2 ^ 32) (h : fin x = true) : floatBits .mul .f32 x 1065353216 = some x := by
  obtain ⟨s, u, hn, hu⟩ := fin_of h
  obtain ⟨r, hr, hn2⟩ := mul_num fine32 hn num_one u (by rw [unit32]) (rep_num hn) (by have := lim_cap hu; omega)
  have hr' : single.mul x 1065353216 = some r := hr
  show single.mul x 1065353216 = some x
  rw [hr', num_inj hx (single.mul_lt hr) hn (by simpa using hn2)]

theorem add_comm32 (x y : Nat) : floatBits .add .f32 x y = floatBits .add .f32 y x := by
  show single.add x y = single.add y x
  unfold Format.add
  cases single.read x <;> cases single.read y <;> simp only [Datum.sum]
  · rename_i s m i t n j
    rw [Int.min_comm, Int.add_comm, Bool.and_comm]
  · rename_i s t
    by_cases h : s = t
    · subst h; rfl
    · rw [if_neg h, if_neg (fun e => h e.symm)]

/-- Half of a sum. -/
def half (x y : Nat) : Nat := ((floatBits .add .f32 x y).bind fun r => floatBits .quo .f32 r 1073741824).getD 0
theorem half_comm (x y : Nat) : half x y = half y x := by unfold half; rw [add_comm32]
theorem add_fin {x y : Nat} (hx : fin x = true) (hy : fin y = true) : ∃ r, floatBits .add .f32 x y = some r ∧ (single.read r).isNaN = false := by
  obtain ⟨s, u, ⟨m, i, h1, _, _⟩, hu⟩ := fin_of hx
  obtain ⟨t, v, ⟨n, j, h2, _, _⟩, hv⟩ := fin_of hy
  show ∃ r, single.add x y = some r ∧ _
  unfold Format.add
  rw [h1, h2]
  exact ⟨_, rfl, nearest_ok _ _ _ _⟩
theorem half_fin {x y : Nat} (hx : fin x = true) (hy : fin y = true) : ∃ r, floatBits .add .f32 x y = some r ∧ floatBits .quo .f32 r 1073741824 = some (half x y) ∧ (single.read (half x y)).isNaN = false := by
  obtain ⟨r, hr, hk⟩ := add_fin hx hy
  obtain ⟨q, hq, hk2⟩ := div_some hk read_two (by decide)
  have hq' : floatBits .quo .f32 r 1073741824 = some q := hq
  have e : half x y = q := by unfold half; rw [hr]; simp [hq']
  rw [e]
  exact ⟨r, hr, hq', hk2⟩

theorem div_two {x : Nat} {s : Bool} {u : Nat} (h : Num single x s (2 * u)) (hu : 4 * u < 2 ^ cap single) (hr : Rep single u) : ∃ q, single.div x 1073741824 = some q ∧ Num single q s u := by
  obtain ⟨m, i, h1, h2, h3⟩ := h
  have hm := read_bound h1
  rw [frac32] at hm
  rw [place32] at h2 h3
  unfold Format.div
  rw [h1, read_two]
  have hn : Nat.log2 8388608 = 23 := by decide +kernel
  have hlog : m.log2 ≤ 23 := by
    by_cases h0 : m = 0
    · subst h0; decide
    · have := (Nat.log2_lt h0).2 hm; omega
  obtain ⟨k, hk⟩ : ∃ k, single.fractionBits + 2 + Nat.log2 8388608 - m.log2 = k + 23 := ⟨single.fractionBits + 2 + Nat.log2 8388608 - m.log2 - 23, by rw [hn, frac32]; omega⟩
  have hdiv : m * 2 ^ (k + 23) / 8388608 = m * 2 ^ k := by
    rw [show (8388608 : Nat) = 2 ^ 23 from rfl, Nat.pow_add, ← Nat.mul_assoc, Nat.mul_div_cancel _ (two_pos 23)]
  have hmod : m * 2 ^ (k + 23) % 8388608 = 0 := by
    rw [show (8388608 : Nat) = 2 ^ 23 from rfl, Nat.pow_add, ← Nat.mul_assoc, Nat.mul_mod_left]
  simp only [Datum.quotient, show (8388608 : Nat) ≠ 0 by decide, if_false, Option.map_some, Format.write, hk, shl, hdiv, hmod, bne_self_eq_false, Bool.toNat_false, Nat.add_zero, Bool.bne_false]
  refine ⟨_, rfl, num_of fine32 s _ u _ ?_ hr (by omega)⟩
  rw [place32]
  have h4 : 2 * u = m * 2 ^ (i + 149).toNat := by rw [h3]; congr 2
  have ha : 2 * (m * 2 ^ k) = m * 2 ^ (k + 1) := by rw [Nat.pow_succ]; ac_rfl
  rw [ha]
  rcases Int.le_total (-149) (i - -22 - ((k + 23 : Nat) : Int) - 1) with hp | hp
  · rw [show (-149 - (i - -22 - ((k + 23 : Nat) : Int) - 1)).toNat = 0 by omega, Nat.pow_zero, Nat.mul_one, Nat.mul_assoc, ← Nat.pow_add]
    apply Nat.eq_of_mul_eq_mul_left (show 0 < 2 by decide)
    rw [h4, show (i + 149).toNat = k + 1 + (i - -22 - ((k + 23 : Nat) : Int) - 1 - -149).toNat + 1 by omega, Nat.pow_succ 2 (k + 1 + _)]
    ac_rfl
  · rw [show (i - -22 - ((k + 23 : Nat) : Int) - 1 - -149).toNat = 0 by omega, Nat.pow_zero, Nat.mul_one]
    apply Nat.eq_of_mul_eq_mul_left (show 0 < 2 by decide)
    rw [← Nat.mul_assoc 2 u, h4, Nat.mul_assoc m, ← Nat.pow_add, show (i + 149).toNat + (-149 - (i - -22 - ((k + 23 : Nat) : Int) - 1)).toNat = k + 1 + 1 by omega, Nat.pow_succ 2 (k + 1), ← Nat.mul_assoc m, Nat.mul_comm 2]

theorem half_self {x : Nat} (hx : fin x = true) : single.order (half x x) x = some .eq := by
  obtain ⟨s, u, hn, hu⟩ := fin_of hx
  have e : sg s u + sg s u = sg s (2 * u) := by unfold sg; cases s <;> simp <;> omega
  have hcap := lim_cap hu
  obtain ⟨r, hr, hn2⟩ := add_num fine32 hn hn (by rw [e, natAbs_sg, Nat.mul_comm]; exact rep_mul (rep_num hn) 1) (by rw [e, natAbs_sg]; omega)
  rw [e, natAbs_sg] at hn2
  have hs : (if sg s (2 * u) = 0 then s && s else decide (sg s (2 * u) < 0)) = s := by
    unfold sg
    cases s
    · simp; intro h; omega
    · simp; omega
  rw [hs] at hn2
  obtain ⟨q, hq, hn3⟩ := div_two hn2 hcap (rep_num hn)
  have e2 : half x x = q := by
    unfold half
    rw [show floatBits .add .f32 x x = some r from hr]
    simp only [Option.bind_some]
    rw [show floatBits .quo .f32 r 1073741824 = some q from hq]
    rfl
  rw [e2, order_num hn3 hn, cmp_eq rfl]

/-- A finite single as a double. -/
theorem conv_fin {x : Nat} (hx : fin x = true) : ∃ r, floatToFloatBits .f32 x .f64 = some r ∧ (double.read r).isNaN = false := by
  obtain ⟨s, u, ⟨m, i, h1, h2, h3⟩, hu⟩ := fin_of hx
  have hm := read_bound h1
  rw [frac32] at hm
  rw [place32] at h2 h3
  have hi : m = 0 ∨ i ≤ 8 := by
    by_cases h0 : m = 0
    · exact .inl h0
    · right
      apply Classical.byContradiction
      intro hc
      have h4 : 2 ^ 158 ≤ 2 ^ (i - -149).toNat := Nat.pow_le_pow_right (by decide) (by omega)
      have h5 : 1 * 2 ^ (i - -149).toNat ≤ m * 2 ^ (i - -149).toNat := Nat.mul_le_mul_right _ (by omega)
      unfold LIM at hu
      omega
  have hn : Num double (double.nearest s m i) s (m * 2 ^ (i + 1074).toNat) := by
    rcases hi with rfl | hi
    · refine num_of fine64 s 0 (0 * 2 ^ (i + 1074).toNat) i (by simp) (by simpa using rep_zero _) (by simpa using two_pos _)
    · refine num_of fine64 s m _ i ?_ (rep_mul (rep_small (by rw [frc64]; omega)) _) ?_
      · rw [plc64, show (-1074 - i).toNat = 0 by omega, Nat.pow_zero, Nat.mul_one]; rfl
      · obtain ⟨C, hC, hC2⟩ : ∃ C, cap double = C ∧ C = 2098 := ⟨_, rfl, cap64⟩
        rw [hC]
        obtain ⟨j, hj, hj2⟩ : ∃ j, (i + 1074).toNat = j ∧ 24 + j ≤ 2098 := ⟨_, rfl, by omega⟩
        rw [hj]
        have h5 : m * 2 ^ j < 2 ^ 24 * 2 ^ j := Nat.mul_lt_mul_of_pos_right hm (two_pos j)
        rw [← Nat.pow_add] at h5
        exact Nat.lt_of_lt_of_le h5 (Nat.pow_le_pow_right (by decide) (by omega))
  refine ⟨double.nearest s m i, ?_, num_read hn⟩
  obtain ⟨m', e', hr', _, _⟩ := hn
  unfold floatToFloatBits
  rw [if_neg (by decide)]
  have hdec : FloatKind.f32.decode x = .number s m i := h1
  have henc : FloatKind.f64.encode (.number s m i) = double.nearest s m i := rfl
  have hdec2 : FloatKind.f64.decode (double.nearest s m i) = .number s m' e' := hr'
  simp only [hdec, henc, hdec2, Datum.isInfinity]
  rfl
end Go.Proofs.YtobpnoiienpipaaDoor.Flt
