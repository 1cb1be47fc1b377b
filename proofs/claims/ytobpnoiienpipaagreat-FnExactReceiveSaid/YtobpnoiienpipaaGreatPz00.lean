/-
  What is proved: plain facts on binary floats: when rounding is exact, what comparing says, what sums, differences and products of exact numbers are.
  Conditions: none beyond those that each fact names.
-/
import Derived.Laws.FloatArith
import Derived.Laws.BitsAllLaws
namespace Go.Proofs.YtobpnoiienpipaaGreat.Flt
set_option linter.unusedVariables false
open Ieee

theorem two_pos (n : Nat) : 0 < 2 ^ n := Nat.two_pow_pos n
theorem shl (a n : Nat) : a <<< n = a * 2 ^ n := Nat.shiftLeft_eq a n

/-! ### Rounding a whole number of units -/
theorem lt_log (n : Nat) : n < 2 ^ (n.log2 + 1) := Nat.lt_log2_self
theorem cut_gap (s : Bool) (n d : Nat) (h : d ≤ n.log2 + 2) : Toward.even.cut s n d = n / 2 ^ d + (decide (2 ^ d < 2 * (n % 2 ^ d)) || (2 ^ d == 2 * (n % 2 ^ d) && n / 2 ^ d % 2 == 1)).toNat := by
  unfold Toward.cut
  rw [Nat.min_eq_left h, shl, Nat.one_mul]
theorem cut_big (s : Bool) (n d : Nat) (h : n.log2 + 2 < d) : Toward.even.cut s n d = 0 := by
  unfold Toward.cut
  rw [Nat.min_eq_right (by omega), shl, Nat.one_mul]
  have h1 := lt_log n
  have h2 : 2 ^ (n.log2 + 2) = 2 * 2 ^ (n.log2 + 1) := by rw [Nat.pow_succ]; omega
  have h3 : n < 2 ^ (n.log2 + 2) := by omega
  dsimp only
  rw [Nat.div_eq_of_lt h3, Nat.mod_eq_of_lt h3]
  have h4 : ¬ 2 ^ (n.log2 + 2) < 2 * n := by omega
  have h5 : (2 ^ (n.log2 + 2) == 2 * n) = false := by simp; omega
  simp [h4, h5]
/-- A number that is a multiple of what is dropped is cut exactly. -/
theorem cut_exact (s : Bool) (k d : Nat) : Toward.even.cut s (k * 2 ^ d) d = k := by
  by_cases h : d ≤ (k * 2 ^ d).log2 + 2
  · have hp := two_pos d
    rw [cut_gap s _ d h, Nat.mul_div_cancel _ hp, Nat.mul_mod_left]
    have h1 : ¬ 2 ^ d < 2 * 0 := by omega
    have h2 : (2 ^ d == 2 * 0) = false := by simp
    simp [h2]
  · have h1 := lt_log (k * 2 ^ d)
    have h2 : 2 ^ ((k * 2 ^ d).log2 + 1) ≤ 2 ^ d := Nat.pow_le_pow_right (by decide) (by omega)
    have h3 : k * 2 ^ d < 1 * 2 ^ d := by omega
    have h4 : k < 1 := Nat.lt_of_mul_lt_mul_right h3
    rw [cut_big s _ d (by omega)]
    omega
/-- What cutting is off by: at most half a unit. -/
theorem cut_near (s : Bool) (n d : Nat) : 2 * (Toward.even.cut s n d * 2 ^ d) ≤ 2 * n + 2 ^ d ∧ 2 * n ≤ 2 * (Toward.even.cut s n d * 2 ^ d) + 2 ^ d := by
  by_cases h : d ≤ n.log2 + 2
  · rw [cut_gap s n d h]
    have hd := Nat.div_add_mod n (2 ^ d)
    have hm := Nat.mod_lt n (two_pos d)
    generalize n / 2 ^ d = q at *
    generalize n % 2 ^ d = r at *
    generalize 2 ^ d = g at *
    have hc : g * q = q * g := Nat.mul_comm _ _
    by_cases h1 : g < 2 * r
    · simp only [h1, decide_true, Bool.true_or, Bool.toNat_true]
      rw [Nat.add_mul]
      omega
    · by_cases h2 : (g == 2 * r && q % 2 == 1) = true
      · simp only [h1, decide_false, Bool.false_or, h2, Bool.toNat_true]
        simp only [Bool.and_eq_true, beq_iff_eq] at h2
        rw [Nat.add_mul]
        omega
      · simp only [Bool.not_eq_true] at h2
        simp only [h1, decide_false, Bool.false_or, h2, Bool.toNat_false, Nat.add_zero]
        omega
  · have h1 := lt_log n
    have h2 : 2 ^ (n.log2 + 1) * 2 ≤ 2 ^ d := by
      rw [← Nat.pow_succ]
      exact Nat.pow_le_pow_right (by decide) (by omega)
    rw [cut_big s n d (by omega)]
    omega
theorem cut_le (s : Bool) (n d m : Nat) (h : n ≤ m * 2 ^ d) : Toward.even.cut s n d ≤ m := by
  have h1 := (cut_near s n d).1
  have hp := two_pos d
  rcases Nat.lt_or_ge m (Toward.even.cut s n d) with h2 | h2
  · exfalso
    by_cases hg : d ≤ n.log2 + 2
    · -- the quotient is at most m, and m itself only if nothing is left over
      rw [cut_gap s n d hg] at h2
      have hd := Nat.div_add_mod n (2 ^ d)
      have hm := Nat.mod_lt n hp
      have hq : n / 2 ^ d ≤ m := by
        apply Nat.div_le_of_le_mul; rw [Nat.mul_comm]; exact h
      rcases Nat.lt_or_ge (n / 2 ^ d) m with h3 | h3
      · have : ∀ b : Bool, b.toNat ≤ 1 := by decide
        have := this (decide (2 ^ d < 2 * (n % 2 ^ d)) || (2 ^ d == 2 * (n % 2 ^ d) && n / 2 ^ d % 2 == 1))
        omega
      · have h4 : n / 2 ^ d = m := by omega
        have h5 : n % 2 ^ d = 0 := by
          rw [h4, Nat.mul_comm] at hd
          omega
        rw [h5, h4] at h2
        have h6 : (2 ^ d == 2 * 0) = false := by simp
        simp [h6] at h2
    · rw [cut_big s n d (by omega)] at h2
      omega
  · exact h2
theorem le_cut (s : Bool) (n d m : Nat) (h : m * 2 ^ d ≤ n) : m ≤ Toward.even.cut s n d := by
  have hp := two_pos d
  by_cases hg : d ≤ n.log2 + 2
  · rw [cut_gap s n d hg]
    have : m ≤ n / 2 ^ d := (Nat.le_div_iff_mul_le hp).2 h
    omega
  · have h1 := lt_log n
    have h2 : 2 ^ (n.log2 + 1) ≤ 2 ^ d := Nat.pow_le_pow_right (by decide) (by omega)
    have h3 : m * 2 ^ d < 1 * 2 ^ d := by omega
    have h4 : m < 1 := Nat.lt_of_mul_lt_mul_right h3
    omega

/-! ### Words -/
theorem word_mod (f : Format) (s : Bool) (r : Nat) (h : r < f.signWeight) : f.word s r % f.signWeight = r := by
  unfold Format.word
  cases s
  · simp [Nat.mod_eq_of_lt h]
  · simp [Nat.mod_eq_of_lt h]
theorem word_neg (f : Format) (s : Bool) (r : Nat) (h : r < f.signWeight) : (f.word s r / f.signWeight % 2 == 1) = s := by
  have hp : 0 < f.signWeight := two_pos _
  unfold Format.word
  cases s
  · simp [Nat.div_eq_of_lt h]
  · simp only [if_true]
    rw [Nat.add_div_left _ hp, Nat.div_eq_of_lt h]; rfl
theorem read_word (f : Format) (s : Bool) (r : Nat) (h : r < f.signWeight) : f.read (f.word s r) =
    if r < f.binade then .number s r f.leastPlace
    else if r < f.infRung then .number s (f.binade + r % f.binade) (f.leastPlace + (r / f.binade - 1 : Nat))
    else if r = f.infRung then .infinity s else .nan s (r - f.infRung) := by
  unfold Format.read
  rw [word_mod f s r h, word_neg f s r h]

/-- The word b is a number with the sign s and u units of the least place. -/
def Num (f : Format) (b : Nat) (s : Bool) (u : Nat) : Prop := ∃ m e, f.read b = .number s m e ∧ f.leastPlace ≤ e ∧ u = m * 2 ^ (e - f.leastPlace).toNat

theorem num_word (f : Format) (s : Bool) (q k : Nat) (hk : k ≤ 2 * f.binade) (hq : q = 0 ∨ f.binade ≤ k) (hi : q * f.binade + k < f.infRung) : Num f (f.word s (q * f.binade + k)) s (k * 2 ^ q) := by
  have hb : 0 < f.binade := two_pos _
  have hr := read_word f s (q * f.binade + k) (Nat.lt_trans hi f.infRung_lt)
  by_cases h1 : q * f.binade + k < f.binade
  · rw [if_pos h1] at hr
    have hq0 : q = 0 := by
      rcases hq with h | h
      · exact h
      · omega
    subst hq0
    exact ⟨_, _, hr, Int.le_refl _, by simp⟩
  · rw [if_neg h1, if_pos hi] at hr
    refine ⟨_, _, hr, by omega, ?_⟩
    have hbk : f.binade ≤ k := by
      rcases hq with h | h
      · subst h; omega
      · exact h
    have e1 : (f.leastPlace + ((q * f.binade + k) / f.binade - 1 : Nat) - f.leastPlace).toNat = (q * f.binade + k) / f.binade - 1 := by omega
    rw [e1]
    rcases Nat.lt_or_ge k (2 * f.binade) with hk2 | hk2
    · have e2 : q * f.binade + k = (k - f.binade) + f.binade * (q + 1) := by rw [Nat.mul_add, Nat.mul_one, Nat.mul_comm f.binade q]; omega
      have hlt : k - f.binade < f.binade := by omega
      rw [e2, Nat.add_mul_mod_self_left, Nat.add_mul_div_left _ _ hb, Nat.mod_eq_of_lt hlt, Nat.div_eq_of_lt hlt]
      rw [show f.binade + (k - f.binade) = k by omega, show 0 + (q + 1) - 1 = q by omega]
    · have hk3 : k = 2 * f.binade := by omega
      have e2 : q * f.binade + k = 0 + f.binade * (q + 2) := by rw [Nat.mul_add, Nat.mul_comm f.binade q]; omega
      rw [e2, Nat.add_mul_mod_self_left, Nat.add_mul_div_left _ _ hb, Nat.zero_mod, Nat.zero_div, hk3]
      rw [show 0 + (q + 2) - 1 = q + 1 by omega, Nat.pow_succ, Nat.add_zero]
      rw [Nat.mul_comm 2 f.binade, Nat.mul_assoc, Nat.mul_comm 2]

theorem num_zero (f : Format) (s : Bool) (hf : 0 < f.infRung) : Num f (f.word s 0) s 0 := by
  have := num_word f s 0 0 (Nat.zero_le _) (.inl rfl) (by simpa using hf)
  simpa using this

/-- WHAT ROUNDING GIVES: place 'last' is the last that is kept, d digits are dropped (or none, and the number is shifted up by c). -/
theorem num_nearest (f : Format) (s : Bool) (mag : Nat) (place : Int) (hm : mag ≠ 0) (last : Int) (hlast : last = max (place + mag.log2 - f.fractionBits) f.leastPlace)
    (c d : Nat) (hc : c = (place - last).toNat) (hd : d = (last - place).toNat)
    (hi : (last - f.leastPlace).toNat * f.binade + Toward.even.cut s (mag * 2 ^ c) d < f.infRung) :
    Num f (f.nearest s mag place) s (Toward.even.cut s (mag * 2 ^ c) d * 2 ^ (last - f.leastPlace).toNat) := by
  have e : f.nearest s mag place = f.word s ((last - f.leastPlace).toNat * f.binade + Toward.even.cut s (mag * 2 ^ c) d) := by
    unfold Format.nearest
    rw [if_neg hm]
    simp only [shl, ← hlast, ← hc, ← hd]
    rw [Nat.min_eq_left (by omega)]
  rw [e]
  have hbin : f.binade = 2 ^ f.fractionBits := rfl
  have hlg := lt_log mag
  have hlo : 2 ^ mag.log2 ≤ mag := Nat.log2_self_le hm
  refine num_word f s _ _ ?_ ?_ hi
  · -- at most two binades
    apply cut_le
    have h1 : mag.log2 + 1 + c ≤ f.fractionBits + 1 + d := by omega
    have h2 : 2 ^ (mag.log2 + 1 + c) ≤ 2 ^ (f.fractionBits + 1 + d) := Nat.pow_le_pow_right (by decide) h1
    have h3 : mag * 2 ^ c ≤ 2 ^ (mag.log2 + 1) * 2 ^ c := Nat.mul_le_mul_right _ (Nat.le_of_lt hlg)
    rw [← Nat.pow_add] at h3
    rw [hbin, ← Nat.pow_succ', ← Nat.pow_add]
    exact Nat.le_trans h3 h2
  · by_cases hq : last = f.leastPlace
    · left; omega
    · right
      apply le_cut
      have h1 : f.fractionBits + d = mag.log2 + c := by omega
      rw [hbin, ← Nat.pow_add, h1, Nat.pow_add]
      exact Nat.mul_le_mul_right _ hlo

/-- Numbers below 2^cap units of the least place are finite. -/
def cap (f : Format) : Nat := f.fractionBits + (2 ^ f.exponentBits - 2)
theorem log_shift {n : Nat} (hn : n ≠ 0) (t : Nat) : (n * 2 ^ t).log2 = n.log2 + t := by
  apply (Nat.log2_eq_iff (Nat.mul_ne_zero hn (Nat.ne_of_gt (two_pos t)))).2
  constructor
  · rw [Nat.pow_add]; exact Nat.mul_le_mul_right _ (Nat.log2_self_le hn)
  · rw [show n.log2 + t + 1 = (n.log2 + 1) + t by omega, Nat.pow_add]; exact Nat.mul_lt_mul_of_pos_right (lt_log n) (two_pos t)
/-- EXACT ROUNDING: a number of at most one digit more than the fraction field's, however it is written, is kept as it is: n units, shifted up by t; v is its value in units of the least place. -/
theorem num_exact (f : Format) (s : Bool) (n t : Nat) (place : Int) (heb : 2 ≤ f.exponentBits) (hn : n < 2 ^ (f.fractionBits + 1)) (hp : f.leastPlace ≤ place + t) (v : Nat) (hv : v = n * 2 ^ (place + t - f.leastPlace).toNat)
    (hcap : v < 2 ^ cap f) : Num f (f.nearest s (n * 2 ^ t) place) s v := by
  have hbin : f.binade = 2 ^ f.fractionBits := rfl
  have hbp : 0 < f.binade := two_pos _
  have he4 : 2 ^ 2 ≤ 2 ^ f.exponentBits := Nat.pow_le_pow_right (by decide) heb
  have hinf : f.infRung = (2 ^ f.exponentBits - 1) * f.binade := rfl
  by_cases hn0 : n = 0
  · subst hn0
    have e : f.nearest s (0 * 2 ^ t) place = f.word s 0 := by unfold Format.nearest; rw [if_pos (by simp)]
    rw [e, hv, Nat.zero_mul]
    exact num_zero f s (by rw [hinf]; exact Nat.mul_pos (by omega) hbp)
  · have hm : n * 2 ^ t ≠ 0 := Nat.mul_ne_zero hn0 (Nat.ne_of_gt (two_pos t))
    have hlg := log_shift hn0 t
    have hl1 : n.log2 ≤ f.fractionBits := by
      have h1 : 2 ^ n.log2 ≤ n := Nat.log2_self_le hn0
      have h2 : 2 ^ n.log2 < 2 ^ (f.fractionBits + 1) := by omega
      have := (Nat.pow_lt_pow_iff_right (by decide : 1 < 2)).1 h2
      omega
    obtain ⟨last, hlast⟩ : ∃ last, last = max (place + (n * 2 ^ t).log2 - f.fractionBits) f.leastPlace := ⟨_, rfl⟩
    obtain ⟨c, hc⟩ : ∃ c, c = (place - last).toNat := ⟨_, rfl⟩
    obtain ⟨d, hd⟩ : ∃ d, d = (last - place).toNat := ⟨_, rfl⟩
    obtain ⟨g, hg⟩ : ∃ g, g = (place + t - last).toNat := ⟨_, rfl⟩
    obtain ⟨q, hq⟩ : ∃ q, q = (last - f.leastPlace).toNat := ⟨_, rfl⟩
    have hle : last ≤ place + t := by rw [hlast, hlg]; omega
    have hL : f.leastPlace ≤ last := by rw [hlast]; omega
    have hgd : t + c = g + d := by omega
    have hcut : Toward.even.cut s (n * 2 ^ t * 2 ^ c) d = n * 2 ^ g := by
      rw [Nat.mul_assoc, ← Nat.pow_add, hgd, Nat.pow_add, ← Nat.mul_assoc]
      exact cut_exact s _ d
    have hval : n * 2 ^ g * 2 ^ q = v := by
      rw [Nat.mul_assoc, ← Nat.pow_add, hv]
      congr 2
      omega
    have hkept : n * 2 ^ g < 2 * f.binade := by
      have h1 : n * 2 ^ g < 2 ^ (n.log2 + 1) * 2 ^ g := Nat.mul_lt_mul_of_pos_right (lt_log n) (two_pos g)
      rw [← Nat.pow_add] at h1
      have h2 : 2 ^ (n.log2 + 1 + g) ≤ 2 ^ (f.fractionBits + 1) := Nat.pow_le_pow_right (by decide) (by rw [hlg] at hlast; omega)
      rw [hbin, ← Nat.pow_succ']
      exact Nat.lt_of_lt_of_le h1 h2
    have hq2 : q + 2 ≤ 2 ^ f.exponentBits - 1 := by
      by_cases hq0 : q = 0
      · omega
      · have h1 : n.log2 + g = f.fractionBits := by rw [hlg] at hlast; omega
        have h2 : 2 ^ (f.fractionBits + q) ≤ v := by
          rw [← hval, Nat.pow_add, ← h1, Nat.pow_add]
          exact Nat.mul_le_mul_right _ (Nat.mul_le_mul_right _ (Nat.log2_self_le hn0))
        have h3 : 2 ^ (f.fractionBits + q) < 2 ^ cap f := Nat.lt_of_le_of_lt h2 hcap
        have h4 := (Nat.pow_lt_pow_iff_right (by decide : 1 < 2)).1 h3
        unfold cap at h4
        omega
    have hi : q * f.binade + n * 2 ^ g < f.infRung := by
      have h1 : q * f.binade + n * 2 ^ g < (q + 2) * f.binade := by rw [Nat.add_mul]; omega
      exact Nat.lt_of_lt_of_le h1 (by rw [hinf]; exact Nat.mul_le_mul_right _ hq2)
    have := num_nearest f s (n * 2 ^ t) place hm last hlast c d hc hd (by rw [hcut, ← hq]; exact hi)
    rw [hcut, ← hq, hval] at this
    exact this

/-! ### Comparing -/
def sg (s : Bool) (u : Nat) : Int := if s then -(u : Int) else u
theorem signed_sg (s : Bool) (m k : Nat) : signed s m k = sg s (m * 2 ^ k) := by unfold signed sg; rw [shl]
theorem cmp_scale (a b : Int) (k : Nat) : compare (a * 2 ^ k) (b * 2 ^ k) = compare a b := by
  have hp : (0 : Int) < 2 ^ k := Int.pow_pos (by decide)
  rcases Int.lt_trichotomy a b with h | h | h
  · rw [(Int.compare_eq_lt).2 h, (Int.compare_eq_lt).2 (Int.mul_lt_mul_of_pos_right h hp)]
  · subst h; simp
  · rw [(Int.compare_eq_gt).2 h, (Int.compare_eq_gt).2 (Int.mul_lt_mul_of_pos_right h hp)]
theorem sg_scale (s : Bool) (m k : Nat) : sg s (m * 2 ^ k) = sg s m * 2 ^ k := by
  unfold sg
  cases s <;> simp [Int.neg_mul]
theorem order_num {f : Format} {x y : Nat} {s t : Bool} {u v : Nat} (hx : Num f x s u) (hy : Num f y t v) : f.order x y = some (compare (sg s u) (sg t v)) := by
  obtain ⟨m, i, hx, hi, hu⟩ := hx
  obtain ⟨n, j, hy, hj, hv⟩ := hy
  unfold Format.order
  rw [hx, hy]
  simp only [Datum.order, signed_sg]
  congr 1
  rw [← cmp_scale (sg s (m * 2 ^ (i - min i j).toNat)) _ (min i j - f.leastPlace).toNat, ← sg_scale, ← sg_scale, Nat.mul_assoc, Nat.mul_assoc, ← Nat.pow_add, ← Nat.pow_add, hu, hv]
  congr 3 <;> congr 2 <;> omega

/-! ### Sums, products, whole numbers -/
/-- A whole number of units that has at most one digit more than the fraction field's, behind which stand zeros. -/
def Rep (f : Format) (w : Nat) : Prop := ∃ n k, w = n * 2 ^ k ∧ n < 2 ^ (f.fractionBits + 1)
theorem rep_small {f : Format} {w : Nat} (h : w < 2 ^ (f.fractionBits + 1)) : Rep f w := ⟨w, 0, by simp, h⟩
theorem rep_mul {f : Format} {w : Nat} (h : Rep f w) (k : Nat) : Rep f (w * 2 ^ k) := by
  obtain ⟨n, j, rfl, hn⟩ := h
  exact ⟨n, j + k, by rw [Nat.mul_assoc, ← Nat.pow_add], hn⟩
/-- The kinds of floats that there are. -/
structure Fine (f : Format) : Prop where
  eb : 2 ≤ f.exponentBits
  neg : f.leastPlace ≤ 0
theorem fine32 : Fine single := ⟨by decide, by decide⟩
theorem fine64 : Fine double := ⟨by decide, by decide⟩

theorem num_of {f : Format} (hf : Fine f) (s : Bool) (a w : Nat) (place : Int) (h : a * 2 ^ (place - f.leastPlace).toNat = w * 2 ^ (f.leastPlace - place).toNat) (hr : Rep f w) (hcap : w < 2 ^ cap f) :
    Num f (f.nearest s a place) s w := by
  obtain ⟨n, k, hw, hn⟩ := hr
  rcases Int.le_total f.leastPlace place with hp | hp
  · obtain ⟨g, hg⟩ : ∃ g, g = (place - f.leastPlace).toNat := ⟨_, rfl⟩
    have h0 : (f.leastPlace - place).toNat = 0 := by omega
    rw [h0, Nat.pow_zero, Nat.mul_one, ← hg] at h
    rcases Nat.le_total g k with hgk | hgk
    · -- a is n, shifted
      have ha : a = n * 2 ^ (k - g) := by
        apply Nat.eq_of_mul_eq_mul_right (two_pos g)
        rw [h, hw, Nat.mul_assoc, ← Nat.pow_add]
        congr 2
        omega
      subst ha
      refine num_exact f s n (k - g) place hf.eb hn (by omega) w ?_ hcap
      rw [hw]
      congr 2
      omega
    · have ha : a ≤ n := by
        have h1 : a * 2 ^ (g - k) = n := by
          apply Nat.eq_of_mul_eq_mul_right (two_pos k)
          rw [Nat.mul_assoc, ← Nat.pow_add, show g - k + k = g by omega, h, hw]
        rw [← h1]
        exact Nat.le_mul_of_pos_right _ (two_pos _)
      have := num_exact f s a 0 place hf.eb (by omega) (by omega) w (by rw [← h, hg]; congr 2; omega) hcap
      simpa using this
  · have h0 : (place - f.leastPlace).toNat = 0 := by omega
    rw [h0, Nat.pow_zero, Nat.mul_one] at h
    have ha : a = n * 2 ^ (k + (f.leastPlace - place).toNat) := by rw [h, hw, Nat.mul_assoc, ← Nat.pow_add]
    subst ha
    refine num_exact f s n _ place hf.eb hn (by omega) w ?_ hcap
    rw [hw]
    congr 2
    omega

theorem num_read {f : Format} {b : Nat} {s : Bool} {u : Nat} (h : Num f b s u) : (f.read b).isNaN = false := by
  obtain ⟨m, e, h, _⟩ := h; rw [h]; rfl
theorem natAbs_sg (s : Bool) (u : Nat) : (sg s u).natAbs = u := by unfold sg; cases s <;> simp

/-- A sum that needs no rounding. -/
theorem add_num {f : Format} (hf : Fine f) {x y : Nat} {s t : Bool} {u v : Nat} (hx : Num f x s u) (hy : Num f y t v) (hr : Rep f (sg s u + sg t v).natAbs) (hcap : (sg s u + sg t v).natAbs < 2 ^ cap f) :
    ∃ r, f.add x y = some r ∧ Num f r (if sg s u + sg t v = 0 then s && t else decide (sg s u + sg t v < 0)) (sg s u + sg t v).natAbs := by
  obtain ⟨m, i, hx, hi, hu⟩ := hx
  obtain ⟨n, j, hy, hj, hv⟩ := hy
  unfold Format.add
  rw [hx, hy]
  simp only [Datum.sum, signed_sg, Option.map_some, Format.write]
  refine ⟨_, rfl, ?_⟩
  obtain ⟨g, hg⟩ : ∃ g, g = (min i j - f.leastPlace).toNat := ⟨_, rfl⟩
  have hp : (0 : Int) < 2 ^ g := Int.pow_pos (by decide)
  have e1 : sg s u = sg s (m * 2 ^ (i - min i j).toNat) * 2 ^ g := by
    rw [← sg_scale, Nat.mul_assoc, ← Nat.pow_add, hu]; congr 3; omega
  have e2 : sg t v = sg t (n * 2 ^ (j - min i j).toNat) * 2 ^ g := by
    rw [← sg_scale, Nat.mul_assoc, ← Nat.pow_add, hv]; congr 3; omega
  rw [e1, e2, ← Int.add_mul] at hr hcap ⊢
  generalize sg s (m * 2 ^ (i - min i j).toNat) + sg t (n * 2 ^ (j - min i j).toNat) = total at hr hcap ⊢
  have e3 : (total * 2 ^ g).natAbs = total.natAbs * 2 ^ g := by
    rw [Int.natAbs_mul, Int.natAbs_pow]; rfl
  have e4 : (total * 2 ^ g = 0) ↔ total = 0 := by
    constructor
    · intro h
      rcases Int.mul_eq_zero.1 h with h | h
      · exact h
      · omega
    · intro h; rw [h, Int.zero_mul]
  have e5 : (total * 2 ^ g < 0) ↔ total < 0 := by
    constructor
    · intro h
      rcases (by omega : total < 0 ∨ 0 ≤ total) with h1 | h1
      · exact h1
      · have := Int.mul_nonneg h1 (Int.le_of_lt hp); omega
    · intro h; exact Int.mul_neg_of_neg_of_pos h hp
  simp only [e4, e5]
  rw [e3] at hr hcap ⊢
  exact num_of hf _ _ _ _ (by rw [← hg, show (f.leastPlace - min i j).toNat = 0 by omega]; simp) hr hcap

theorem neg_num {f : Format} {y : Nat} {t : Bool} {v : Nat} (hy : Num f y t v) : ∃ m e, (f.read y).opposite = .number (!t) m e ∧ f.leastPlace ≤ e ∧ v = m * 2 ^ (e - f.leastPlace).toNat := by
  obtain ⟨m, e, h, h1, h2⟩ := hy
  exact ⟨m, e, by rw [h]; rfl, h1, h2⟩
theorem sg_not (t : Bool) (v : Nat) : sg (!t) v = - sg t v := by unfold sg; cases t <;> simp

/-- A difference that needs no rounding. -/
theorem sub_num {f : Format} (hf : Fine f) {x y : Nat} {s t : Bool} {u v : Nat} (hx : Num f x s u) (hy : Num f y t v) (hr : Rep f (sg s u - sg t v).natAbs) (hcap : (sg s u - sg t v).natAbs < 2 ^ cap f) :
    ∃ r, f.sub x y = some r ∧ Num f r (if sg s u - sg t v = 0 then s && !t else decide (sg s u - sg t v < 0)) (sg s u - sg t v).natAbs := by
  obtain ⟨m, i, hx, hi, hu⟩ := hx
  obtain ⟨n, j, hy, hj, hv⟩ := neg_num hy
  unfold Format.sub
  rw [hx, hy]
  simp only [Datum.sum, signed_sg, Option.map_some, Format.write]
  refine ⟨_, rfl, ?_⟩
  obtain ⟨g, hg⟩ : ∃ g, g = (min i j - f.leastPlace).toNat := ⟨_, rfl⟩
  have hp : (0 : Int) < 2 ^ g := Int.pow_pos (by decide)
  have e1 : sg s u = sg s (m * 2 ^ (i - min i j).toNat) * 2 ^ g := by
    rw [← sg_scale, Nat.mul_assoc, ← Nat.pow_add, hu]; congr 3; omega
  have e2 : - sg t v = sg (!t) (n * 2 ^ (j - min i j).toNat) * 2 ^ g := by
    rw [← sg_not, ← sg_scale, Nat.mul_assoc, ← Nat.pow_add, hv]; congr 3; omega
  have e0 : sg s u - sg t v = (sg s (m * 2 ^ (i - min i j).toNat) + sg (!t) (n * 2 ^ (j - min i j).toNat)) * 2 ^ g := by
    rw [Int.add_mul, ← e1, ← e2]; omega
  rw [e0] at hr hcap ⊢
  generalize sg s (m * 2 ^ (i - min i j).toNat) + sg (!t) (n * 2 ^ (j - min i j).toNat) = total at hr hcap ⊢
  have e3 : (total * 2 ^ g).natAbs = total.natAbs * 2 ^ g := by
    rw [Int.natAbs_mul, Int.natAbs_pow]; rfl
  have e4 : (total * 2 ^ g = 0) ↔ total = 0 := by
    constructor
    · intro h
      rcases Int.mul_eq_zero.1 h with h | h
      · exact h
      · omega
    · intro h; rw [h, Int.zero_mul]
  have e5 : (total * 2 ^ g < 0) ↔ total < 0 := by
    constructor
    · intro h
      rcases (by omega : total < 0 ∨ 0 ≤ total) with h1 | h1
      · exact h1
      · have := Int.mul_nonneg h1 (Int.le_of_lt hp); omega
    · intro h; exact Int.mul_neg_of_neg_of_pos h hp
  simp only [e4, e5]
  rw [e3] at hr hcap ⊢
  exact num_of hf _ _ _ _ (by rw [← hg, show (f.leastPlace - min i j).toNat = 0 by omega]; simp) hr hcap

/-- One, in units of the least place: 2 to this. -/
def unit (f : Format) : Nat := (-f.leastPlace).toNat

/-- A product that needs no rounding: w units, where u times v is w ones. -/
theorem mul_num {f : Format} (hf : Fine f) {x y : Nat} {s t : Bool} {u v : Nat} (hx : Num f x s u) (hy : Num f y t v) (w : Nat) (hw : u * v = w * 2 ^ unit f) (hr : Rep f w) (hcap : w < 2 ^ cap f) :
    ∃ r, f.mul x y = some r ∧ Num f r (s ^^ t) w := by
  obtain ⟨m, i, hx, hi, hu⟩ := hx
  obtain ⟨n, j, hy, hj, hv⟩ := hy
  unfold Format.mul
  rw [hx, hy]
  simp only [Datum.product, Option.map_some, Format.write]
  refine ⟨_, rfl, ?_⟩
  refine num_of hf _ _ _ _ ?_ hr hcap
  have hneg := hf.neg
  -- both sides, times what makes the places whole
  have h1 : m * n * 2 ^ ((i - f.leastPlace).toNat + (j - f.leastPlace).toNat) = w * 2 ^ unit f := by
    rw [← hw, hu, hv, Nat.pow_add]
    simp only [Nat.mul_assoc, Nat.mul_left_comm, Nat.mul_comm]
  unfold unit at h1
  rcases Int.le_total f.leastPlace (i + j) with hp | hp
  · rw [show (f.leastPlace - (i + j)).toNat = 0 by omega, Nat.pow_zero, Nat.mul_one]
    apply Nat.eq_of_mul_eq_mul_right (two_pos (-f.leastPlace).toNat)
    rw [← h1, Nat.mul_assoc, ← Nat.pow_add]
    congr 2
    omega
  · rw [show (i + j - f.leastPlace).toNat = 0 by omega, Nat.pow_zero, Nat.mul_one]
    apply Nat.eq_of_mul_eq_mul_right (two_pos ((i - f.leastPlace).toNat + (j - f.leastPlace).toNat))
    rw [h1, Nat.mul_assoc, ← Nat.pow_add]
    congr 2
    omega

/-- A whole number as a float. -/
theorem int_num {f : Format} (hf : Fine f) (s : Bool) (n : Nat) (hr : Rep f n) (hcap : n * 2 ^ unit f < 2 ^ cap f) : Num f (f.nearest s n 0) s (n * 2 ^ unit f) := by
  refine num_of hf s n _ 0 ?_ (rep_mul hr _) hcap
  have := hf.neg
  unfold unit
  rw [show (0 - f.leastPlace).toNat = (-f.leastPlace).toNat by omega, show (f.leastPlace - 0).toNat = 0 by omega]
  simp

/-! ### What is no NaN -/
theorem nearest_ok (f : Format) (s : Bool) (mag : Nat) (place : Int) : (f.read (f.nearest s mag place)).isNaN = false := by
  have key : ∀ r, r ≤ f.infRung → (f.read (f.word s r)).isNaN = false := by
    intro r hr
    rw [read_word f s r (Nat.lt_of_le_of_lt hr f.infRung_lt)]
    split
    · rfl
    · split
      · rfl
      · rw [if_pos (by omega)]; rfl
  unfold Format.nearest
  split
  · exact key 0 (Nat.zero_le _)
  · exact key _ (Nat.min_le_right _ _)
theorem order_self {f : Format} {x : Nat} (h : (f.read x).isNaN = false) : f.order x x = some .eq := by
  unfold Format.order
  cases hx : f.read x with
  | number s m e => simp [Datum.order]
  | infinity s => simp [Datum.order]
  | nan s t => rw [hx] at h; cases h
theorem order_nan {f : Format} {x y : Nat} (h : (f.read x).isNaN = true ∨ (f.read y).isNaN = true) : f.order x y = none := by
  unfold Format.order
  rcases h with h | h
  · cases hx : f.read x with
    | nan s t => rfl
    | number s m e => rw [hx] at h; cases h
    | infinity s => rw [hx] at h; cases h
  · cases hy : f.read y with
    | nan s t => cases f.read x <;> rfl
    | number s m e => rw [hy] at h; cases h
    | infinity s => rw [hy] at h; cases h
/-- A quotient by a number that is not 0. -/
theorem div_some {f : Format} {x y : Nat} (hx : (f.read x).isNaN = false) {t : Bool} {n : Nat} {j : Int} (hy : f.read y = .number t n j) (hn : n ≠ 0) : ∃ r, f.div x y = some r ∧ (f.read r).isNaN = false := by
  unfold Format.div
  rw [hy]
  cases h : f.read x with
  | nan s t => rw [h] at hx; cases hx
  | infinity s =>
    refine ⟨_, rfl, ?_⟩
    show (f.read (f.word (s ^^ t) f.infRung)).isNaN = false
    rw [read_word f _ _ f.infRung_lt]
    have h1 : f.binade ≤ f.infRung ∨ f.infRung < f.binade := by omega
    split
    · rfl
    · rw [if_neg (by omega), if_pos rfl]; rfl
  | number s m i =>
    simp only [Datum.quotient, if_neg hn, Option.map_some, Format.write]
    exact ⟨_, rfl, nearest_ok _ _ _ _⟩
/-- A number by a zero. -/
theorem div_zero {f : Format} {x y : Nat} {s t : Bool} {m : Nat} {i j : Int} (hx : f.read x = .number s m i) (hm : m ≠ 0) (hy : f.read y = .number t 0 j) : ∃ r, f.div x y = some r := by
  unfold Format.div
  rw [hx, hy]
  simp only [Datum.quotient, if_true, if_neg hm, Option.map_some]
  exact ⟨_, rfl⟩
/-- What equals a zero is one. -/
theorem eq_zero {f : Format} {x y : Nat} {t : Bool} {j : Int} (hy : f.read y = .number t 0 j) (h : f.order x y = some .eq) : ∃ s i, f.read x = .number s 0 i := by
  unfold Format.order at h
  rw [hy] at h
  cases hx : f.read x with
  | nan s t => rw [hx] at h; simp [Datum.order] at h
  | infinity s => rw [hx] at h; cases s <;> simp [Datum.order] at h
  | number s m i =>
    rw [hx] at h
    simp only [Datum.order, signed_sg, Option.some.injEq, Nat.zero_mul] at h
    have h1 := Int.compare_eq_eq.1 h
    have h2 : sg t 0 = 0 := by unfold sg; cases t <;> rfl
    rw [h2] at h1
    have h3 : m * 2 ^ (i - min i j).toNat = 0 := by
      have := congrArg Int.natAbs h1
      rw [natAbs_sg] at this
      simpa using this
    have h4 : m = 0 := by
      rcases Nat.mul_eq_zero.1 h3 with h | h
      · exact h
      · exact absurd h (Nat.ne_of_gt (two_pos _))
    subst h4
    exact ⟨s, i, rfl⟩
end Go.Proofs.YtobpnoiienpipaaGreat.Flt

/-
  What is proved: plain facts on doubles: what rounding to the nearest whole number does to a word, and when the thousandths of a float are in range.
  Conditions: none beyond those that each fact names.
-/
namespace Go.Proofs.YtobpnoiienpipaaGreat.Flt
set_option linter.unusedVariables false
open Ieee

/-! ### Bits -/
/-! ### Constants, and what is left over -/
theorem read_bound {f : Format} {b : Nat} {s : Bool} {m : Nat} {e : Int} (h : f.read b = .number s m e) : m < 2 ^ (f.fractionBits + 1) := by
  have hb : 0 < f.binade := two_pos _
  have h2 : 2 ^ (f.fractionBits + 1) = 2 * f.binade := Nat.pow_succ'
  unfold Format.read at h
  simp only at h
  split at h
  · simp only [Datum.number.injEq] at h; omega
  · split at h
    · simp only [Datum.number.injEq] at h
      have := Nat.mod_lt (b % f.signWeight) hb
      omega
    · split at h <;> cases h
theorem sg_self (T : Int) (b : Bool) : sg (if T = 0 then b else decide (T < 0)) T.natAbs = T := by
  unfold sg
  by_cases h : T = 0
  · subst h; simp
  · rw [if_neg h]
    by_cases h2 : T < 0
    · simp [h2]; omega
    · simp [h2]; omega
theorem cmp_lt {a b : Int} (h : a < b) : compare a b = .lt := Int.compare_eq_lt.2 h
theorem cmp_gt {a b : Int} (h : b < a) : compare a b = .gt := Int.compare_eq_gt.2 h
theorem cmp_eq {a b : Int} (h : a = b) : compare a b = .eq := Int.compare_eq_eq.2 h
theorem cap64 : cap double = 2098 := by decide
end Go.Proofs.YtobpnoiienpipaaGreat.Flt
