/-
  What is proved: the walks of SetOk and NewSet, the program's and the model's.
  Conditions: the numbers are 64-bit ones; the log can be read.
-/
import Derived.Test.YtobpnoiienpipaaGreatPz31
import Derived.Test.YtobpnoiienpipaaGreatImplStarts
import Derived.Test.YtobpnoiienpipaaGreatPz16
import Derived.Test.YtobpnoiienpipaaGreatPz19
import Derived.Test.YtobpnoiienpipaaGreatPz29
namespace Go.Proofs.YtobpnoiienpipaaGreat
set_option linter.unusedVariables false
open Go.RowKit
attribute [local go_sem] run_store_float run_store_complex unary_negf neg256 neg1024

def ge0 (x : Nat) : Bool := Ieee.single.order 0 x == some .lt || Ieee.single.order 0 x == some .eq
def le16 (x : Nat) : Bool := Ieee.single.order x 1098907648 == some .lt || Ieee.single.order x 1098907648 == some .eq
theorem geq_0 (x : Nat) : (FloatKind.f32.format.order x 0 == some .gt || FloatKind.f32.format.order x 0 == some .eq) = ge0 x := by
  obtain ⟨h1, h2⟩ := dorder_swap (Ieee.single.read x) (Ieee.single.read 0)
  show (Ieee.single.order x 0 == some .gt || Ieee.single.order x 0 == some .eq) = _
  unfold ge0 Ieee.Format.order
  rw [h1, h2]
theorem leq_0 (x : Nat) : (FloatKind.f32.format.order 0 x == some .lt || FloatKind.f32.format.order 0 x == some .eq) = ge0 x := rfl
theorem leq_16 (x : Nat) : (FloatKind.f32.format.order x 1098907648 == some .lt || FloatKind.f32.format.order x 1098907648 == some .eq) = le16 x := rfl
attribute [local go_sem] geq_0 leq_0 leq_16 geq_lo1 leq_lo1 leq_hi1

/-- Is the set valid? n: how many texts its log has. -/
def setB (x : SetC) (n : Nat) : Bool := decide (1 ≤ x.c) && (decide (x.c ≤ 64) && (rowCnt x.r && (fin1 x.s && (ge0 x.l && (le16 x.l && (ge0 x.t && (le16 x.t && decide (n ≤ 100))))))))
theorem isGain_any (x : Nat) (w : World) :
    Calls Tryz.prog 62 #[.float .f32 x] w fun e w' => e = .returned (.bool (ge0 x && le16 x)) ∧ w = w' := by
  cases h : ge0 x
  · go_enter Tryz.func62, Tryz.ntmps62
    go_wp2
    go_ret
    exact ⟨rfl, rfl⟩
  · go_enter Tryz.func62, Tryz.ntmps62
    go_wp2
    go_ret
    exact ⟨by simp, rfl⟩
theorem l05In1_any (x : Nat) (w : World) :
    Calls Tryz.prog 69 #[.float .f32 x, .float .f32 1149239296] w fun e w' => e = .returned (.bool (fin1 x)) ∧ w = w' := by
  unfold fin1
  cases h : lo1 x
  · go_enter Tryz.func69, Tryz.ntmps69
    go_wp2
    go_ret
    exact ⟨rfl, rfl⟩
  · go_enter Tryz.func69, Tryz.ntmps69
    go_wp2
    go_ret
    exact ⟨by simp, rfl⟩
set_option maxRecDepth 100000 in
set_option maxHeartbeats 4000000 in
theorem setOk_any (x : SetC) (v : Value) (ls : List (List UInt8)) (w : World) (hx : x.ok) (h : TRow w v ls) (hl : ls.length ≤ 3000000) :
    Calls Tryz.prog 31 #[x.val v] w fun e w' => e = .returned (.bool (setB x ls.length)) ∧ Below w.heap.size w w' := by
  have hA : ∀ o, Below w.heap.size w (w.alloc o) := fun o => (Below.refl _ _).alloc (Nat.le_refl _) o
  obtain ⟨a, c, rfl⟩ := h.lenv
  obtain ⟨xc, xr, xs, xl, xt⟩ := x
  obtain ⟨⟨i1, i2⟩, ⟨i3, i4⟩⟩ := hx
  simp only [SetC.val, setB] at *
  have H1 := fun W => Lib.hid (isRowCount_any xr i3 i4 W)
  have H2 := fun W => Lib.hid (within1_any xs W)
  have H3 := fun W => Lib.hid (isGain_any xl W)
  have H4 := fun W => Lib.hid (isGain_any xt W)
  rw [← Bool.and_assoc (ge0 xt), ← Bool.and_assoc (ge0 xl)]
  clear h i3 i4
  generalize rowCnt xr = b1 at *
  generalize fin1 xs = b2 at *
  generalize (ge0 xl && le16 xl) = b3 at *
  generalize (ge0 xt && le16 xt) = b4 at *
  by_cases q1 : 1 ≤ xc
  rotate_left
  · go_enter Tryz.func31, Tryz.ntmps31
    go_wp2_with (first | (go_at_call 55; refine (H1 _).out.mono ?_; rintro e w1 ⟨rfl, rfl⟩) | (go_at_call 61; refine (H2 _).out.mono ?_; rintro e w1 ⟨rfl, rfl⟩) | (go_at_call 62; first | (refine (H3 _).out.mono ?_; rintro e w1 ⟨rfl, rfl⟩) | (refine (H4 _).out.mono ?_; rintro e w1 ⟨rfl, rfl⟩)))
    all_goals
      go_ret
      refine ⟨?_, hA _⟩
      first | rfl | (simp_all; done) | (simp_all; omega) | (simp_all; intros; omega)
  by_cases q2 : xc ≤ 64
  rotate_left
  · go_enter Tryz.func31, Tryz.ntmps31
    go_wp2_with (first | (go_at_call 55; refine (H1 _).out.mono ?_; rintro e w1 ⟨rfl, rfl⟩) | (go_at_call 61; refine (H2 _).out.mono ?_; rintro e w1 ⟨rfl, rfl⟩) | (go_at_call 62; first | (refine (H3 _).out.mono ?_; rintro e w1 ⟨rfl, rfl⟩) | (refine (H4 _).out.mono ?_; rintro e w1 ⟨rfl, rfl⟩)))
    all_goals
      go_ret
      refine ⟨?_, hA _⟩
      first | rfl | (simp_all; done) | (simp_all; omega) | (simp_all; intros; omega)
  cases b1
  · go_enter Tryz.func31, Tryz.ntmps31
    go_wp2_with (first | (go_at_call 55; refine (H1 _).out.mono ?_; rintro e w1 ⟨rfl, rfl⟩) | (go_at_call 61; refine (H2 _).out.mono ?_; rintro e w1 ⟨rfl, rfl⟩) | (go_at_call 62; first | (refine (H3 _).out.mono ?_; rintro e w1 ⟨rfl, rfl⟩) | (refine (H4 _).out.mono ?_; rintro e w1 ⟨rfl, rfl⟩)))
    all_goals
      go_ret
      refine ⟨?_, hA _⟩
      first | rfl | (simp_all; done) | (simp_all; omega) | (simp_all; intros; omega)
  cases b2
  · go_enter Tryz.func31, Tryz.ntmps31
    go_wp2_with (first | (go_at_call 55; refine (H1 _).out.mono ?_; rintro e w1 ⟨rfl, rfl⟩) | (go_at_call 61; refine (H2 _).out.mono ?_; rintro e w1 ⟨rfl, rfl⟩) | (go_at_call 62; first | (refine (H3 _).out.mono ?_; rintro e w1 ⟨rfl, rfl⟩) | (refine (H4 _).out.mono ?_; rintro e w1 ⟨rfl, rfl⟩)))
    all_goals
      go_ret
      refine ⟨?_, hA _⟩
      first | rfl | (simp_all; done) | (simp_all; omega) | (simp_all; intros; omega)
  cases b3
  · go_enter Tryz.func31, Tryz.ntmps31
    go_wp2_with (first | (go_at_call 55; refine (H1 _).out.mono ?_; rintro e w1 ⟨rfl, rfl⟩) | (go_at_call 61; refine (H2 _).out.mono ?_; rintro e w1 ⟨rfl, rfl⟩) | (go_at_call 62; first | (refine (H3 _).out.mono ?_; rintro e w1 ⟨rfl, rfl⟩) | (refine (H4 _).out.mono ?_; rintro e w1 ⟨rfl, rfl⟩)))
    all_goals
      go_ret
      refine ⟨?_, hA _⟩
      first | rfl | (simp_all; done) | (simp_all; omega) | (simp_all; intros; omega)
  cases b4
  · go_enter Tryz.func31, Tryz.ntmps31
    go_wp2_with (first | (go_at_call 55; refine (H1 _).out.mono ?_; rintro e w1 ⟨rfl, rfl⟩) | (go_at_call 61; refine (H2 _).out.mono ?_; rintro e w1 ⟨rfl, rfl⟩) | (go_at_call 62; first | (refine (H3 _).out.mono ?_; rintro e w1 ⟨rfl, rfl⟩) | (refine (H4 _).out.mono ?_; rintro e w1 ⟨rfl, rfl⟩)))
    all_goals
      go_ret
      refine ⟨?_, hA _⟩
      first | rfl | (simp_all; done) | (simp_all; omega) | (simp_all; intros; omega)
  go_enter Tryz.func31, Tryz.ntmps31
  go_wp2_with (first | (go_at_call 55; refine (H1 _).out.mono ?_; rintro e w1 ⟨rfl, rfl⟩) | (go_at_call 61; refine (H2 _).out.mono ?_; rintro e w1 ⟨rfl, rfl⟩) | (go_at_call 62; first | (refine (H3 _).out.mono ?_; rintro e w1 ⟨rfl, rfl⟩) | (refine (H4 _).out.mono ?_; rintro e w1 ⟨rfl, rfl⟩)))
  all_goals
    go_ret
    refine ⟨?_, hA _⟩
    first | rfl | (simp_all; done) | (simp_all; omega) | (simp_all; intros; omega)
theorem setB_parts (x : SetC) (n : Nat) : setB x n = ((decide (1 ≤ x.c) && decide (x.c ≤ 64)) && ((decide (4 ≤ x.r) && decide (x.r ≤ 64)) && (decide (x.r % 4 = 0) && (fin1 x.s && (ge0 x.l && (le16 x.l && (ge0 x.t && (le16 x.t && decide (n ≤ 100))))))))) := by
  unfold setB rowCnt
  cases decide (1 ≤ x.c) <;> cases decide (x.c ≤ 64) <;> cases decide (4 ≤ x.r) <;> cases decide (x.r ≤ 64) <;> cases decide (x.r % 4 = 0) <;> rfl
set_option maxRecDepth 100000 in
set_option maxHeartbeats 4000000 in
theorem specSetOk_any (x : SetC) (v : Value) (ls : List (List UInt8)) (w : World) (hx : x.ok) (h : TRow w v ls) (hl : ls.length ≤ 3000000) :
    Calls Tryz.prog 38 #[x.val v] w fun e w' => e = .returned (.bool (setB x ls.length)) ∧ Below w.heap.size w w' := by
  have hA : ∀ o, Below w.heap.size w (w.alloc o) := fun o => (Below.refl _ _).alloc (Nat.le_refl _) o
  rw [setB_parts]
  obtain ⟨a, c, rfl⟩ := h.lenv
  obtain ⟨xc, xr, xs, xl, xt⟩ := x
  obtain ⟨h1, h2⟩ := hx
  simp only [SetC.val] at *
  have HI := fun x a b W (h : -9223372036854775808 ≤ x ∧ x ≤ 9223372036854775807) => Lib.hid (l01In_any x a b W h)
  have H2 := fun W => Lib.hid (l05In1_any xs W)
  obtain ⟨i3, i4⟩ := id h2
  have hr : (decide (4 ≤ xr) && decide (xr ≤ 64)) = true → 4 ≤ xr := by simp; intros; omega
  clear h
  obtain ⟨b0, hb0⟩ : ∃ b, (decide (1 ≤ xc) && decide (xc ≤ 64)) = b := ⟨_, rfl⟩
  obtain ⟨b1, hb1⟩ : ∃ b, (decide (4 ≤ xr) && decide (xr ≤ 64)) = b := ⟨_, rfl⟩
  rw [hb1] at hr
  rw [hb0, hb1]
  have E0 := Lib.hid hb0
  have E1 := Lib.hid hb1
  clear hb0 hb1
  generalize fin1 xs = b2 at *
  obtain ⟨B, hB⟩ : ∃ B, (b0 && (b1 && (decide (xr % 4 = 0) && (b2 && (ge0 xl && (le16 xl && (ge0 xt && (le16 xt && decide (ls.length ≤ 100))))))))) = B := ⟨_, rfl⟩
  rw [hB]
  have HB := Lib.hid hB.symm
  clear hB
  cases b0
  · go_enter Tryz.func38, Tryz.ntmps38
    go_wp2_with (first | (go_at_call 68; refine (HI _ _ _ _ (by first | exact h1 | exact h2)).out.mono ?_; rintro e w1 ⟨rfl, rfl⟩; first | rw [E0.out] | rw [E1.out]) | (go_at_call 69; refine (H2 _).out.mono ?_; rintro e w1 ⟨rfl, rfl⟩))
    all_goals
      go_ret
      refine ⟨?_, hA _⟩
      rw [HB.out]
      first | rfl | (simp_all; done) | (simp_all; omega)
  cases b1
  · go_enter Tryz.func38, Tryz.ntmps38
    go_wp2_with (first | (go_at_call 68; refine (HI _ _ _ _ (by first | exact h1 | exact h2)).out.mono ?_; rintro e w1 ⟨rfl, rfl⟩; first | rw [E0.out] | rw [E1.out]) | (go_at_call 69; refine (H2 _).out.mono ?_; rintro e w1 ⟨rfl, rfl⟩))
    all_goals
      go_ret
      refine ⟨?_, hA _⟩
      rw [HB.out]
      first | rfl | (simp_all; done) | (simp_all; omega)
  have hr4 := hr rfl
  clear hr
  by_cases q1 : xr % 4 = 0
  rotate_left
  · go_enter Tryz.func38, Tryz.ntmps38
    go_wp2_with (first | (go_at_call 68; refine (HI _ _ _ _ (by first | exact h1 | exact h2)).out.mono ?_; rintro e w1 ⟨rfl, rfl⟩; first | rw [E0.out] | rw [E1.out]) | (go_at_call 69; refine (H2 _).out.mono ?_; rintro e w1 ⟨rfl, rfl⟩))
    all_goals
      go_ret
      refine ⟨?_, hA _⟩
      rw [HB.out]
      first | rfl | (simp_all; done) | (simp_all; omega)
  cases b2
  · go_enter Tryz.func38, Tryz.ntmps38
    go_wp2_with (first | (go_at_call 68; refine (HI _ _ _ _ (by first | exact h1 | exact h2)).out.mono ?_; rintro e w1 ⟨rfl, rfl⟩; first | rw [E0.out] | rw [E1.out]) | (go_at_call 69; refine (H2 _).out.mono ?_; rintro e w1 ⟨rfl, rfl⟩))
    all_goals
      go_ret
      refine ⟨?_, hA _⟩
      rw [HB.out]
      first | rfl | (simp_all; done) | (simp_all; omega)
  cases g1 : ge0 xl
  · go_enter Tryz.func38, Tryz.ntmps38
    go_wp2_with (first | (go_at_call 68; refine (HI _ _ _ _ (by first | exact h1 | exact h2)).out.mono ?_; rintro e w1 ⟨rfl, rfl⟩; first | rw [E0.out] | rw [E1.out]) | (go_at_call 69; refine (H2 _).out.mono ?_; rintro e w1 ⟨rfl, rfl⟩))
    all_goals
      go_ret
      refine ⟨?_, hA _⟩
      rw [HB.out]
      first | rfl | (simp_all; done) | (simp_all; omega)
  cases g2 : le16 xl
  · go_enter Tryz.func38, Tryz.ntmps38
    go_wp2_with (first | (go_at_call 68; refine (HI _ _ _ _ (by first | exact h1 | exact h2)).out.mono ?_; rintro e w1 ⟨rfl, rfl⟩; first | rw [E0.out] | rw [E1.out]) | (go_at_call 69; refine (H2 _).out.mono ?_; rintro e w1 ⟨rfl, rfl⟩))
    all_goals
      go_ret
      refine ⟨?_, hA _⟩
      rw [HB.out]
      first | rfl | (simp_all; done) | (simp_all; omega)
  cases g3 : ge0 xt
  · go_enter Tryz.func38, Tryz.ntmps38
    go_wp2_with (first | (go_at_call 68; refine (HI _ _ _ _ (by first | exact h1 | exact h2)).out.mono ?_; rintro e w1 ⟨rfl, rfl⟩; first | rw [E0.out] | rw [E1.out]) | (go_at_call 69; refine (H2 _).out.mono ?_; rintro e w1 ⟨rfl, rfl⟩))
    all_goals
      go_ret
      refine ⟨?_, hA _⟩
      rw [HB.out]
      first | rfl | (simp_all; done) | (simp_all; omega)
  cases g4 : le16 xt
  · go_enter Tryz.func38, Tryz.ntmps38
    go_wp2_with (first | (go_at_call 68; refine (HI _ _ _ _ (by first | exact h1 | exact h2)).out.mono ?_; rintro e w1 ⟨rfl, rfl⟩; first | rw [E0.out] | rw [E1.out]) | (go_at_call 69; refine (H2 _).out.mono ?_; rintro e w1 ⟨rfl, rfl⟩))
    all_goals
      go_ret
      refine ⟨?_, hA _⟩
      rw [HB.out]
      first | rfl | (simp_all; done) | (simp_all; omega)
  go_enter Tryz.func38, Tryz.ntmps38
  go_wp2_with (first | (go_at_call 68; refine (HI _ _ _ _ (by first | exact h1 | exact h2)).out.mono ?_; rintro e w1 ⟨rfl, rfl⟩; first | rw [E0.out] | rw [E1.out]) | (go_at_call 69; refine (H2 _).out.mono ?_; rintro e w1 ⟨rfl, rfl⟩))
  all_goals
    go_ret
    refine ⟨?_, hA _⟩
    rw [HB.out]
    first | rfl | (simp_all; done) | (simp_all; omega)
end Go.Proofs.YtobpnoiienpipaaGreat

/-
  What is proved: what a set cuts out of a stream, and what it takes of two lines.
  Conditions: the stream and the lines can be read.
-/
namespace Go.Proofs.YtobpnoiienpipaaGreat
set_option linter.unusedVariables false
open Go.RowKit
attribute [local go_sem] run_store_float run_store_complex unary_negf neg256

theorem startsGo_bound {rs : List R2} {N len gap : Nat} (hlen : 28 ≤ len) : ∀ (f p m : Nat) (out : List Int), (∀ z ∈ out, 0 ≤ z ∧ z ≤ (N : Int)) → (∀ z ∈ startsGo rs N len gap f p m out, 0 ≤ z ∧ z ≤ (N : Int)) ∧ (startsGo rs N len gap f p m out).length ≤ out.length + f
  | 0, _, _, out, ho => ⟨ho, Nat.le_refl _⟩
  | f + 1, p, m, out, ho => by
    have hadd : ∀ b : Nat, b ≤ N → ∀ z ∈ out ++ [(b : Int)], 0 ≤ z ∧ z ≤ (N : Int) := fun b hb z hz => by
      rcases List.mem_append.1 hz with hz | hz
      · exact ho z hz
      · rw [List.mem_singleton.1 hz]; omega
    by_cases h : p + 2 * len ≤ N
    · cases hb : nearR rs (p + len) with
      | some b =>
        rw [startsGo_found h hb]
        obtain ⟨h1, h2, _⟩ := nearR_near hb
        obtain ⟨i1, i2⟩ := startsGo_bound (rs := rs) (gap := gap) hlen f b 0 (out ++ [(b : Int)]) (hadd b (by omega))
        rw [List.length_append, List.length_singleton] at i2
        exact ⟨i1, by omega⟩
      | none =>
        by_cases hg : gap < m + 1
        · rw [startsGo_stop h hb hg]; exact ⟨ho, by omega⟩
        · rw [startsGo_missed h hb hg]
          obtain ⟨i1, i2⟩ := startsGo_bound (rs := rs) (gap := gap) hlen f (p + len) (m + 1) (out ++ [((p + len : Nat) : Int)]) (hadd (p + len) (by omega))
          rw [List.length_append, List.length_singleton] at i2
          exact ⟨i1, by omega⟩
    · rw [startsGo_end h]; exact ⟨ho, by omega⟩
theorem starts_bound (xs : List Nat) (s : Nat) (n g : Int) : (∀ z ∈ starts xs s n g, 0 ≤ z ∧ z ≤ (xs.length : Int)) ∧ (starts xs s n g).length ≤ xs.length + 2 := by
  unfold starts
  split
  · exact ⟨fun z hz => (by cases hz), Nat.zero_le _⟩
  · rename_i r rs hr
    split
    · rename_i h
      have hn : 28 ≤ n.toNat := by
        have := h.1
        unfold startsOk at this
        simp only [Bool.and_eq_true, decide_eq_true_eq] at this
        omega
      obtain ⟨i1, i2⟩ := startsGo_bound (rs := r :: rs) (N := xs.length) (gap := g.toNat) hn (xs.length + 1) r.1 0 [(r.1 : Int)] (fun z hz => by
        rw [List.mem_singleton.1 hz]; have := h.2; omega)
      rw [List.length_singleton] at i2
      exact ⟨i1, by omega⟩
    · exact ⟨fun z hz => (by cases hz), Nat.zero_le _⟩
theorem Grid.mono {w : World} {base base' : Nat} {v : Value} {rows : List (List Nat)} {ss : List SV} (h : Grid w base v rows ss) (hb : base' ≤ base) : Grid w base' v rows ss :=
  ⟨h.own.mono hb, ⟨h.lines.len, fun i h1 h2 => (h.lines.row i h1 h2).mono hb, h.lines.apart, h.lines.out⟩⟩
/-- The lines that a set cuts out of a stream. -/
def setLines (x : SetC) (xs : List Nat) : List (List Nat) := cuts xs (starts xs x.s (24 + 4 * x.c) 3) (24 + 4 * x.c)
set_option maxHeartbeats 1000000 in
theorem cutLines_any (x : SetC) (vl : Value) (v : Value) (xs : List Nat) (w : World) (hc : 1 ≤ x.c ∧ x.c ≤ 64) (h : FRow w v xs) (hl : xs.length ≤ 3000000) :
    Calls Tryz.prog 32 #[x.val vl, v] w fun e w' => GotG (setLines x xs) w e w' := by
  obtain ⟨b1, b2⟩ := starts_bound xs x.s (24 + 4 * x.c) 3
  have HS := fun W hr => Lib.hid (starts_any v xs x.s (24 + 4 * x.c) 3 W hr ⟨by omega, by omega⟩ ⟨by decide, by decide⟩ (by omega))
  have HCU := fun vp W hr hp => Lib.hid (cut_any v vp xs (starts xs x.s (24 + 4 * x.c) 3) (24 + 4 * x.c) W hr hp (fun p hp => by have := b1 p hp; exact ⟨by omega, by omega⟩) ⟨by omega, by omega⟩ (by omega) (by omega))
  have HE := Lib.hid (show cuts xs (starts xs x.s (24 + 4 * x.c) 3) (24 + 4 * x.c) = setLines x xs from rfl)
  obtain ⟨a, c, rfl⟩ := h.lenv
  have HR := Lib.hid h
  have A := SetAt.new w x vl 37
  have hb0 := (Below.refl w.heap.size w).alloc (Nat.le_refl _) (.cells (x.cells vl) 37)
  obtain ⟨xc, xr, xsl, xl, xt⟩ := x
  obtain ⟨p0, p1, p2, p3, p4, p5⟩ := A
  simp only [SetC.val, SetC.cells] at *
  obtain ⟨nn, hnn⟩ : ∃ nn, nn = 24 + 4 * xc := ⟨_, rfl⟩
  have hw1 : IntKind.i64.wrap (4 * xc) = 4 * xc := IntWalk.i64_in _ (by omega)
  have hw2 : IntKind.i64.wrap (24 + 4 * xc) = nn := by rw [IntWalk.i64_in _ (by omega)]; omega
  rw [← hnn] at HS HCU HE
  generalize hst : starts xs xsl nn 3 = sts at *
  clear hnn h b1 b2 hst
  go_enter Tryz.func32, Tryz.ntmps32
  go_wp2_with fail
  generalize World.alloc w _ = w1 at *
  refine (HS w1 (HR.out.below hb0)).out.mono ?_
  rintro e w2 ⟨vp, rfl, hp2, hb2⟩
  have hb02 := below_trans hb0 hb2 hb0.size
  go_wp2_with fail
  refine (HCU vp w2 (HR.out.below hb02) hp2.row).out.mono ?_
  rintro e w3 ⟨v3, s3, rfl, hg3, hb3⟩
  have hb03 := below_trans hb02 hb3 hb02.size
  have HG := Lib.hid (show Grid w3 w2.heap.size v3 _ s3 from hg3)
  have hsz := hb02.size
  clear hg3 hb3
  go_wp2
  go_ret
  refine ⟨v3, s3, rfl, ?_, hb03⟩
  rw [← HE.out]
  exact HG.out.mono hsz

/-- What a set takes of two lines. -/
def PairS (a b : List Nat) (l k : Nat) (two : List (List C3)) (ok : Bool) : Prop := ((levOk a && levOk b) = false ∧ ok = false ∧ two = []) ∨ ((levOk a && levOk b) = true ∧ TakeRR (levs a) (levs b) l k two ok)
theorem PairS.same {a b : List Nat} {l k : Nat} {two two' : List (List C3)} {ok ok' : Bool} (h : PairS a b l k two ok) (h' : PairS a b l k two' ok') : ok = ok' ∧ two = two' := by
  rcases h with ⟨h1, rfl, rfl⟩ | ⟨h1, h2⟩ <;> rcases h' with ⟨k1, rfl, rfl⟩ | ⟨k1, k2⟩
  · exact ⟨rfl, rfl⟩
  · rw [h1] at k1; cases k1
  · rw [h1] at k1; cases k1
  · exact h2.same k2
theorem PairS.two {a b : List Nat} {l k : Nat} {two : List (List C3)} {ok : Bool} (h : PairS a b l k two ok) : Two2 two := by
  rcases h with ⟨_, _, rfl⟩ | ⟨_, h2⟩
  · exact two2_of (Nat.zero_le _) fun r hr => by cases hr
  · exact h2.two
def PairSA (a b : List Nat) (l k : Nat) (w : World) (e : Ending) (w' : World) : Prop := ∃ v two ss ok, e = .returned (.tuple #[v, .bool ok]) ∧ PairS a b l k two ok ∧ GridN w' w.heap.size v two ss ∧ Below w.heap.size w w'
set_option maxHeartbeats 1000000 in
theorem takenPair_any (x : SetC) (vl va vb : Value) (a b : List Nat) (w : World) (ha : FRow w va a) (hb : FRow w vb b) (hla : a.length ≤ 3000000) (hlb : b.length ≤ 3000000) :
    Calls Tryz.prog 66 #[x.val vl, va, vb] w fun e w' => PairSA a b x.l x.t w e w' := by
  have HA := fun W hr => Lib.hid (toLevel_any va a W hr (by omega))
  have HB := fun W hr => Lib.hid (toLevel_any vb b W hr (by omega))
  obtain ⟨aa, ca, rfl⟩ := ha.lenv
  obtain ⟨ab, cb, rfl⟩ := hb.lenv
  have HRA := Lib.hid ha
  have HRB := Lib.hid hb
  have K := heap_alloc_new w (.cells (x.cells vl) 37)
  have hb0 := (Below.refl w.heap.size w).alloc (Nat.le_refl _) (.cells (x.cells vl) 37)
  have hz0 : (w.alloc (.cells (x.cells vl) 37)).heap.size = w.heap.size + 1 := by simp
  obtain ⟨xc, xr, xsl, xl, xt⟩ := x
  simp only [SetC.val, SetC.cells] at *
  have HTK := fun v v' ys zs W hr hr' h1 h2 => Lib.hid (take_any v v' ys zs xl xt W hr hr' h1 h2)
  clear ha hb
  cases h1 : levOk a with
  | false =>
    rw [h1] at HA
    have HE := Lib.hid (show (levOk a && levOk b) = false by rw [h1]; rfl)
    cases h2 : levOk b with
    | _ =>
      rw [h2] at HB
      clear h1 h2 HTK
      go_enter Tryz.func66, Tryz.ntmps66
      go_wp2_with fail
      generalize World.alloc w _ = w1 at *
      refine (HA w1 (HRA.out.below hb0)).out.mono ?_
      rintro e w2 ⟨v2, ys, rfl, _, hn2, hb2⟩
      have hb02 := below_trans hb0 hb2 hb0.size
      go_wp2_with fail
      refine (HB w2 (HRB.out.below hb02)).out.mono ?_
      rintro e w3 ⟨v3, zs, rfl, _, hn3, hb3⟩
      have hb03 := below_trans hb02 hb3 hb02.size
      clear hb2 hb3 hn2 hn3
      go_wp2
      go_ret2
      exact ⟨_, [], [], false, rfl, .inl ⟨HE.out, rfl, rfl⟩, GridN.nil0 _ _, hb03⟩
  | true =>
    rw [h1] at HA
    cases h2 : levOk b with
    | false =>
      rw [h2] at HB
      have HE := Lib.hid (show (levOk a && levOk b) = false by rw [h2, Bool.and_false])
      clear h1 h2 HTK
      go_enter Tryz.func66, Tryz.ntmps66
      go_wp2_with fail
      generalize World.alloc w _ = w1 at *
      refine (HA w1 (HRA.out.below hb0)).out.mono ?_
      rintro e w2 ⟨v2, ys, rfl, _, hn2, hb2⟩
      have hb02 := below_trans hb0 hb2 hb0.size
      go_wp2_with fail
      refine (HB w2 (HRB.out.below hb02)).out.mono ?_
      rintro e w3 ⟨v3, zs, rfl, _, hn3, hb3⟩
      have hb03 := below_trans hb02 hb3 hb02.size
      clear hb2 hb3 hn2 hn3
      go_wp2
      go_ret2
      exact ⟨_, [], [], false, rfl, .inl ⟨HE.out, rfl, rfl⟩, GridN.nil0 _ _, hb03⟩
    | true =>
      rw [h2] at HB
      have HE := Lib.hid (show (levOk a && levOk b) = true by rw [h1, h2]; rfl)
      have HYA := Lib.hid (show ∀ ys, levR a ys → ys = levs a from fun ys h => by unfold levR at h; rw [if_pos h1] at h; exact h)
      have HYB := Lib.hid (show ∀ ys, levR b ys → ys = levs b from fun ys h => by unfold levR at h; rw [if_pos h2] at h; exact h)
      clear h1 h2
      go_enter Tryz.func66, Tryz.ntmps66
      go_wp2_with fail
      generalize World.alloc w _ = w1 at *
      refine (HA w1 (HRA.out.below hb0)).out.mono ?_
      rintro e w2 ⟨v2, ys, rfl, hy, hn2, hb2⟩
      obtain rfl := HYA.out ys hy
      have hb02 := below_trans hb0 hb2 hb0.size
      replace K := (hb2.block w.heap.size (by omega)).trans K
      have HN2 := Lib.hid hn2
      have hz2 := hb2.size
      clear hn2 hb2 hy
      go_wp2_with fail
      refine (HB w2 (HRB.out.below hb02)).out.mono ?_
      rintro e w3 ⟨v3, zs, rfl, hz, hn3, hb3⟩
      obtain rfl := HYB.out zs hz
      have hb03 := below_trans hb02 hb3 hb02.size
      replace K := (hb3.block w.heap.size (by omega)).trans K
      have HN3 := Lib.hid hn3.row
      have HN2' := Lib.hid (HN2.out.below hb3).row
      obtain ⟨p0, p1, p2, p3, p4, p5⟩ := SetAt.of (x := ⟨xc, xr, xsl, xl, xt⟩) (v := vl) K
      clear hn3 hb3 hz HN2 K
      go_wp2_with fail
      refine (HTK _ _ _ _ w3 HN2'.out HN3.out (by rw [levs_len]; omega) (by rw [levs_len]; omega)).out.mono ?_
      rintro e w4 ⟨v4, two, s4, ok, rfl, ht4, hg4, hb4⟩
      have hb04 := below_trans hb03 hb4 hb03.size
      have HG := Lib.hid hg4
      have HT := Lib.hid ht4
      have hz3 := hb03.size
      clear hg4 ht4 hb4
      go_wp2
      go_ret2
      exact ⟨v4, two, s4, ok, rfl, .inr ⟨HE.out, HT.out⟩, HG.out.mono hz3, hb04⟩
end Go.Proofs.YtobpnoiienpipaaGreat
