/-
  What is proved: the exact laws' comparing and marking of lists of rows of cells.
  Conditions: those that each fact names.
-/
import Derived.Test.YtgecclccmmcdoaaPkDec
import Derived.Test.YtgecclccmmcdoaaGridC
namespace Go.Proofs.Ytgecclccmmcdoaa
set_option linter.unusedVariables false
open Go.RowKit
attribute [local go_sem] run_store_float run_store_complex unary_negf neg256

theorem eqCell_num (y u v : Nat) (w : World) (hy : isN y = false) (hu : isN u = false) (hv : isN v = false) :
    Calls Try.prog 85 #[.agg #[.float .f32 y, .complex .f32 u v], .agg #[.float .f32 y, .complex .f32 u v]] w fun e w' => e = .returned (.bool true) ∧ Below w.heap.size w w' := by
  obtain ⟨r, hr, hn⟩ := conv_num hy
  obtain ⟨p, hp, hpn⟩ := conv_num hu
  obtain ⟨q, hq, hqn⟩ := conv_num hv
  have H1 := fun W => Lib.hid (sameFloat_self r W hn)
  have H2 := fun W => Lib.hid (sameComplex_self p q W hpn hqn)
  have hc := fun W => run_convert_float_float (P := Try.prog) W 26 95 .f32 .f64 y r (by kernel_rfl) Try.underlying95 hr
  have hcv := fun W => run_convert_complex (P := Try.prog) W 27 113 .f32 .f64 u v p q (by kernel_rfl) Try.underlying113 (by unfold cConvBits; rw [hp, hq]; rfl)
  clear hr hn hp hpn hq hqn hy hu hv
  go_enter Try.func85, Try.ntmps85
  go_wp2_with fail
  refine (H1 _).out.mono ?_
  rintro e w1 ⟨rfl, rfl⟩
  go_wp2_with fail
  refine (H2 _).out.mono ?_
  rintro e w1 ⟨rfl, rfl⟩
  go_wp2
  go_ret
  exact ⟨rfl, by first | exact Below.refl _ _ | exact ((Below.refl _ _).alloc (Nat.le_refl _) _) | exact ((Below.refl _ _).alloc (Nat.le_refl _) _).alloc (by simp) _⟩

/-- No number is NaN. -/
def NumL (cs : List C3) : Prop := ∀ c ∈ cs, isN c.1 = false ∧ isN c.2.1 = false ∧ isN c.2.2 = false

set_option maxHeartbeats 2000000 in
theorem eqCells_num (v v' : Value) (cs : List C3) (w : World) (h : RowV w v cs) (h' : RowV w v' cs) (hl : cs.length ≤ 1000000) (hf : NumL cs) :
    Calls Try.prog 39 #[v, v'] w fun e w' => e = .returned (.bool true) ∧ Below w.heap.size w w' := by
  rcases h with ⟨rfl, h0⟩ | ⟨g, o, cap, rfl, hcap, hcell⟩
  · subst h0
    obtain ⟨a, c, rfl⟩ : ∃ a c, v' = .slice a 0 c := by
      rcases h' with ⟨rfl, _⟩ | ⟨g, o, cap, rfl, _⟩
      · exact ⟨none, 0, rfl⟩
      · exact ⟨_, _, rfl⟩
    clear h' hf
    go_enter Try.func39, Try.ntmps39
    go_wp2
    go_loop [5] (fun i => i = .int .i64 0) (fun _ => 0)
    case atStart => exact rfl
    case round =>
      obtain rfl := hrel
      go_wp2
      go_ret
      exact ⟨rfl, Below.refl _ _⟩
  · rcases h' with ⟨rfl, h0⟩ | ⟨g', o', cap', rfl, hcap', hcell'⟩
    · subst h0
      clear hcell hf
      go_enter Try.func39, Try.ntmps39
      go_wp2
      go_loop [5] (fun i => i = .int .i64 0) (fun _ => 0)
      case atStart => exact rfl
      case round =>
        obtain rfl := hrel
        go_wp2
        go_ret
        exact ⟨rfl, Below.refl _ _⟩
    · have HC := Lib.hid hcell
      have HC' := Lib.hid hcell'
      have HF := Lib.hid hf
      clear hcell hcell' hf
      go_enter Try.func39, Try.ntmps39
      go_wp2
      go_loopw [5] (fun i wr => ∃ k : Nat, k ≤ cs.length ∧ i = .int .i64 (k : Int) ∧ Below w.heap.size w wr) (fun i _ => cs.length - (intOf i).toNat)
      case atStart => exact ⟨0, Nat.zero_le _, rfl, Below.refl _ _⟩
      case round =>
        obtain ⟨k, hk, rfl, hb⟩ := hrel
        by_cases hlt : k < cs.length
        · obtain ⟨hc0, hc1⟩ := HC.out k hlt
          obtain ⟨hc0', hc1'⟩ := HC'.out k hlt
          have q0 := (grown_of hb).cell hc0 (by simp)
          have q1 := (grown_of hb).cell hc1 (by simp)
          have q2 := (grown_of hb).cell hc0' (by simp)
          have q3 := (grown_of hb).cell hc1' (by simp)
          obtain ⟨f1, f2, f3⟩ := HF.out cs[k] (List.getElem_mem hlt)
          have HE := fun W => Lib.hid (eqCell_num cs[k].1 cs[k].2.1 cs[k].2.2 W f1 f2 f3)
          clear hc0 hc1 hc0' hc1' f1 f2 f3
          generalize cs[k] = c at *
          have hbd : Below w.heap.size w wr.drew := belowDN hb 1
          go_wp2
          go_region_with (go_at_call 85; refine (HE _).out.mono ?_; rintro e w2 ⟨rfl, hb2⟩)
          all_goals
            have hb3 := below_trans hbd hb2 hbd.size
            clear q0 q1 q2 q3
            go_wp2
            go_roundw
            case rel => exact ⟨k + 1, by omega, by go_num, hb3⟩
            case measure => simp [intOf]; omega
        · go_wp2
          go_ret
          exact ⟨rfl, hb⟩

/-! Marks that begin with any number. -/
theorem c32_more : ∀ k : Nat, k < 300 → cConvBits .f64 (floatOfInt .f64 (k : Int)) 4607182418800017408 .f32 = some (c32 k, 1065353216) ∧ (Ieee.single.read (c32 k)).isNaN = false := by decide +kernel
theorem c32_runs (k : Nat) (h : k < 300) (W : World) : (convert 113 27 (.complex .f64 (floatOfInt .f64 (k : Int)) 4607182418800017408)).run Try.prog W = .ok (.complex .f32 (c32 k) 1065353216) W :=
  run_convert_complex (P := Try.prog) W 113 27 .f64 .f32 _ _ _ _ (by kernel_rfl) Try.underlying27 (c32_more k h).1
def kmark (k0 i : Nat) : C3 := (floatOfInt .f32 ((k0 + 2 * i : Nat) : Int), c32 (k0 + 2 * i + 1), 1065353216)
def kmarks (k0 n : Nat) : List C3 := (List.range n).map (kmark k0)
theorem kmarks_len (k0 n : Nat) : (kmarks k0 n).length = n := by simp [kmarks]
theorem kmarks_get (k0 n i : Nat) (h : i < (kmarks k0 n).length) : (kmarks k0 n)[i] = kmark k0 i := by simp [kmarks]
def MarkK (base k0 : Nat) (v : Value) (n : Nat) (w : World) (e : Ending) (w' : World) : Prop := e = .returned (.int .i64 ((k0 + 2 * n : Nat) : Int)) ∧ RNew w' base v (kmarks k0 n) ∧ w.grownBy w' v.ownBlock
set_option maxHeartbeats 2000000 in
theorem markCellsK_any (k0 base : Nat) (v : Value) (cs : List C3) (w : World) (h : RNew w base v cs) (hl : cs.length ≤ 64) (hk0 : k0 ≤ 160) :
    Calls Try.prog 42 #[v, .int .i64 (k0 : Int)] w fun e w' => MarkK base k0 v cs.length w e w' := by
  rcases h with ⟨rfl, rfl⟩ | ⟨g, cap, cur, rfl, hbase, hcap, hheap, hsz, hc⟩
  · go_enter Try.func42, Try.ntmps42
    go_wp2
    go_loop [1, 5] (fun kk i => kk = .int .i64 (k0 : Int) ∧ i = .int .i64 0) (fun _ _ => 0)
    case atStart => exact ⟨rfl, rfl⟩
    case round =>
      obtain ⟨rfl, rfl⟩ := hrel
      go_wp2
      go_ret
      exact ⟨rfl, RNew.nil _ _, World.grownBy.refl _ _⟩
  · have HST := Lib.hid (show MadeC w g cs.length 0 (kmarks k0 cs.length) from ⟨cur, hheap, hsz, fun i _ hi => absurd hi (by omega)⟩)
    clear hheap hc
    go_enter Try.func42, Try.ntmps42
    go_wp2
    go_loopw [1, 5] (fun kk i wr => ∃ k m : Nat, k ≤ cs.length ∧ i = .int .i64 (k : Int) ∧ kk = .int .i64 (m : Int) ∧ m = k0 + 2 * k ∧ w.grownBy wr (some g) ∧ MadeC wr g cs.length k (kmarks k0 cs.length)) (fun _ i _ => cs.length - (intOf i).toNat)
    case atStart => exact ⟨0, k0, Nat.zero_le _, rfl, rfl, by omega, World.grownBy.refl _ _, HST.out⟩
    case round =>
      obtain ⟨k, m, hk, rfl, rfl, hm1, hg, hm⟩ := hrel
      have HM := Lib.hid hm
      have hm64 : m ≤ 288 := by omega
      have HM1 := Lib.hid hm1
      clear hm HST hm1
      by_cases hlt : k < cs.length
      · obtain ⟨⟨x0, hx0⟩, hf0, ⟨x1, hx1⟩, hf1⟩ := HM.out.at k hlt (.float .f32 (floatOfInt .f32 (m : Int)))
        have hcv := c32_runs (m + 1) (by omega)
        have hlm : k < (kmarks k0 cs.length).length := by rw [kmarks_len]; exact hlt
        have hm3 := HM.out.step hlm (by rw [kmarks_len]; exact Nat.le_refl _)
        rw [kmarks_get] at hm3
        simp only [kmark, show k0 + 2 * k = m from HM1.out.symm] at hm3
        have hg3 := (hg.trans (Lib.grownBy_setCell wr g (k * 2) (.float .f32 (floatOfInt .f32 (m : Int))))).trans (Lib.grownBy_setCell _ g (k * 2 + 1) (.complex .f32 (c32 (m + 1)) 1065353216))
        have HM3 := Lib.hid hm3
        have HG3 := Lib.hid hg3
        rw [show ((m + 1 : Nat) : Int) = (m : Int) + 1 from by omega] at hcv
        clear hm3 hg3
        generalize c32 (m + 1) = c2 at *
        go_wp2
        go_roundw
        case rel => exact ⟨k + 1, m + 2, by omega, by go_num, by go_num, by have := HM1.out; omega, HG3.out, HM3.out⟩
        case measure => simp [intOf]; omega
      · have hkk : k = cs.length := by omega
        subst hkk
        have hmm := HM1.out
        subst hmm
        go_wp2
        go_ret
        obtain ⟨cur', k1, k2, k3⟩ := HM.out
        exact ⟨rfl, .inr ⟨g, cap, cur', by rw [kmarks_len], hbase, by rw [kmarks_len]; exact hcap, k1, by rw [kmarks_len]; exact k2, fun i hi => k3 i hi (by rw [kmarks_len] at hi; exact hi)⟩, hg⟩
set_option maxHeartbeats 2000000 in
theorem heldCellsK_any (k0 : Nat) (v : Value) (n : Nat) (w : World) (h : RowV w v (kmarks k0 n)) (hl : n ≤ 64) (hk0 : k0 ≤ 160) :
    Calls Try.prog 43 #[v, .int .i64 (k0 : Int)] w fun e w' => e = .returned (.int .i64 ((k0 + 2 * n : Nat) : Int)) ∧ ∃ q, w' = w.drewN q := by
  obtain ⟨a, c, rfl, hcell⟩ : ∃ a c, v = .slice a n c ∧ ∀ k, k < n → ∃ g o, a = some ⟨g, o, none⟩ ∧ n ≤ c ∧ w.cell? ⟨g, o + k * 2, none⟩ = some (.float .f32 (kmark k0 k).1) ∧ w.cell? ⟨g, o + k * 2 + 1, none⟩ = some (.complex .f32 (kmark k0 k).2.1 (kmark k0 k).2.2) := by
    rcases h with ⟨rfl, h0⟩ | ⟨g, o, cap, rfl, hcap, hcell⟩
    · have e := congrArg List.length h0
      rw [kmarks_len] at e
      subst e
      exact ⟨none, 0, rfl, fun k hk => absurd hk (Nat.not_lt_zero k)⟩
    · rw [kmarks_len] at hcap ⊢
      refine ⟨_, _, rfl, fun k hk => ⟨g, o, rfl, hcap, ?_⟩⟩
      have h1 := hcell k (by rw [kmarks_len]; exact hk)
      rw [kmarks_get] at h1
      exact h1
  have HC := Lib.hid hcell
  clear hcell h
  go_enter Try.func43, Try.ntmps43
  go_wp2
  go_loopw [1, 5] (fun kk i wr => ∃ k m q : Nat, k ≤ n ∧ i = .int .i64 (k : Int) ∧ kk = .int .i64 (m : Int) ∧ m = k0 + 2 * k ∧ wr = w.drewN q) (fun _ i _ => n - (intOf i).toNat)
  case atStart => exact ⟨0, k0, 0, Nat.zero_le _, rfl, rfl, by omega, rfl⟩
  case round =>
    obtain ⟨k, m, q, hk, rfl, rfl, hm1, rfl⟩ := hrel
    have hm64 : m ≤ 288 := by omega
    have HM1 := Lib.hid hm1
    clear hm1
    by_cases hlt : k < n
    · obtain ⟨g, o, rfl, hcap, hc0, hc1⟩ := HC.out k hlt
      simp only [kmark, show k0 + 2 * k = m from HM1.out.symm] at hc0 hc1
      have hs : FloatKind.f32.format.order (floatOfInt .f32 (m : Int)) (floatOfInt .f32 (m : Int)) = some .eq := ofInt_self _
      have hs2 : FloatKind.f32.format.order (c32 (m + 1)) (c32 (m + 1)) = some .eq := Flt.order_self (f := Ieee.single) (c32_more (m + 1) (by omega)).2
      have hs3 : FloatKind.f32.format.order 1065353216 1065353216 = some .eq := by decide +kernel
      have hcv := c32_runs (m + 1) (by omega)
      rw [show ((m + 1 : Nat) : Int) = (m : Int) + 1 from by omega] at hcv
      have hnc := fun W => neq_colour (c32 (m + 1)) 1065353216 (c32 (m + 1)) 1065353216 W
      rw [hs2, hs3] at hnc
      generalize c32 (m + 1) = c2 at *
      go_wp2

      go_roundw
      case rel => exact ⟨k + 1, m + 2, _, by omega, by go_num, by go_num, by have := HM1.out; omega, rfl⟩
      case measure => simp [intOf]; omega
    · have hkk : k = n := by omega
      subst hkk
      have hmm := HM1.out
      subst hmm
      go_wp2
      go_ret
      exact ⟨rfl, _, rfl⟩

/-! Lists of rows. -/
/-- A list of rows: each in new memory that may be written, no two share memory, none the list's own. -/
structure GridN (w : World) (base : Nat) (v : Value) (rows : List (List C3)) (ss : List SV) : Prop where
  own : LSc.Own w base v ss
  len : ss.length = rows.length
  row : ∀ i (h : i < ss.length) (h' : i < rows.length), RNew w base ss[i].v rows[i]
  apart : ∀ i j (h : i < ss.length) (h' : j < ss.length), i ≠ j → ∀ k, ss[i].v.ownBlock = some k → ss[j].v.ownBlock ≠ some k
  out : ∀ i (h : i < ss.length) k, ss[i].v.ownBlock = some k → v.ownBlock ≠ some k
theorem GridC.new {w : World} {base : Nat} {v : Value} {rows : List (List C3)} {ss : List SV} (h : GridC w base v rows ss) : GridN w base v rows ss :=
  ⟨h.own, h.len, fun i h1 h2 => (h.row i h1 h2).rnew, h.apart, h.out⟩
theorem RNew.turn {w w' : World} {base : Nat} {v : Value} {cs : List C3} {S : Nat → Prop} (h : RNew w base v cs) (ht : Turn w w' S) (hS : ∀ k, v.ownBlock = some k → ¬ S k) : RNew w' base v cs := by
  rcases h with h | ⟨g, cap, cur, rfl, h0, h2, h3, h4, h5⟩
  · exact .inl h
  · exact .inr ⟨g, cap, cur, rfl, h0, h2, (ht.block g (Array.getElem?_eq_some_iff.1 h3).1 (hS g rfl)).trans h3, h4, h5⟩
theorem GridN.lt {w : World} {base : Nat} {v : Value} {rows : List (List C3)} {ss : List SV} (h : GridN w base v rows ss) : ∀ k, GBlk v ss k → base ≤ k ∧ k < w.heap.size := by
  rintro k (hk | ⟨i, hi, hk⟩)
  · exact h.own.lt k hk
  · exact (h.row i hi (by rw [← h.len]; exact hi)).lt k hk
theorem GridN.turn {w w' : World} {base : Nat} {v : Value} {rows : List (List C3)} {ss : List SV} {S : Nat → Prop} (h : GridN w base v rows ss) (ht : Turn w w' S) (hS : ∀ k, GBlk v ss k → ¬ S k) : GridN w' base v rows ss :=
  ⟨h.own.turn ht (fun k hk => hS k (.inl hk)), h.len, fun i h1 h2 => (h.row i h1 h2).turn ht (fun k hk => hS k (.inr ⟨i, h1, hk⟩)), h.apart, h.out⟩
theorem GridN.below {w w' : World} {base : Nat} {v : Value} {rows : List (List C3)} {ss : List SV} (h : GridN w base v rows ss) (hb : Below w.heap.size w w') : GridN w' base v rows ss :=
  h.turn (Turn.grown (row := none) (grown_of hb)) (fun k _ e => by cases e)
theorem GridN.mono {w : World} {base base' : Nat} {v : Value} {rows : List (List C3)} {ss : List SV} (h : GridN w base v rows ss) (hb : base' ≤ base) : GridN w base' v rows ss :=
  ⟨h.own.mono hb, h.len, fun i h1 h2 => (h.row i h1 h2).mono hb, h.apart, h.out⟩
/-- One row is written. -/
theorem GridN.put {w w' : World} {base k : Nat} {v : Value} {rows : List (List C3)} {ss : List SV} {cs : List C3} (h : GridN w base v rows ss) (hk : k < ss.length) (hg : w.grownBy w' ss[k].v.ownBlock) (hn : RNew w' base ss[k].v cs) : GridN w' base v (rows.set k cs) ss := by
  refine ⟨h.own.kept hg ?_, by rw [List.length_set]; exact h.len, fun i h1 h2 => ?_, h.apart, h.out⟩
  · cases e : v.ownBlock with
    | none => exact .inl rfl
    | some b => exact .inr fun e' => h.out k hk b e'.symm e
  · by_cases e : i = k
    · subst e
      rw [List.getElem_set_self]
      exact hn
    · rw [List.getElem_set_ne (by omega)]
      exact (h.row i h1 (by rw [← h.len]; exact h1)).far hg (fun j hj e' => h.apart k i hk h1 (fun e2 => e e2.symm) j e' hj)
def csum (rs : List (List C3)) : Nat := (rs.map List.length).sum
def kgrid : Nat → List (List C3) → List (List C3)
  | _, [] => []
  | k, r :: rs => kmarks k r.length :: kgrid (k + 2 * r.length) rs
theorem kgrid_len : ∀ (k : Nat) (rs : List (List C3)), (kgrid k rs).length = rs.length
  | _, [] => rfl
  | k, r :: rs => by rw [kgrid, List.length_cons, List.length_cons, kgrid_len]
theorem kgrid_get : ∀ (k : Nat) (rs : List (List C3)) (i : Nat) (h : i < (kgrid k rs).length) (h' : i < rs.length), (kgrid k rs)[i] = kmarks (k + 2 * csum (rs.take i)) rs[i].length
  | k, r :: rs, 0, _, _ => rfl
  | k, r :: rs, i + 1, h, h' => by
    have := kgrid_get (k + 2 * r.length) rs i (by rw [kgrid_len]; simpa using h') (by simpa using h')
    show (kgrid (k + 2 * r.length) rs)[i]'(by rw [kgrid_len]; simpa using h') = _
    rw [this]
    show kmarks (k + 2 * r.length + 2 * csum (rs.take i)) _ = kmarks (k + 2 * (r.length + csum (rs.take i))) _
    rw [Nat.mul_add, Nat.add_assoc]
    rfl
theorem csum_succ {rs : List (List C3)} {k : Nat} (h : k < rs.length) : csum (rs.take (k + 1)) = csum (rs.take k) + rs[k].length := by
  unfold csum
  rw [List.take_succ_eq_append_getElem h, List.map_append, List.sum_append]
  simp
theorem csum_le {rs : List (List C3)} (k : Nat) : csum (rs.take k) ≤ csum rs := by
  conv => rhs; rw [← List.take_append_drop k rs]
  unfold csum
  rw [List.map_append, List.sum_append]
  omega
def MarkN (base : Nat) (v : Value) (rows : List (List C3)) (ss : List SV) (w : World) (e : Ending) (w' : World) : Prop := e = .returned (.int .i64 (1 + 2 * (csum rows : Nat) : Int)) ∧ GridN w' base v (kgrid 1 rows) ss ∧ Turn w w' (GBlk v ss)
set_option maxHeartbeats 2000000 in
theorem eqRows_num (b b' : Nat) (v v' : Value) (rows : List (List C3)) (ss ss' : List SV) (w : World) (h : GridN w b v rows ss) (h' : GridN w b' v' rows ss') (hl : rows.length ≤ 2000000) (hr : ∀ r ∈ rows, r.length ≤ 1000000 ∧ NumL r) :
    Calls Try.prog 45 #[v, v'] w fun e w' => e = .returned (.bool true) ∧ Below w.heap.size w w' := by
  obtain ⟨a, c, rfl, hcell⟩ := rowsC_any h.own.row
  obtain ⟨a', c', rfl, hcell'⟩ := rowsC_any h'.own.row
  have hl1 := h.len
  have hl2 := h'.len
  have HC := Lib.hid hcell
  have HC' := Lib.hid hcell'
  have HR := Lib.hid h.row
  have HR' := Lib.hid h'.row
  have HB := Lib.hid hr
  rw [show ss'.length = ss.length by omega]
  have HL := Lib.hid (And.intro hl1 hl2)
  have hls : ss.length ≤ 2000000 := by omega
  clear hcell hcell' h h' hl1 hl2 hr
  go_enter Try.func45, Try.ntmps45
  go_wp2
  go_loopw [5] (fun i wr => ∃ k : Nat, k ≤ ss.length ∧ i = .int .i64 (k : Int) ∧ Below w.heap.size w wr) (fun i _ => ss.length - (intOf i).toNat)
  case atStart => exact ⟨0, Nat.zero_le _, rfl, Below.refl _ _⟩
  case round =>
    obtain ⟨k, hk, rfl, hb⟩ := hrel
    by_cases hlt : k < ss.length
    · have hlt' : k < ss'.length := by have := HL.out; omega
      have hltr : k < rows.length := by have := HL.out.1; omega
      obtain ⟨g, o, rfl, hcap, hc0⟩ := HC.out k hlt
      obtain ⟨g', o', rfl, hcap', hc0'⟩ := HC'.out k hlt'
      have hcap'' : ss.length ≤ c' := by have := HL.out; omega
      have hbd : Below w.heap.size w wr.drew := belowDN hb 1
      have HQ := Lib.hid (eqCells_num ss[k].v ss'[k].v rows[k] wr.drew ((HR.out k hlt hltr).below hbd).row ((HR'.out k hlt' hltr).below hbd).row (HB.out _ (List.getElem_mem hltr)).1 (HB.out _ (List.getElem_mem hltr)).2)
      have q0 := (grown_of hb).cell hc0 (by simp)
      have q1 := (grown_of hb).cell hc0' (by simp)
      clear hcap' hc0 hc0' hltr
      generalize ss[k].v = x at *
      generalize (ss'[k]'hlt').v = y at *
      clear hlt'
      go_wp2
      go_region_with (go_at_call 39; refine (HQ.out).mono ?_; rintro e w2 ⟨rfl, hb2⟩)
      all_goals
        have hb3 := below_trans hbd hb2 hbd.size
        clear q0 q1
        go_wp2
        go_roundw
        case rel => exact ⟨k + 1, by omega, by go_num, hb3⟩
        case measure => simp [intOf]; omega
    · go_wp2
      go_ret
      exact ⟨rfl, hb⟩
set_option maxHeartbeats 2000000 in
theorem markRows_any (base : Nat) (v : Value) (rows : List (List C3)) (ss : List SV) (w : World) (h : GridN w base v rows ss) (hl : rows.length ≤ 2000000) (hr : csum rows ≤ 150) (hr64 : ∀ r ∈ rows, r.length ≤ 64) (hr0 : ∀ k, k < rows.length → 2 * csum (rows.take k) ≤ 159) :
    Calls Try.prog 46 #[v, .int .i64 1] w fun e w' => MarkN base v rows ss w e w' := by
  obtain ⟨a, c, rfl, hcell⟩ := rowsC_any h.own.row
  have hl1 := h.len
  have HC := Lib.hid hcell
  have HST := Lib.hid h
  have HML := Lib.hid (kgrid_len 1 rows)
  have hls : ss.length ≤ 2000000 := by omega
  have HL1 := Lib.hid hl1
  have HR0 := Lib.hid hr0
  have HR64 := Lib.hid hr64
  clear hcell h hl1 hr0 hr64
  go_enter Try.func46, Try.ntmps46
  go_wp2
  go_loopw [1, 5] (fun kk i wr => ∃ k m : Nat, k ≤ ss.length ∧ i = .int .i64 (k : Int) ∧ kk = .int .i64 (m : Int) ∧ m = 1 + 2 * csum (rows.take k) ∧ Turn w wr (GBlk (.slice a ss.length c) ss) ∧ GridN wr base (.slice a ss.length c) ((kgrid 1 rows).take k ++ rows.drop k) ss) (fun _ i _ => ss.length - (intOf i).toNat)
  case atStart => exact ⟨0, 1, Nat.zero_le _, rfl, rfl, rfl, Turn.refl _ _, by simpa using HST.out⟩
  case round =>
    obtain ⟨k, m, hk, rfl, rfl, hm1, ht, hm⟩ := hrel
    have HM := Lib.hid hm
    have HT := Lib.hid ht
    have hm64 : m ≤ 301 := by have := csum_le (rs := rows) k; omega
    have HM1 := Lib.hid hm1
    clear hm HST hm1 ht
    by_cases hlt : k < ss.length
    · have hltr : k < rows.length := by have := HL1.out; omega
      have hmr : k < (kgrid 1 rows).length := by rw [HML.out]; exact hltr
      obtain ⟨g, o, rfl, hcap, hc0⟩ := HC.out k hlt
      have hgb : GBlk (.slice (some ⟨g, o, none⟩) ss.length c) ss g := .inl rfl
      have hcell2 := (rowsC_any HM.out.own.row)
      obtain ⟨a2, c2, e2, hcell2⟩ := hcell2
      cases e2
      obtain ⟨g3, o3, e3, _, hc3⟩ := hcell2 k hlt
      cases e3
      have hrk : (kgrid 1 rows)[k] = kmarks m rows[k].length := by rw [kgrid_get 1 rows k hmr hltr, ← HM1.out]
      have htl : k < ((kgrid 1 rows).take k ++ rows.drop k).length := by rw [take_drop_len HML.out (by omega)]; exact hltr
      have hrow := HM.out.row k hlt htl
      rw [take_drop_at HML.out hltr htl] at hrow
      have hsl : rows[k].length ≤ 64 := HR64.out _ (List.getElem_mem hltr)
      have hm160 : m ≤ 160 := by have := HR0.out k hltr; have := HM1.out; omega
      have HMF := Lib.hid (markCellsK_any m base ss[k].v rows[k] wr hrow hsl hm160)
      have HNX := Lib.hid (fun (w' : World) (hg : wr.grownBy w' ss[k].v.ownBlock) (hn : RNew w' base ss[k].v (kmarks m rows[k].length)) => And.intro (HM.out.put hlt hg hn) ((HT.out).trans ((Turn.of hg).mono (fun j _ hj => (.inr ⟨k, hlt, hj⟩ : GBlk (.slice (some ⟨g, o, none⟩) ss.length c) ss j)))))
      have HSD := Lib.hid (set_take_drop hmr hltr hrk)
      have HGS := Lib.hid (csum_succ hltr)
      clear hc0 hrow hcell2 htl hmr hrk
      generalize rows[k].length = rl at *
      generalize ss[k].v = vk at *
      go_wp2_with fail
      refine (HMF.out).mono ?_
      rintro e w2 ⟨rfl, hn2, hg2⟩
      obtain ⟨hgr, htt⟩ := HNX.out w2 hg2 hn2
      rw [HSD.out] at hgr
      have HGR := Lib.hid hgr
      have HTT := Lib.hid htt
      clear hn2 hg2 hgr htt hc3
      go_wp2
      go_roundw
      case rel => exact ⟨k + 1, m + 2 * rl, by omega, by go_num, by go_num, by have h1 := HGS.out; have h2 := HM1.out; omega, HTT.out, HGR.out⟩
      case measure => simp [intOf]; omega
    · have hkk : k = ss.length := by omega
      subst hkk
      have HF := Lib.hid (show GridN wr base (.slice a ss.length c) (kgrid 1 rows) ss by
        have := HM.out
        rw [HL1.out] at this
        rwa [List.take_of_length_le (by rw [HML.out]; exact Nat.le_refl _), List.drop_length, List.append_nil, ← HL1.out] at this)
      have HMM := Lib.hid (show m = 1 + 2 * csum rows by rw [HM1.out, HL1.out, List.take_length])
      go_wp2
      go_ret
      exact ⟨by rw [HMM.out]; simp, HF.out, HT.out⟩
set_option maxHeartbeats 2000000 in
theorem heldRows_any (base : Nat) (v : Value) (rows : List (List C3)) (ss : List SV) (w : World) (h : GridN w base v (kgrid 1 rows) ss) (hl : rows.length ≤ 2000000) (hr : csum rows ≤ 150) (hr64 : ∀ r ∈ rows, r.length ≤ 64) (hr0 : ∀ k, k < rows.length → 2 * csum (rows.take k) ≤ 159) :
    Calls Try.prog 47 #[v, .int .i64 1] w fun e w' => e = .returned (.int .i64 (1 + 2 * (csum rows : Nat) : Int)) ∧ ∃ q, w' = w.drewN q := by
  obtain ⟨a, c, rfl, hcell⟩ := rowsC_any h.own.row
  have hl1 := h.len
  rw [kgrid_len] at hl1
  have HC := Lib.hid hcell
  have HST := Lib.hid h
  have HML := Lib.hid (kgrid_len 1 rows)
  have hls : ss.length ≤ 2000000 := by omega
  have HL1 := Lib.hid hl1
  have HR0 := Lib.hid hr0
  have HR64 := Lib.hid hr64
  clear hcell h hl1 hr0 hr64
  go_enter Try.func47, Try.ntmps47
  go_wp2
  go_loopw [1, 5] (fun kk i wr => ∃ k m q : Nat, k ≤ ss.length ∧ i = .int .i64 (k : Int) ∧ kk = .int .i64 (m : Int) ∧ m = 1 + 2 * csum (rows.take k) ∧ wr = w.drewN q) (fun _ i _ => ss.length - (intOf i).toNat)
  case atStart => exact ⟨0, 1, 0, Nat.zero_le _, rfl, rfl, rfl, rfl⟩
  case round =>
    obtain ⟨k, m, q, hk, rfl, rfl, hm1, rfl⟩ := hrel
    have hm64 : m ≤ 301 := by have := csum_le (rs := rows) k; omega
    have HM1 := Lib.hid hm1
    clear hm1
    by_cases hlt : k < ss.length
    · have hltr : k < rows.length := by have := HL1.out; omega
      have hmr : k < (kgrid 1 rows).length := by rw [HML.out]; exact hltr
      obtain ⟨g, o, rfl, hcap, hc0⟩ := HC.out k hlt
      have hrow := HST.out.row k hlt hmr
      rw [kgrid_get 1 rows k hmr hltr, ← HM1.out] at hrow
      have hsl : rows[k].length ≤ 64 := HR64.out _ (List.getElem_mem hltr)
      have hm160 : m ≤ 160 := by have := HR0.out k hltr; have := HM1.out; omega
      have HMF := Lib.hid (heldCellsK_any m ss[k].v rows[k].length (w.drewN q) ((hrow.below (belowDN (Below.refl _ _) q)).row) hsl hm160)
      have HGS := Lib.hid (csum_succ hltr)
      have q0 : (w.drewN q).cell? ⟨g, o + k, none⟩ = some ss[k].v := hc0
      clear hc0 hrow hmr
      generalize rows[k].length = rl at *
      generalize ss[k].v = vk at *
      go_wp2_with fail
      refine (HMF.out).mono ?_
      rintro e w2 ⟨rfl, n2, rfl⟩
      go_wp2
      go_roundw
      case rel => exact ⟨k + 1, m + 2 * rl, q + n2, by omega, by go_num, by go_num, by have h1 := HGS.out; have h2 := HM1.out; omega, rfl⟩
      case measure => simp [intOf]; omega
    · have hkk : k = ss.length := by omega
      subst hkk
      have HMM := Lib.hid (show m = 1 + 2 * csum rows by rw [HM1.out, HL1.out, List.take_length])
      go_wp2
      go_ret
      exact ⟨by rw [HMM.out]; simp, _, rfl⟩
end Go.Proofs.Ytgecclccmmcdoaa
