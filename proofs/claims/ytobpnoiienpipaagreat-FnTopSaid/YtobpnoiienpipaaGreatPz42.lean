/-
  What is proved: what a set cuts out of a stream, and what it takes of two lines.
  Conditions: the stream and the lines can be read.
-/
import Derived.Test.YtobpnoiienpipaaGreatPz39
import Derived.Test.YtobpnoiienpipaaGreatPz38
import Derived.Test.YtobpnoiienpipaaGreatPz40
import Derived.Test.YtobpnoiienpipaaGreatPz41
import Derived.Test.YtobpnoiienpipaaGreatPz06
namespace Go.Proofs.YtobpnoiienpipaaGreat
set_option linter.unusedVariables false
open Go.RowKit
attribute [local go_sem] run_store_float run_store_complex unary_negf neg256

theorem startsGo_bound {rs : List R2} {N len gap : Nat} (hlen : 28 ≤ len) : ∀ (f p m : Nat) (out : List Int), (∀ z ∈ out, 0 ≤ z ∧ z ≤ (N : Int)) → (∀ z ∈ startsGo rs N len gap f p m out, 0 ≤ z ∧ z ≤ (N : Int)) ∧ (startsGo rs N len gap f p m out).length ≤ out.length + f
  | 0, _, _, out, ho => ⟨ho, Nat.le_refl _⟩
  | f + 1, p, m, out, ho => by
    have hadd : ∀ b : Nat, b ≤ N → ∀ z ∈ out ++ [(b : Int)], 0 ≤ z ∧ z ≤ (N : Int) := fun b hb z hz => by
      rcases List.mem_append.1 hz with hz | hz
      · exact ho z hz
      · rw [List.mem_singleton.1 hz]; omega
    by_cases h : p + 2 * len ≤ N
    · cases hb : nearR rs (p + len) with
      | some b =>
        rw [startsGo_found h hb]
        obtain ⟨h1, h2, _⟩ := nearR_near hb
        obtain ⟨i1, i2⟩ := startsGo_bound (rs := rs) (gap := gap) hlen f b 0 (out ++ [(b : Int)]) (hadd b (by omega))
        rw [List.length_append, List.length_singleton] at i2
        exact ⟨i1, by omega⟩
      | none =>
        by_cases hg : gap < m + 1
        · rw [startsGo_stop h hb hg]; exact ⟨ho, by omega⟩
        · rw [startsGo_missed h hb hg]
          obtain ⟨i1, i2⟩ := startsGo_bound (rs := rs) (gap := gap) hlen f (p + len) (m + 1) (out ++ [((p + len : Nat) : Int)]) (hadd (p + len) (by omega))
          rw [List.length_append, List.length_singleton] at i2
          exact ⟨i1, by omega⟩
    · rw [startsGo_end h]; exact ⟨ho, by omega⟩
theorem starts_bound (xs : List Nat) (s : Nat) (n g : Int) : (∀ z ∈ starts xs s n g, 0 ≤ z ∧ z ≤ (xs.length : Int)) ∧ (starts xs s n g).length ≤ xs.length + 2 := by
  unfold starts
  split
  · exact ⟨fun z hz => (by cases hz), Nat.zero_le _⟩
  · rename_i r rs hr
    split
    · rename_i h
      have hn : 28 ≤ n.toNat := by
        have := h.1
        unfold startsOk at this
        simp only [Bool.and_eq_true, decide_eq_true_eq] at this
        omega
      obtain ⟨i1, i2⟩ := startsGo_bound (rs := r :: rs) (N := xs.length) (gap := g.toNat) hn (xs.length + 1) r.1 0 [(r.1 : Int)] (fun z hz => by
        rw [List.mem_singleton.1 hz]; have := h.2; omega)
      rw [List.length_singleton] at i2
      exact ⟨i1, by omega⟩
    · exact ⟨fun z hz => (by cases hz), Nat.zero_le _⟩
theorem Grid.mono {w : World} {base base' : Nat} {v : Value} {rows : List (List Nat)} {ss : List SV} (h : Grid w base v rows ss) (hb : base' ≤ base) : Grid w base' v rows ss :=
  ⟨h.own.mono hb, ⟨h.lines.len, fun i h1 h2 => (h.lines.row i h1 h2).mono hb, h.lines.apart, h.lines.out⟩⟩
/-- The lines that a set cuts out of a stream. -/
def setLines (x : SetC) (xs : List Nat) : List (List Nat) := cuts xs (starts xs x.s (24 + 4 * x.c) 3) (24 + 4 * x.c)
set_option maxHeartbeats 1000000 in
theorem cutLines_any (x : SetC) (vl : Value) (v : Value) (xs : List Nat) (w : World) (hc : 1 ≤ x.c ∧ x.c ≤ 64) (h : FRow w v xs) (hl : xs.length ≤ 3000000) :
    Calls Tryz.prog 32 #[x.val vl, v] w fun e w' => GotG (setLines x xs) w e w' := by
  obtain ⟨b1, b2⟩ := starts_bound xs x.s (24 + 4 * x.c) 3
  have HS := fun W hr => Lib.hid (starts_any v xs x.s (24 + 4 * x.c) 3 W hr ⟨by omega, by omega⟩ ⟨by decide, by decide⟩ (by omega))
  have HCU := fun vp W hr hp => Lib.hid (cut_any v vp xs (starts xs x.s (24 + 4 * x.c) 3) (24 + 4 * x.c) W hr hp (fun p hp => by have := b1 p hp; exact ⟨by omega, by omega⟩) ⟨by omega, by omega⟩ (by omega) (by omega))
  have HE := Lib.hid (show cuts xs (starts xs x.s (24 + 4 * x.c) 3) (24 + 4 * x.c) = setLines x xs from rfl)
  obtain ⟨a, c, rfl⟩ := h.lenv
  have HR := Lib.hid h
  have A := SetAt.new w x vl 37
  have hb0 := (Below.refl w.heap.size w).alloc (Nat.le_refl _) (.cells (x.cells vl) 37)
  obtain ⟨xc, xr, xsl, xl, xt⟩ := x
  obtain ⟨p0, p1, p2, p3, p4, p5⟩ := A
  simp only [SetC.val, SetC.cells] at *
  obtain ⟨nn, hnn⟩ : ∃ nn, nn = 24 + 4 * xc := ⟨_, rfl⟩
  have hw1 : IntKind.i64.wrap (4 * xc) = 4 * xc := IntWalk.i64_in _ (by omega)
  have hw2 : IntKind.i64.wrap (24 + 4 * xc) = nn := by rw [IntWalk.i64_in _ (by omega)]; omega
  rw [← hnn] at HS HCU HE
  generalize hst : starts xs xsl nn 3 = sts at *
  clear hnn h b1 b2 hst
  go_enter Tryz.func32, Tryz.ntmps32
  go_wp2_with fail
  generalize World.alloc w _ = w1 at *
  refine (HS w1 (HR.out.below hb0)).out.mono ?_
  rintro e w2 ⟨vp, rfl, hp2, hb2⟩
  have hb02 := below_trans hb0 hb2 hb0.size
  go_wp2_with fail
  refine (HCU vp w2 (HR.out.below hb02) hp2.row).out.mono ?_
  rintro e w3 ⟨v3, s3, rfl, hg3, hb3⟩
  have hb03 := below_trans hb02 hb3 hb02.size
  have HG := Lib.hid (show Grid w3 w2.heap.size v3 _ s3 from hg3)
  have hsz := hb02.size
  clear hg3 hb3
  go_wp2
  go_ret
  refine ⟨v3, s3, rfl, ?_, hb03⟩
  rw [← HE.out]
  exact HG.out.mono hsz

/-- What a set takes of two lines. -/
def PairS (a b : List Nat) (l k : Nat) (two : List (List C3)) (ok : Bool) : Prop := ((levOk a && levOk b) = false ∧ ok = false ∧ two = []) ∨ ((levOk a && levOk b) = true ∧ TakeRR (levs a) (levs b) l k two ok)
theorem PairS.same {a b : List Nat} {l k : Nat} {two two' : List (List C3)} {ok ok' : Bool} (h : PairS a b l k two ok) (h' : PairS a b l k two' ok') : ok = ok' ∧ two = two' := by
  rcases h with ⟨h1, rfl, rfl⟩ | ⟨h1, h2⟩ <;> rcases h' with ⟨k1, rfl, rfl⟩ | ⟨k1, k2⟩
  · exact ⟨rfl, rfl⟩
  · rw [h1] at k1; cases k1
  · rw [h1] at k1; cases k1
  · exact h2.same k2
theorem PairS.two {a b : List Nat} {l k : Nat} {two : List (List C3)} {ok : Bool} (h : PairS a b l k two ok) : Two2 two := by
  rcases h with ⟨_, _, rfl⟩ | ⟨_, h2⟩
  · exact two2_of (Nat.zero_le _) fun r hr => by cases hr
  · exact h2.two
def PairSA (a b : List Nat) (l k : Nat) (w : World) (e : Ending) (w' : World) : Prop := ∃ v two ss ok, e = .returned (.tuple #[v, .bool ok]) ∧ PairS a b l k two ok ∧ GridN w' w.heap.size v two ss ∧ Below w.heap.size w w'
set_option maxHeartbeats 1000000 in
theorem takenPair_any (x : SetC) (vl va vb : Value) (a b : List Nat) (w : World) (ha : FRow w va a) (hb : FRow w vb b) (hla : a.length ≤ 3000000) (hlb : b.length ≤ 3000000) :
    Calls Tryz.prog 66 #[x.val vl, va, vb] w fun e w' => PairSA a b x.l x.t w e w' := by
  have HA := fun W hr => Lib.hid (toLevel_any va a W hr (by omega))
  have HB := fun W hr => Lib.hid (toLevel_any vb b W hr (by omega))
  obtain ⟨aa, ca, rfl⟩ := ha.lenv
  obtain ⟨ab, cb, rfl⟩ := hb.lenv
  have HRA := Lib.hid ha
  have HRB := Lib.hid hb
  have K := heap_alloc_new w (.cells (x.cells vl) 37)
  have hb0 := (Below.refl w.heap.size w).alloc (Nat.le_refl _) (.cells (x.cells vl) 37)
  have hz0 : (w.alloc (.cells (x.cells vl) 37)).heap.size = w.heap.size + 1 := by simp
  obtain ⟨xc, xr, xsl, xl, xt⟩ := x
  simp only [SetC.val, SetC.cells] at *
  have HTK := fun v v' ys zs W hr hr' h1 h2 => Lib.hid (take_any v v' ys zs xl xt W hr hr' h1 h2)
  clear ha hb
  cases h1 : levOk a with
  | false =>
    rw [h1] at HA
    have HE := Lib.hid (show (levOk a && levOk b) = false by rw [h1]; rfl)
    cases h2 : levOk b with
    | _ =>
      rw [h2] at HB
      clear h1 h2 HTK
      go_enter Tryz.func66, Tryz.ntmps66
      go_wp2_with fail
      generalize World.alloc w _ = w1 at *
      refine (HA w1 (HRA.out.below hb0)).out.mono ?_
      rintro e w2 ⟨v2, ys, rfl, _, hn2, hb2⟩
      have hb02 := below_trans hb0 hb2 hb0.size
      go_wp2_with fail
      refine (HB w2 (HRB.out.below hb02)).out.mono ?_
      rintro e w3 ⟨v3, zs, rfl, _, hn3, hb3⟩
      have hb03 := below_trans hb02 hb3 hb02.size
      clear hb2 hb3 hn2 hn3
      go_wp2
      go_ret2
      exact ⟨_, [], [], false, rfl, .inl ⟨HE.out, rfl, rfl⟩, GridN.nil0 _ _, hb03⟩
  | true =>
    rw [h1] at HA
    cases h2 : levOk b with
    | false =>
      rw [h2] at HB
      have HE := Lib.hid (show (levOk a && levOk b) = false by rw [h2, Bool.and_false])
      clear h1 h2 HTK
      go_enter Tryz.func66, Tryz.ntmps66
      go_wp2_with fail
      generalize World.alloc w _ = w1 at *
      refine (HA w1 (HRA.out.below hb0)).out.mono ?_
      rintro e w2 ⟨v2, ys, rfl, _, hn2, hb2⟩
      have hb02 := below_trans hb0 hb2 hb0.size
      go_wp2_with fail
      refine (HB w2 (HRB.out.below hb02)).out.mono ?_
      rintro e w3 ⟨v3, zs, rfl, _, hn3, hb3⟩
      have hb03 := below_trans hb02 hb3 hb02.size
      clear hb2 hb3 hn2 hn3
      go_wp2
      go_ret2
      exact ⟨_, [], [], false, rfl, .inl ⟨HE.out, rfl, rfl⟩, GridN.nil0 _ _, hb03⟩
    | true =>
      rw [h2] at HB
      have HE := Lib.hid (show (levOk a && levOk b) = true by rw [h1, h2]; rfl)
      have HYA := Lib.hid (show ∀ ys, levR a ys → ys = levs a from fun ys h => by unfold levR at h; rw [if_pos h1] at h; exact h)
      have HYB := Lib.hid (show ∀ ys, levR b ys → ys = levs b from fun ys h => by unfold levR at h; rw [if_pos h2] at h; exact h)
      clear h1 h2
      go_enter Tryz.func66, Tryz.ntmps66
      go_wp2_with fail
      generalize World.alloc w _ = w1 at *
      refine (HA w1 (HRA.out.below hb0)).out.mono ?_
      rintro e w2 ⟨v2, ys, rfl, hy, hn2, hb2⟩
      obtain rfl := HYA.out ys hy
      have hb02 := below_trans hb0 hb2 hb0.size
      replace K := (hb2.block w.heap.size (by omega)).trans K
      have HN2 := Lib.hid hn2
      have hz2 := hb2.size
      clear hn2 hb2 hy
      go_wp2_with fail
      refine (HB w2 (HRB.out.below hb02)).out.mono ?_
      rintro e w3 ⟨v3, zs, rfl, hz, hn3, hb3⟩
      obtain rfl := HYB.out zs hz
      have hb03 := below_trans hb02 hb3 hb02.size
      replace K := (hb3.block w.heap.size (by omega)).trans K
      have HN3 := Lib.hid hn3.row
      have HN2' := Lib.hid (HN2.out.below hb3).row
      obtain ⟨p0, p1, p2, p3, p4, p5⟩ := SetAt.of (x := ⟨xc, xr, xsl, xl, xt⟩) (v := vl) K
      clear hn3 hb3 hz HN2 K
      go_wp2_with fail
      refine (HTK _ _ _ _ w3 HN2'.out HN3.out (by rw [levs_len]; omega) (by rw [levs_len]; omega)).out.mono ?_
      rintro e w4 ⟨v4, two, s4, ok, rfl, ht4, hg4, hb4⟩
      have hb04 := below_trans hb03 hb4 hb03.size
      have HG := Lib.hid hg4
      have HT := Lib.hid ht4
      have hz3 := hb03.size
      clear hg4 ht4 hb4
      go_wp2
      go_ret2
      exact ⟨v4, two, s4, ok, rfl, .inr ⟨HE.out, HT.out⟩, HG.out.mono hz3, hb04⟩
end Go.Proofs.YtobpnoiienpipaaGreat

/-
  What is proved: the walk of the iterator over the pairs of a list of lines.
  Conditions: the number of lines is even.
-/
namespace Go.Proofs.YtobpnoiienpipaaGreat
set_option linter.unusedVariables false
open Go.RowKit Go.Shelf
attribute [local go_sem] run_store_float run_store_complex unary_negf neg256 Oper.semAt_some

def chL (g o q : Nat) : Value := .slice (some ⟨g, o + 2 * q, none⟩) 2 2
set_option maxRecDepth 100000 in
set_option maxHeartbeats 2000000 in
theorem chunkL_in (n : Nat) (hn : 1 ≤ n) (w0 : World) (l Bs Bn g o cap L m : Nat) (ad : Option Addr) (had : 0 < L → ad = some ⟨g, o, none⟩ ∧ L ≤ cap) (hL : L = 2 * m) (hLm : L ≤ 1000000000) (J Jx : List (Ch m) → World → Prop) (B : Nat) (hJ : AbidesFrom B J)
    (hY : ∀ pre (x : Ch m) W, J pre W → pre.length < (idxF m m (Nat.le_refl m)).length → YieldAt Fence.wide (n - 1) Tryz.prog l #[chL g o x.1] W fun e W' =>
      (e = .returned (.bool true) ∧ J (pre ++ [x]) W' ∧ KeepB Bs Bn W W') ∨ (e = .returned (.bool false) ∧ Jx (pre ++ [x]) W'))
    (W : World) (hW : Below w0.heap.size w0 W) (hBs : w0.cell? ⟨Bs, 0, none⟩ = some (.slice ad L cap)) (hBn : w0.cell? ⟨Bn, 0, none⟩ = some (.int .i64 2)) (h0 : J [] W) :
    CallsIn Fence.wide n Tryz.prog 96 #[.func (.yield l) #[] #[], .pointer (some ⟨Bs, 0, none⟩), .pointer (some ⟨Bn, 0, none⟩)] W fun e W' => (∃ v, e = .returned v) ∧
      ((∃ ys, ys = idxF m m (Nat.le_refl m) ∧ J ys W') ∨ (∃ pre, pre <+: idxF m m (Nat.le_refl m) ∧ Jx pre W')) := by
  refine callsIn_of_wp Tryz.func96 rfl trivial ?_ rfl
  simp only [Tryz.ntmps96, List.size_toArray, List.length_cons, List.length_nil, Nat.reduceAdd, Nat.reduceSub, Array.replicate_succ, Array.replicate_zero, List.push_toArray, List.append_toArray, List.nil_append, List.cons_append]
  gi_wp2
  gi_loopw [4] (fun i wr => ∃ (k I : Nat) (hk : k ≤ m), i = .int .i64 (I : Int) ∧ I = 2 * k ∧ J (idxF m k hk) wr ∧ KeepB Bs Bn w0 wr) (fun i _ => L + 2 - (intOf i).toNat)
  case atStart => exact ⟨0, 0, Nat.zero_le _, rfl, rfl, h0, hW.block Bs (World.block_lt_of_cell? w0 _ hBs), hW.block Bn (World.block_lt_of_cell? w0 _ hBn)⟩
  case round =>
    obtain ⟨k, I, hk, rfl, hI, hJs, hb⟩ := hrel
    have hbs := (World.cell?_of_block (a := ⟨Bs, 0, none⟩) hb.1).trans hBs
    have hbn := (World.cell?_of_block (a := ⟨Bn, 0, none⟩) hb.2).trans hBn
    have HJ := Lib.hid hJs
    have HI := Lib.hid (And.intro hI hL)
    clear hJs
    by_cases hlt : I < L
    · have hkm : k < m := by omega
      obtain ⟨rfl, hcap⟩ := had (by omega)
      have hI2 : I + 2 ≤ L := by omega
      have hoI : o + I = o + 2 * k := by omega
      obtain ⟨fn, tmps, assign, body, hy, hR⟩ := hY (idxF m k hk) ⟨k, hkm⟩ wr.drew (hJ _ _ _ none HJ.out (grownN (World.grownBy.refl wr none) 1) (fun r e => by cases e)) (by rw [idxF_len, idxF_len]; exact hkm)
      have HR := Lib.hid hR
      unfold chL at hy
      simp only at hy
      rw [← hoI] at hy
      clear hI hoI hR hL
      gi_wp2
      gi_region_with (fail)
      all_goals
        gi_wp2
        refine HR.out.mono ?_
        rintro e W3 (⟨rfl, hJ3, hk3⟩ | ⟨rfl, hJx3⟩)
        · have hb3 : KeepB Bs Bn w0 W3 := hb.trans hk3
          have hbn3 := (World.cell?_of_block (a := ⟨Bn, 0, none⟩) hb3.2).trans hBn
          clear hbn hbs
          gi_wp2
          go_roundw
          case rel => exact ⟨k + 1, I + 2, by omega, by go_num, by have := HI.out.1; omega, hJ3, hb3⟩
          case measure => simp [intOf]; omega
        · gi_wp2
          refine bodyPost_ret (results_none rfl _ _ _) rfl ?_
          exact ⟨⟨_, rfl⟩, .inr ⟨idxF m (k + 1) (by omega), idxF_pre m m (k + 1) (Nat.le_refl m) (by omega), hJx3⟩⟩
    · have hkm : k = m := by omega
      subst hkm
      clear hI hL
      gi_wp2
      go_end0
      exact ⟨⟨_, rfl⟩, .inl ⟨_, rfl, HJ.out⟩⟩

/-- What the iterator hands out: the fours. -/
abbrev HandsL (n : Nat) (w0 : World) (Bs Bn g o m : Nat) (gf : Nat) (lb : Array Value) (w : World) : Prop :=
  SeqStopsK Fence.wide n Tryz.prog gf lb (fun x : Ch m => #[chL g o x.1]) (KeepB Bs Bn) (fun ys => ys = idxF m m (Nat.le_refl m)) (fun pre => pre <+: idxF m m (Nat.le_refl m)) (idxF m m (Nat.le_refl m)).length w
theorem chunkL_hands (n : Nat) (hn : 1 ≤ n) (w0 : World) (Bs Bn g o cap L m : Nat) (ad : Option Addr) (had : 0 < L → ad = some ⟨g, o, none⟩ ∧ L ≤ cap) (hL : L = 2 * m) (hLm : L ≤ 1000000000)
    (hBs : w0.cell? ⟨Bs, 0, none⟩ = some (.slice ad L cap)) (hBn : w0.cell? ⟨Bn, 0, none⟩ = some (.int .i64 2)) :
    HandsL n w0 Bs Bn g o m 96 #[.pointer (some ⟨Bs, 0, none⟩), .pointer (some ⟨Bn, 0, none⟩)] w0 :=
  fun l J Jx W hW hJ _ hY h0 => chunkL_in n hn w0 l Bs Bn g o cap L m ad had hL hLm J Jx _ hJ hY W hW hBs hBn h0
theorem chunkL_any (a : Option Addr) (m c : Nat) (w : World) :
    Calls Tryz.prog 65 #[.slice a m c, .int .i64 2] w fun e w' => e = .returned (.func (.func 96) #[] #[.pointer (some ⟨w.heap.size, 0, none⟩), .pointer (some ⟨w.heap.size + 1, 0, none⟩)]) ∧ w' = (w.alloc (.cells #[.slice a m c] 65)).alloc (.cells #[.int .i64 2] 3) := by
  go_enter Tryz.func65, Tryz.ntmps65
  go_wp2
  go_ret
  exact ⟨rfl, rfl⟩
end Go.Proofs.YtobpnoiienpipaaGreat
