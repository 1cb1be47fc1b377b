/-
  What is proved: the walk of the program's Starts.
  Conditions: the stream can be read.
-/
import Derived.Scope
import Derived.WalkMore
import Derived.ScopeJumps
import Derived.IntWalk
import Derived.Test.YtobpnoiienpipaaGreatPz14
import Derived.Test.YtobpnoiienpipaaGreatPz15
import Derived.Test.YtobpnoiienpipaaGreatPz16
namespace Go.Proofs.YtobpnoiienpipaaGreat
set_option linter.unusedVariables false
open Go.RowKit
attribute [local go_sem] run_store_float run_store_complex unary_negf neg256

theorem near_self (r : R2) : near r.1 r = true := by unfold near; simp
theorem turnAt_first {R : List R2} (h : 0 < R.length) : turnAt R R[0].1 0 = (R[0].1, 0) := by
  match R, h with
  | r :: rs, _ =>
    unfold turnAt nearR
    simp [near_self]
/-- What holds at the label, of memory: the flywheel, the runs and the places so far. -/
structure StInv (w : World) (pb : Nat) (v2 sv : Value) (R : List R2) (N len gap f p m no : Nat) (out : List Int) (W : World) : Prop where
  p0 : out.length = no
  p1 : p ≤ N
  p2 : N < p + f
  p3 : m ≤ gap
  p4 : out.length ≤ p + 1
  p5 : w.heap.size ≤ pb
  len1 : 28 ≤ len
  len2 : len ≤ 280
  gap2 : gap ≤ 10
  far : ∀ k, v2.ownBlock = some k → k < pb
  wheel : Wheel W pb v2 len (p + len) m
  row : LR.Row W v2 R
  own : LI.Own W (pb + 1) sv out
  below : Below w.heap.size w W
  size : pb + 1 ≤ W.heap.size
/-- How many elements a slice has. -/
def sliceLen : Value → Nat
  | .slice _ n _ => n
  | _ => 0
def StJ (w : World) (st : Value) (s : Nat) (n g : Int) (R : List R2) (N : Nat) (S : List Int) (a : Act) (W : World) : Prop :=
  ∃ (pb : Nat) (v2 : Value) (len gap f p m gs cs no : Nat) (out : List Int), ∃ (u4 u5 u6 u7 u8 u12 u13 u14 u15 u16 u17 u18 u19 u20 u21 u22 u23 u24 u25 u26 u27 u28 u29 u30 u31 u32 u33 u34 u35 u36 u37 u38 u39 u40 u41 u42 u43 u44 u45 u46 u47 u48 u49 u50 u51 u52 u53 u54 u55 u56 : Value), a = { tmps := #[st, .float .f32 s, .int .i64 n, .int .i64 g, u4, u5, u6, u7, u8, v2, .slice (some ⟨gs, 0, none⟩) no cs, .pointer (some ⟨pb, 0, none⟩), u12, u13, u14, u15, u16, u17, u18, u19, u20, u21, u22, u23, u24, u25, u26, u27, u28, u29, u30, u31, u32, u33, u34, u35, u36, u37, u38, u39, u40, u41, u42, u43, u44, u45, u46, u47, u48, u49, u50, u51, u52, u53, u54, u55, u56], defers := [] } ∧
    n = (len : Int) ∧ g = (gap : Int) ∧ StInv w pb v2 (.slice (some ⟨gs, 0, none⟩) no cs) R N len gap f p m no out W ∧ S = startsGo R N len gap f p m out
set_option maxRecDepth 100000 in
set_option maxHeartbeats 8000000 in
theorem starts_any (v : Value) (xs : List Nat) (s : Nat) (n g : Int) (w : World) (h : FRow w v xs) (hn : I64 n) (hg : I64 g) (hl : xs.length ≤ 4000000) :
    Calls Tryz.prog 64 #[v, .float .f32 s, .int .i64 n, .int .i64 g] w fun e w' => LI.Got (starts xs s n g) w e w' := by
  have HL := Lib.hid (lows_any v xs s w h hl)
  have HIN := fun W => Lib.hid (isLine_any n W)
  have hend := lows_end (xs := xs) (s := s)
  obtain ⟨av, cv, rfl⟩ := h.lenv
  clear h
  obtain ⟨R, hR⟩ : ∃ R, lows xs s = R := ⟨_, rfl⟩
  have hRL : R.length ≤ 20001 := by have := lows_len xs s; rwa [hR] at this
  rw [hR] at hend HL
  have HR := Lib.hid hR
  have HEND := Lib.hid hend
  clear hR hend
  go_enter Tryz.func64, Tryz.ntmps64
  go_wp2
  refine wp_scope_jumps 0 (StJ w (.slice av xs.length cv) s n g R xs.length (starts xs s n g)) (fun a' _ => xs.length + 5 - sliceLen (a'.tmps.getD 10 undef)) rfl ?_ ?_
  · go_wp2_with fail
    refine HL.out.mono ?_
    rintro e w2 ⟨v2, rfl, ho2, hb2⟩
    have HRW := Lib.hid ho2.row
    have HBK := Lib.hid (fun k (e : v2.ownBlock = some k) => (World.ownsRow.lt ho2 k e).2)
    obtain ⟨a2, c2, rfl, hcell⟩ := runs_any ho2.row
    have HC := Lib.hid hcell
    have HB2 := Lib.hid hb2
    clear ho2 hcell hb2 HL
    by_cases h0 : R.length = 0
    · have HE := Lib.hid (starts_none (n := n) (g := g) (HR.out.trans (List.length_eq_zero_iff.1 h0)))
      rw [h0]
      clear h0
      go_wp2
      simp only [Exit.jump]
      go_ret
      rw [HE.out]
      exact Lay.Got.mk (LI.ownNil _ _) HB2.out
    · have hr0 : 0 < R.length := by omega
      have hrz : ((R.length : Int) == 0) = false := beq_eq_false_iff_ne.2 (by omega)
      have hrz2 : ¬ (R.length : Int) = 0 := by omega
      obtain ⟨g0, o0, rfl, hcap2, hc0, _⟩ := HC.out 0 hr0
      rw [Nat.zero_mul, Nat.add_zero] at hc0
      have hE0 := (HEND.out R[0] (List.getElem_mem hr0)).2
      have HNO := Lib.hid (fun h => starts_no (n := n) (g := g) HR.out hr0 h)
      cases hin : lineN n with
      | false =>
        rw [hin] at HIN
        have HE := Lib.hid (HNO.out (.inl (by unfold startsOk; unfold lineN at hin; rw [hin]; rfl)))
        clear hin hn hg
        go_wp2_with fail
        refine (HIN _).out.mono ?_
        rintro e w3 ⟨rfl, rfl⟩
        go_wp2
        simp only [Exit.jump]
        go_ret
        rw [HE.out]
        exact Lay.Got.mk (LI.ownNil _ _) HB2.out
      | true =>
        rw [hin] at HIN
        by_cases hg0 : 0 ≤ g
        · by_cases hg1 : g ≤ 10
          · have HSO := Lib.hid (show startsOk n g = true by unfold startsOk; unfold lineN at hin; rw [hin]; simp [hg0, hg1])
            have hn2 : 28 ≤ n ∧ n ≤ 280 := by unfold lineN at hin; simpa using hin
            obtain ⟨len, rfl⟩ : ∃ m : Nat, n = m := Int.eq_ofNat_of_zero_le (by omega)
            obtain ⟨gap, rfl⟩ : ∃ m : Nat, g = m := Int.eq_ofNat_of_zero_le (by omega)
            have hgn : ¬ (gap : Int) < 0 := by omega
            have hgn2 : ¬ (10 : Int) < (gap : Int) := by omega
            have hwl : IntKind.i64.wrap ((xs.length : Int) - (len : Int)) = (xs.length : Int) - (len : Int) := IntWalk.i64_in _ (by omega)
            have hTF := turnAt_first hr0
            have hYES := fun hb0 => starts_yes HR.out hr0 HSO.out hb0
            have HRW0 := Lib.hid (HRW.out)
            have hend0 := fun r hr => (HEND.out r hr).2
            clear hin hn hg HC
            by_cases hb0 : R[0].1 + len ≤ xs.length
            · have HYES := Lib.hid (hYES hb0)
              obtain ⟨p0, hp0⟩ : ∃ p, R[0].1 = p := ⟨_, rfl⟩
              rw [hp0] at hc0 hE0 hb0 HYES hTF
              clear hp0 HNO hYES
              have hTF2 := Lib.hid hTF
              have HEN := Lib.hid hend0
              clear hTF hend0
              have hc : ¬ ((xs.length : Int) - (len : Int) < (p0 : Int)) := by omega
              go_wp2_with fail
              refine (HIN _).out.mono ?_
              rintro e w3 ⟨rfl, rfl⟩
              go_wp2_with fail
              have hrow3 := HRW0.out.grown (World.grownBy_alloc w2 (.cells #[.slice (some ⟨g0, o0, none⟩) R.length c2, .int .i64 (len : Int), .int .i64 (p0 : Int), .int .i64 0] 130) none)
              have hwh3 : Wheel (w2.alloc (.cells #[.slice (some ⟨g0, o0, none⟩) R.length c2, .int .i64 (len : Int), .int .i64 (p0 : Int), .int .i64 0] 130)) w2.heap.size (.slice (some ⟨g0, o0, none⟩) R.length c2) len p0 0 := heap_alloc_new w2 _
              have hb3 := HB2.out.alloc HB2.out.size (.cells #[.slice (some ⟨g0, o0, none⟩) R.length c2, .int .i64 (len : Int), .int .i64 (p0 : Int), .int .i64 0] 130)
              have hsz3 : (w2.alloc (.cells #[.slice (some ⟨g0, o0, none⟩) R.length c2, .int .i64 (len : Int), .int .i64 (p0 : Int), .int .i64 0] 130)).heap.size = w2.heap.size + 1 := by simp
              have hp5 := HB2.out.size
              have hfar := HBK.out
              generalize w2.alloc (.cells #[.slice (some ⟨g0, o0, none⟩) R.length c2, .int .i64 (len : Int), .int .i64 (p0 : Int), .int .i64 0] 130) = w3 at *
              generalize hpb : w2.heap.size = pb at *
              clear hpb hc0
              obtain ⟨c0, c1, c2', c3⟩ := hwh3.at
              have HT := Lib.hid (turn_any pb _ len p0 0 R w3 hrow3 hwh3 (fun e => by have := hfar pb e; omega) (fun r hr => by have := HEN.out r hr; omega) (by omega) (by omega) (by omega) (by omega))
              rw [hTF2.out] at HT
              have HF3 := Lib.hid (And.intro hrow3 (And.intro hb3 hfar))
              clear hrow3 hwh3 hb3 hfar
              go_step3
              go_wp2_with fail
              refine HT.out.mono ?_
              rintro e w4 ⟨rfl, hw4, hg4⟩
              have hd3 := hw4.at.2.2.2
              have HW4 := Lib.hid hw4
              have HR4 := Lib.hid (HF3.out.1.far hg4 (fun k e e' => by have h1 := HF3.out.2.2 k e; have h2 := Option.some.inj e'; omega))
              have HO4 := Lib.hid (LI.ownNil w4 (pb + 1))
              have HB4 := Lib.hid (HF3.out.2.1.grown hg4 HF3.out.2.1.size (fun k e => by have h2 := Option.some.inj e; omega))
              have hs4 : pb + 1 ≤ w4.heap.size := by have := hg4.size; omega
              have HLIT := Lib.hid (li_lit (p0 : Int))
              clear hw4 hg4 c0 c1 c2' c3 HT
              go_wp2_with (at_builtin; refine LI_ok.snoc rfl (.tmp 53) (.tmp 55) rfl (pb + 1) _ [] 0 rfl (HO4.out.alloc _) rfl _ rfl (p0 : Int) (HLIT.out _) (by omega) (by simp; omega) ?_; intro g6 cap6 w6 ho6 hg6 hor6 hlt6)
              have hnw : w4.grownBy w6 none := (World.grownBy_alloc w4 _ none).trans hg6
              have hwh6 := HW4.out.kept hnw (by simp)
              have hrw6 := HR4.out.grown hnw
              have hbl6 := HB4.out.grown hnw HB4.out.size (fun k e => by cases e)
              have hs6 : pb + 1 ≤ w6.heap.size := Nat.le_trans hs4 hnw.size
              have HFIN := Lib.hid (show StInv w pb _ (.slice (some ⟨g6, 0, none⟩) 1 cap6) R xs.length len gap (xs.length + 1) p0 0 1 [(p0 : Int)] w6 from ⟨rfl, by omega, by omega, by omega, by simp, hp5, by omega, by omega, by omega, HF3.out.2.2, hwh6, hrw6, ho6, hbl6, hs6⟩)
              clear ho6 hg6 hor6 hnw hwh6 hrw6 hbl6
              go_wp2
              go_step3
              exact ⟨rfl, pb, _, len, gap, xs.length + 1, p0, 0, g6, cap6, 1, [(p0 : Int)], _, _, _, _, _, _, _, _, _, _, _, _, _, _, _, _, _, _, _, _, _, _, _, _, _, _, _, _, _, _, _, _, _, _, _, _, _, _, _, _, _, _, _, _, _, _, _, _, _, _, rfl, rfl, rfl, HFIN.out, HYES.out⟩
            · have HE := Lib.hid (HNO.out (.inr (by simpa using hb0)))
              obtain ⟨p0, hp0⟩ : ∃ p, R[0].1 = p := ⟨_, rfl⟩
              rw [hp0] at hc0 hE0 hb0
              clear hp0 HNO hYES hTF hend0
              have hc : (xs.length : Int) - (len : Int) < (p0 : Int) := by omega
              have HB3 := Lib.hid (HB2.out.alloc HB2.out.size (.cells #[.slice (some ⟨g0, o0, none⟩) R.length c2, .int .i64 (len : Int), .int .i64 (p0 : Int), .int .i64 0] 130))
              go_wp2_with fail
              refine (HIN _).out.mono ?_
              rintro e w3 ⟨rfl, rfl⟩
              go_wp2
              go_step3
              go_wp2
              simp only [Exit.jump]
              go_ret
              rw [HE.out]
              exact Lay.Got.mk (LI.ownNil _ _) HB3.out
          · have HE := Lib.hid (HNO.out (.inl (by unfold startsOk; simp [hg1])))
            have hgn2 : (10 : Int) < g := by omega
            have hgn : ¬ g < 0 := by omega
            clear hin hn hg
            go_wp2_with fail
            refine (HIN _).out.mono ?_
            rintro e w3 ⟨rfl, rfl⟩
            go_wp2
            simp only [Exit.jump]
            go_ret
            rw [HE.out]
            exact Lay.Got.mk (LI.ownNil _ _) HB2.out
        · have HE := Lib.hid (HNO.out (.inl (by unfold startsOk; simp [hg0])))
          have hgn : g < 0 := by omega
          clear hin hn hg
          go_wp2_with fail
          refine (HIN _).out.mono ?_
          rintro e w3 ⟨rfl, rfl⟩
          go_wp2
          simp only [Exit.jump]
          go_ret
          rw [HE.out]
          exact Lay.Got.mk (LI.ownNil _ _) HB2.out
  · rintro a' w' ⟨pb, v2, len, gap, f, p, m, gs, cs, no, out, u4, u5, u6, u7, u8, u12, u13, u14, u15, u16, u17, u18, u19, u20, u21, u22, u23, u24, u25, u26, u27, u28, u29, u30, u31, u32, u33, u34, u35, u36, u37, u38, u39, u40, u41, u42, u43, u44, u45, u46, u47, u48, u49, u50, u51, u52, u53, u54, u55, u56, rfl, rfl, rfl, hI, hS⟩
    have HI := Lib.hid hI
    have HS := Lib.hid hS
    obtain ⟨c0, c1, c2, c3⟩ := hI.wheel.at
    have hp1 := hI.p1
    have hp2 := hI.p2
    have hp3 := hI.p3
    have hp4 := hI.p4
    have hp0 := hI.p0
    have hl1 := hI.len1
    have hl2 := hI.len2
    have hg2 := hI.gap2
    have hsz := hI.size
    have hx2 : xs.length ≤ 4000000 := hl
    clear hI hS
    have hno : no ≤ p + 1 := by omega
    have hwl : IntKind.i64.wrap ((xs.length : Int) - (len : Int)) = (xs.length : Int) - (len : Int) := IntWalk.i64_in _ (by omega)
    by_cases hmore : p + 2 * len ≤ xs.length
    · have hc : ¬ ((xs.length : Int) - (len : Int) < (p : Int) + (len : Int)) := by omega
      obtain ⟨f, rfl⟩ : ∃ f', f = f' + 1 := ⟨f - 1, by omega⟩
      have hfar : v2.ownBlock ≠ some pb := fun e => by have := HI.out.far pb e; omega
      have HT := Lib.hid (turn_any pb v2 len (p + len) m R w' HI.out.row HI.out.wheel hfar (fun r hr => by have := (HEND.out r hr).2; omega) (by omega) (by omega) (by omega) (by omega))
      clear hp0
      cases hnr : nearR R (p + len) with
      | some b =>
        have hT : turnAt R (p + len) m = (b, 0) := by unfold turnAt; rw [hnr]
        have hnear := nearR_near hnr
        have HSN := Lib.hid (HS.out.trans (startsGo_found hmore hnr))
        rw [hT] at HT
        clear hT hnr
        go_wp2_with fail
        refine HT.out.mono ?_
        rintro e w4 ⟨rfl, hw4, hg4⟩
        have hd3 := hw4.at.2.2.2
        have HW4 := Lib.hid hw4
        have HR4 := Lib.hid (HI.out.row.far hg4 (fun k e e' => by have h1 := HI.out.far k e; have h2 := Option.some.inj e'; omega))
        have HO4 := Lib.hid (HI.out.own.kept hg4 (.inr (fun e => by have h1 := (HI.out.own.lt gs rfl).1; have h2 : gs = pb := Option.some.inj e; omega)))
        have HB4 := Lib.hid (HI.out.below.grown hg4 HI.out.below.size (fun k e => by have h2 := Option.some.inj e; have := HI.out.p5; omega))
        have hs4 : pb + 1 ≤ w4.heap.size := Nat.le_trans hsz hg4.size
        have HLIT := Lib.hid (li_lit (b : Int))
        clear hw4 hg4 c0 c1 c2 c3 HT
        have hgc : ¬ (gap : Int) < 0 := by omega
        go_wp2_with (at_builtin; refine LI_ok.snoc rfl (.tmp 53) (.tmp 55) rfl (pb + 1) _ out _ rfl (HO4.out.alloc _) HI.out.p0 _ rfl (b : Int) (HLIT.out _) (by omega) (by simp; omega) ?_; intro g6 cap6 w6 ho6 hg6 hor6 hlt6)
        have hnw : w4.grownBy w6 (some gs) := putGrown (World.grownBy.refl _ _) (Nat.le_refl _) hg6 (.inl rfl)
        have hown6 := (HO4.out.lt gs rfl)
        have hwh6 := HW4.out.kept hnw (by intro e; have := Option.some.inj e; omega)
        have hrw6 := HR4.out.far hnw (fun k e e' => by have h1 := HI.out.far k e; have h2 := Option.some.inj e'; omega)
        have hbl6 := HB4.out.grown hnw HB4.out.size (fun k e => by have h2 := Option.some.inj e; have := HI.out.p5; omega)
        have hs6 : pb + 1 ≤ w6.heap.size := Nat.le_trans hs4 hnw.size
        have HFIN := Lib.hid (show StInv w pb v2 (.slice (some ⟨g6, 0, none⟩) (no + 1) cap6) R xs.length len gap f (b) (0) (no + 1) (out ++ [(b : Int)]) w6 from ⟨by simp [HI.out.p0], by omega, by omega, by omega, by simp; omega, HI.out.p5, hl1, hl2, hg2, HI.out.far, hwh6, hrw6, ho6, hbl6, hs6⟩)
        clear ho6 hg6 hor6 hnw hwh6 hrw6 hbl6
        go_wp2
        go_step3
        refine ⟨rfl, ⟨pb, v2, len, gap, f, b, 0, g6, cap6, no + 1, out ++ [(b : Int)], _, _, _, _, _, _, _, _, _, _, _, _, _, _, _, _, _, _, _, _, _, _, _, _, _, _, _, _, _, _, _, _, _, _, _, _, _, _, _, _, _, _, _, _, _, _, _, _, _, _, rfl, rfl, rfl, HFIN.out, HSN.out⟩, ?_⟩
        have hp0 := HI.out.p0
        simp [sliceLen]
        omega
      | none =>
        have hT : turnAt R (p + len) m = (p + len, m + 1) := by unfold turnAt; rw [hnr]
        have HSTOP := Lib.hid (fun h => HS.out.trans (startsGo_stop hmore hnr h))
        have HSMISS := Lib.hid (fun h => HS.out.trans (startsGo_missed hmore hnr h))
        rw [hT] at HT
        clear hT hnr
        go_wp2_with fail
        refine HT.out.mono ?_
        rintro e w4 ⟨rfl, hw4, hg4⟩
        by_cases hgm : gap < m + 1
        · have hgc : (gap : Int) < (m : Int) + 1 := by omega
          have hd3 := hw4.at.2.2.2
          have HE := Lib.hid (HSTOP.out hgm)
          have HO4 := Lib.hid (HI.out.own.kept hg4 (.inr (fun e => by have h1 := (HI.out.own.lt gs rfl).1; have h2 : gs = pb := Option.some.inj e; omega)))
          have HB4 := Lib.hid (HI.out.below.grown hg4 HI.out.below.size (fun k e => by have h2 := Option.some.inj e; have := HI.out.p5; omega))
          clear hw4 hg4 c0 c1 c2 c3 HT
          go_wp2
          simp only [Exit.jump]
          go_ret
          rw [HE.out]
          exact Lay.Got.mk (by have := HO4.out.mono (show w.heap.size ≤ pb + 1 by have := HI.out.p5; omega); exact this) HB4.out
        · have HSN := Lib.hid (HSMISS.out hgm)
          have hd3 := hw4.at.2.2.2
          have HW4 := Lib.hid hw4
          have HR4 := Lib.hid (HI.out.row.far hg4 (fun k e e' => by have h1 := HI.out.far k e; have h2 := Option.some.inj e'; omega))
          have HO4 := Lib.hid (HI.out.own.kept hg4 (.inr (fun e => by have h1 := (HI.out.own.lt gs rfl).1; have h2 : gs = pb := Option.some.inj e; omega)))
          have HB4 := Lib.hid (HI.out.below.grown hg4 HI.out.below.size (fun k e => by have h2 := Option.some.inj e; have := HI.out.p5; omega))
          have hs4 : pb + 1 ≤ w4.heap.size := Nat.le_trans hsz hg4.size
          have HLIT := Lib.hid (li_lit ((p + len : Nat) : Int))
          clear hw4 hg4 c0 c1 c2 c3 HT
          have hgc : ¬ (gap : Int) < (m : Int) + 1 := by omega
          go_wp2_with (at_builtin; refine LI_ok.snoc rfl (.tmp 53) (.tmp 55) rfl (pb + 1) _ out _ rfl (HO4.out.alloc _) HI.out.p0 _ rfl ((p + len : Nat) : Int) (HLIT.out _) (by omega) (by simp; omega) ?_; intro g6 cap6 w6 ho6 hg6 hor6 hlt6)
          have hnw : w4.grownBy w6 (some gs) := putGrown (World.grownBy.refl _ _) (Nat.le_refl _) hg6 (.inl rfl)
          have hown6 := (HO4.out.lt gs rfl)
          have hwh6 := HW4.out.kept hnw (by intro e; have := Option.some.inj e; omega)
          have hrw6 := HR4.out.far hnw (fun k e e' => by have h1 := HI.out.far k e; have h2 := Option.some.inj e'; omega)
          have hbl6 := HB4.out.grown hnw HB4.out.size (fun k e => by have h2 := Option.some.inj e; have := HI.out.p5; omega)
          have hs6 : pb + 1 ≤ w6.heap.size := Nat.le_trans hs4 hnw.size
          have HFIN := Lib.hid (show StInv w pb v2 (.slice (some ⟨g6, 0, none⟩) (no + 1) cap6) R xs.length len gap f (p + len) (m + 1) (no + 1) (out ++ [((p + len : Nat) : Int)]) w6 from ⟨by simp [HI.out.p0], by omega, by omega, by omega, by simp; omega, HI.out.p5, hl1, hl2, hg2, HI.out.far, hwh6, hrw6, ho6, hbl6, hs6⟩)
          clear ho6 hg6 hor6 hnw hwh6 hrw6 hbl6
          go_wp2
          go_step3
          refine ⟨rfl, ⟨pb, v2, len, gap, f, p + len, m + 1, g6, cap6, no + 1, out ++ [((p + len : Nat) : Int)], _, _, _, _, _, _, _, _, _, _, _, _, _, _, _, _, _, _, _, _, _, _, _, _, _, _, _, _, _, _, _, _, _, _, _, _, _, _, _, _, _, _, _, _, _, _, _, _, _, _, rfl, rfl, rfl, HFIN.out, HSN.out⟩, ?_⟩
          have hp0 := HI.out.p0
          simp [sliceLen]
          omega
    · have hc : (xs.length : Int) - (len : Int) < (p : Int) + (len : Int) := by omega
      have HE := Lib.hid (HS.out.trans (startsGo_end hmore))
      clear hp0
      go_wp2
      simp only [Exit.jump]
      go_ret
      rw [HE.out]
      exact Lay.Got.mk (by have := HI.out.own.mono (show w.heap.size ≤ pb + 1 by have := HI.out.p5; omega); exact this) HI.out.below
end Go.Proofs.YtobpnoiienpipaaGreat
