/-
  What is proved: the walk of the law FnTwoParts.
  Conditions: none beyond the argument's own.
-/
import Derived.Test.YtnkmcjiohmnfhaaBright
import Derived.Test.YtnkmcjiohmnfhaaEncCells
namespace Go.Proofs.Ytnkmcjiohmnfhaa
set_option linter.unusedVariables false
open Go.RowKit
attribute [local go_sem] run_store_float run_store_complex unary_negf neg256

/-- The numbers of xs, in sixteenths. -/
def SxL (xs : List Nat) (v : Nat → Int) : Prop := ∀ k (h : k < xs.length), Flt.Sx xs[k] (v k)
def colv (B D : Nat → Int) (k : Nat) : Int := if k % 4 = 0 then B (k / 4) else if k % 4 = 1 then -D (k / 4) else if k % 4 = 2 then -B (k / 4) else D (k / 4)
def PlainAt (cs : List C3) (A B D : Nat → Int) : Prop := ∀ i (h : i < cs.length), PC cs[i] (A i) (B i) (D i)
theorem plain_at {cs : List C3} (h : PlainR cs) : ∃ A B D, PlainAt cs A B D := by
  refine ⟨fun i => if h1 : i < cs.length then (h cs[i] (List.getElem_mem h1)).choose else 0, fun i => if h1 : i < cs.length then (h cs[i] (List.getElem_mem h1)).choose_spec.choose else 0, fun i => if h1 : i < cs.length then (h cs[i] (List.getElem_mem h1)).choose_spec.choose_spec.choose else 0, fun i h1 => ?_⟩
  simp only [dif_pos h1]
  exact (h cs[i] (List.getElem_mem h1)).choose_spec.choose_spec.choose_spec
theorem sx_enc {cs : List C3} {A B D : Nat → Int} (h : PlainAt cs A B D) : SxL (enc cs) (fun k => A (k / 4) + colv B D k) := by
  intro k hk
  have hk2 := hk
  rw [enc_len] at hk2
  have hi : k / 4 < cs.length := by omega
  obtain ⟨h1, h2, h3, k1, k2, k3⟩ := h (k / 4) hi
  have e := enc_get cs (k / 4) (k % 4) hi (Nat.mod_lt _ (by decide))
  rw [Nat.div_add_mod, List.getD_eq_getElem?_getD, List.getElem?_eq_getElem hk] at e
  show Flt.Sx _ (A (k / 4) + colv B D k)
  have e' : (enc cs)[k] = (enc4 cs[k / 4]).getD (k % 4) 0 := e
  rw [e']
  unfold colv
  have hm : k % 4 = 0 ∨ k % 4 = 1 ∨ k % 4 = 2 ∨ k % 4 = 3 := by omega
  rcases hm with hm | hm | hm | hm <;> rw [hm]
  · exact sx_addv h1 h2 (by omega)
  · exact sx_addv h1 h3.neg (by omega)
  · exact sx_addv h1 h2.neg (by omega)
  · exact sx_addv h1 h3 (by omega)
theorem dec_at {cs ds : List C3} {A B D : Nat → Int} (h : PlainAt cs A B D) (hd : DecL (enc cs) ds) : ds.length = cs.length ∧ PlainAt ds A B D := by
  obtain ⟨hl, hf⟩ := hd
  rw [enc_len] at hl
  refine ⟨by omega, fun i h1 => ?_⟩
  have h2 : i < cs.length := by omega
  have h3 := hf i h1
  unfold four at h3
  rw [show 4 * i = 4 * i + 0 from rfl, enc_get cs i 0 h2 (by decide), enc_get cs i 1 h2 (by decide), enc_get cs i 2 h2 (by decide), enc_get cs i 3 h2 (by decide)] at h3
  exact dec_enc (h i h2) h3
theorem PlainAt.plain {cs : List C3} {A B D : Nat → Int} (h : PlainAt cs A B D) : PlainR cs := by
  intro c hc
  obtain ⟨i, hi, rfl⟩ := List.getElem_of_mem hc
  exact ⟨_, _, _, h i hi⟩
theorem sx_spread {ds : List C3} {A B D : Nat → Int} (h : PlainAt ds A B D) : SxL (spread ds) (fun k => A (k / 4)) := by
  intro k hk
  have hk2 := hk
  rw [spread_len] at hk2
  have hi : k / 4 < ds.length := by omega
  rw [spread_get ds k hk hi]
  exact (h (k / 4) hi).1
/-- The brightness of an encoded row of sixteenths. -/
theorem bright_at {cs : List C3} {A B D : Nat → Int} (h : PlainAt cs A B D) (h1 : 1 ≤ cs.length) (h6 : cs.length ≤ 6) {ys : List Nat} {ok : Bool} (hb : BrightR (enc cs) ys ok) : ok = true ∧ ys.length = 4 * cs.length ∧ SxL ys (fun k => A (k / 4)) := by
  obtain ⟨ds, e1, _, e3, e4⟩ := hb
  obtain ⟨hl, hp⟩ := dec_at h (e1 (by rw [enc_len]; omega))
  have hr := hp.plain.rok (by omega) (by omega)
  rw [hr] at e3 e4
  rw [if_pos rfl] at e4
  refine ⟨e3, ?_, ?_⟩
  · rw [e4, spread_len, hl]
  · rw [e4]; exact sx_spread hp
theorem PlainAt.small {cs : List C3} {A B D : Nat → Int} (h : PlainAt cs A B D) (i : Nat) (hi : i < cs.length) : (A i).natAbs ≤ 1024 ∧ (B i).natAbs ≤ 512 ∧ (D i).natAbs ≤ 512 := ⟨(h i hi).2.2.2.1, (h i hi).2.2.2.2.1, (h i hi).2.2.2.2.2⟩
theorem colv_small {B D : Nat → Int} {k : Nat} (hb : (B (k / 4)).natAbs ≤ 512) (hd : (D (k / 4)).natAbs ≤ 512) : (colv B D k).natAbs ≤ 512 := by
  unfold colv
  repeat' split
  all_goals omega
theorem colour_at {cs : List C3} {A B D : Nat → Int} (h : PlainAt cs A B D) (h1 : 1 ≤ cs.length) (h6 : cs.length ≤ 6) {ys : List Nat} {ok : Bool} (hb : ColourR (enc cs) ys ok) : ok = true ∧ ys.length = 4 * cs.length ∧ SxL ys (colv B D) := by
  obtain ⟨bs, e1, e2⟩ := hb
  obtain ⟨g1, g2, g3⟩ := bright_at h h1 h6 e1
  rw [if_pos g1] at e2
  obtain ⟨e3, e4, e5, e6⟩ := e2
  rw [enc_len] at e3
  refine ⟨g1, e3, fun k hk => ?_⟩
  have hi : k / 4 < cs.length := by omega
  have q1 : Flt.Sx _ (A (k / 4) + colv B D k) := sx_enc h k (by rw [enc_len]; omega)
  have q2 : Flt.Sx _ (A (k / 4)) := g3 k (by omega)
  have q3 := e6 k hk (by rw [enc_len]; omega) (by omega)
  obtain ⟨s1, s2, s3⟩ := h.small (k / 4) hi
  have s4 := colv_small s2 s3
  obtain ⟨r, hr, hs⟩ := q1.sub q2 (by omega)
  rw [q3.is hr]
  rwa [show A (k / 4) + colv B D k - A (k / 4) = colv B D k by omega] at hs
theorem sum_at {cs : List C3} {A B D : Nat → Int} (h : PlainAt cs A B D) {ys zs rs : List Nat} (hy : ys.length = 4 * cs.length) (hz : zs.length = 4 * cs.length) (sy : SxL ys (fun k => A (k / 4))) (sz : SxL zs (colv B D)) (hr : ResL .add ys zs rs) : SxL rs (fun k => A (k / 4) + colv B D k) := by
  obtain ⟨e4, e5, e6⟩ := hr
  intro k hk
  have hi : k / 4 < cs.length := by omega
  have q1 : Flt.Sx _ (A (k / 4)) := sy k (by omega)
  have q2 : Flt.Sx _ (colv B D k) := sz k (by omega)
  have q3 := e6 k hk (by omega) (by omega)
  obtain ⟨s1, s2, s3⟩ := h.small (k / 4) hi
  have s4 := colv_small s2 s3
  obtain ⟨r, hr, hs⟩ := q1.add q2 (by omega)
  rw [q3.is hr]
  exact hs
theorem getD_sx {xs : List Nat} {v : Nat → Int} (h : SxL xs v) (k : Nat) (hk : k < xs.length) : Flt.Sx (xs.getD k 0) (v k) := by
  rw [List.getD_eq_getElem?_getD, List.getElem?_eq_getElem hk]
  exact h k hk
/-- The decoded brightness has no colour; the decoded colouring no brightness. -/
theorem dec_bright {cs ds : List C3} {A B D : Nat → Int} (h : PlainAt cs A B D) {ys : List Nat} (hy : ys.length = 4 * cs.length) (sy : SxL ys (fun k => A (k / 4))) (hd : DecL ys ds) : ds.length = cs.length ∧ PlainAt ds A (fun _ => 0) (fun _ => 0) := by
  obtain ⟨hl, hf⟩ := hd
  refine ⟨by omega, fun i h1 => ?_⟩
  have h3 := hf i h1
  unfold four at h3
  have hc : i < cs.length := by omega
  obtain ⟨s1, _, _⟩ := h.small i hc
  have q0 := getD_sx sy (4 * i) (by omega)
  have q1 := getD_sx sy (4 * i + 1) (by omega)
  have q2 := getD_sx sy (4 * i + 2) (by omega)
  have q3 := getD_sx sy (4 * i + 3) (by omega)
  simp only [show 4 * i / 4 = i by omega, show (4 * i + 1) / 4 = i by omega, show (4 * i + 2) / 4 = i by omega, show (4 * i + 3) / 4 = i by omega] at q0 q1 q2 q3
  obtain ⟨x1, x2, x3⟩ := dec_sx (a := A i) (b := 0) (d := 0) q0 q1 q2 q3 h3 (by omega) (by omega) (by omega) (by omega)
  exact ⟨x1, x2, x3, s1, by simp, by simp⟩
theorem dec_colour {cs ds : List C3} {A B D : Nat → Int} (h : PlainAt cs A B D) {ys : List Nat} (hy : ys.length = 4 * cs.length) (sy : SxL ys (colv B D)) (hd : DecL ys ds) : ds.length = cs.length ∧ PlainAt ds (fun _ => 0) B D := by
  obtain ⟨hl, hf⟩ := hd
  refine ⟨by omega, fun i h1 => ?_⟩
  have h3 := hf i h1
  unfold four at h3
  have hc : i < cs.length := by omega
  obtain ⟨_, s2, s3⟩ := h.small i hc
  have q0 := getD_sx sy (4 * i) (by omega)
  have q1 := getD_sx sy (4 * i + 1) (by omega)
  have q2 := getD_sx sy (4 * i + 2) (by omega)
  have q3 := getD_sx sy (4 * i + 3) (by omega)
  have c0 : colv B D (4 * i) = B i := by unfold colv; rw [if_pos (by omega), show 4 * i / 4 = i by omega]
  have c1 : colv B D (4 * i + 1) = -D i := by unfold colv; rw [if_neg (by omega), if_pos (by omega), show (4 * i + 1) / 4 = i by omega]
  have c2 : colv B D (4 * i + 2) = -B i := by unfold colv; rw [if_neg (by omega), if_neg (by omega), if_pos (by omega), show (4 * i + 2) / 4 = i by omega]
  have c3 : colv B D (4 * i + 3) = D i := by unfold colv; rw [if_neg (by omega), if_neg (by omega), if_neg (by omega), show (4 * i + 3) / 4 = i by omega]
  rw [c0] at q0
  rw [c1] at q1
  rw [c2] at q2
  rw [c3] at q3
  obtain ⟨x1, x2, x3⟩ := dec_sx (a := 0) (b := B i) (d := D i) q0 q1 q2 q3 h3 (by omega) (by omega) (by omega) (by omega)
  exact ⟨x1, x2, x3, by simp, s2, s3⟩
set_option maxHeartbeats 1000000 in
theorem equals_any (v v' : Value) (xs ys : List Nat) (w : World) (h : FRow w v xs) (h' : FRow w v' ys) (hlen : xs.length = ys.length) (heq : ∀ k (h : k < xs.length) (h' : k < ys.length), FloatKind.f32.format.order xs[k] ys[k] = some .eq) (hl : xs.length ≤ 1000000000) :
    Calls Try.prog 26 #[v, v'] w fun e w' => e = .returned (.bool true) ∧ ∃ n, w' = w.drewN n := by
  obtain ⟨a, c, rfl, hcell⟩ := h.any
  obtain ⟨a', c', rfl, hcell'⟩ := h'.any
  have HC := Lib.hid hcell
  have HC' := Lib.hid hcell'
  have HF := Lib.hid heq
  have HL := Lib.hid hlen
  rw [← hlen]
  clear hcell hcell' heq h h' hlen
  go_enter Try.func26, Try.ntmps26
  go_wp2
  go_loopw [5] (fun i wr => ∃ k q : Nat, k ≤ xs.length ∧ i = .int .i64 (k : Int) ∧ wr = w.drewN q) (fun i _ => xs.length - (intOf i).toNat)
  case atStart => exact ⟨0, 0, Nat.zero_le _, rfl, rfl⟩
  case round =>
    obtain ⟨k, q, hk, rfl, rfl⟩ := hrel
    by_cases hlt : k < xs.length
    · have hlt' : k < ys.length := by have := HL.out; omega
      obtain ⟨g, o, rfl, hcap, hc0⟩ := HC.out k hlt
      obtain ⟨g', o', rfl, hcap', hc0'⟩ := HC'.out k hlt'
      rw [← HL.out] at hcap'
      have hs := HF.out k hlt hlt'
      generalize xs[k] = x at *
      generalize ys[k] = y at *
      clear hlt'
      go_wp2
      go_quiet (fail)
      go_wp2
      go_roundw
      case rel => exact ⟨k + 1, _, by omega, by go_num, rfl⟩
      case measure => simp [intOf]; omega
    · go_wp2
      go_ret
      exact ⟨rfl, _, rfl⟩
set_option maxHeartbeats 4000000 in
theorem walk_FnTwoParts (a0 : Option Addr) (len0 cap0 : Nat) (z0 : List Int) (w : World) (w0 : IsRow .u8 w a0 len0 cap0 z0) :
    Calls Try.prog 5 #[.slice a0 len0 cap0] w fun e w' => e = .returned (.bool true) ∧ Below w.heap.size w w' := by
  by_cases hbig : 1048576 < len0
  · have hbb : decide ((1048576 : Int) < len0) = true := by simp; omega
    have HB := Lib.hid (big_any a0 len0 cap0 w)
    rw [hbb] at HB
    clear hbb
    go_enter Try.func5, Try.ntmps5
    go_wp2_with fail
    refine HB.out.mono ?_
    rintro e w1 ⟨rfl, rfl⟩
    go_wp2
    go_ret
    exact ⟨rfl, Below.refl _ _⟩
  · have hbb : decide ((1048576 : Int) < len0) = false := by simp; omega
    have HB := Lib.hid (big_any a0 len0 cap0 w)
    rw [hbb] at HB
    have HD := Lib.hid (drawPlain_any a0 len0 cap0 w (w0.src (by omega)))
    clear hbb w0
    go_enter Try.func5, Try.ntmps5
    go_wp2_with fail
    refine HB.out.mono ?_
    rintro e w1 ⟨rfl, rfl⟩
    go_wp2_with fail
    refine HD.out.mono ?_
    rintro e w1 ⟨v, cs, ⟨hl1, hl6⟩, hp, rfl, hr, hb1⟩
    have HE := Lib.hid (encode_even v cs w1 hr hp.fit (by omega))
    rw [hp.rok hl1 (by omega)] at HE
    simp only [if_true] at HE
    obtain ⟨A, B, D, hat⟩ := plain_at hp
    obtain ⟨n, hn⟩ : ∃ n, cs.length = n := ⟨_, rfl⟩
    have FB := Lib.hid (fun ys ok (h : BrightR (enc cs) ys ok) => bright_at hat hl1 hl6 h)
    have FC := Lib.hid (fun ys ok (h : ColourR (enc cs) ys ok) => colour_at hat hl1 hl6 h)
    have FS := Lib.hid (fun ys zs rs (hy : ys.length = 4 * cs.length) (hz : zs.length = 4 * cs.length) sy sz (h : ResL .add ys zs rs) => sum_at hat hy hz sy sz h)
    have FE := Lib.hid (sx_enc hat)
    have FDB := Lib.hid (fun ys ds (hy : ys.length = 4 * cs.length) sy (h : DecL ys ds) => dec_bright hat hy sy h)
    have FDC := Lib.hid (fun ys ds (hy : ys.length = 4 * cs.length) sy (h : DecL ys ds) => dec_colour hat hy sy h)
    have HSL := Lib.hid (enc_len cs)
    rw [hn] at FB FC FS FDB FDC HSL hl1 hl6
    clear hat hp hr HD HB hn
    go_wp2_with fail
    refine HE.out.mono ?_
    generalize enc cs = ss at *
    rintro e w2 ⟨v2, rfl, hn2, hb2⟩
    obtain ⟨a2, c2, rfl⟩ := hn2.row.lenv
    rw [HSL.out]
    have hb02 := below_trans hb1 hb2 hb1.size
    have HN2 := Lib.hid hn2
    have HBR := Lib.hid (bright_any (.slice a2 ss.length c2) ss w2 hn2.row (by have := HSL.out; omega))
    rw [HSL.out] at HBR
    clear hn2 hb1 hb2 HE
    go_wp2_with fail
    refine HBR.out.mono ?_
    rintro e w3 ⟨v3, ys, ok, rfl, hbr, hn3, hb3⟩
    obtain ⟨rfl, hyl, hys⟩ := FB.out ys ok hbr
    have hb03 := below_trans hb02 hb3 hb02.size
    have HN23 := Lib.hid (HN2.out.below hb3)
    have HN3 := Lib.hid hn3
    have HYL := Lib.hid hyl
    have HYS := Lib.hid hys
    have HCO := Lib.hid (colour_any (.slice a2 ss.length c2) ss w3 HN23.out.row (by have := HSL.out; omega))
    rw [HSL.out] at HCO
    clear hbr hn3 hyl hys hb3 hb02 HN2 HBR
    go_wp2_with fail
    refine HCO.out.mono ?_
    rintro e w4 ⟨v4, zs, ok, rfl, hcr, hn4, hb4⟩
    obtain ⟨rfl, hzl, hzs⟩ := FC.out zs ok hcr
    have hb04 := below_trans hb03 hb4 hb03.size
    have HN24 := Lib.hid (HN23.out.below hb4)
    have HN34 := Lib.hid (HN3.out.below hb4)
    have HN4 := Lib.hid hn4
    have HZL := Lib.hid hzl
    have HZS := Lib.hid hzs
    have hao : addOk ys zs = true := by
      unfold addOk
      have h1 := HYL.out
      have h2 := HZL.out
      simp
      omega
    have HAD := Lib.hid (addSamples_any v3 v4 ys zs w4 HN34.out.row HN4.out.row (by have := HYL.out; omega) (by have := HZL.out; omega))
    rw [hao] at HAD
    have HAO := Lib.hid hao
    clear hcr hn4 hzl hzs hb4 hb03 HN23 HN3 HCO hao
    go_wp2_with fail
    refine HAD.out.mono ?_
    rintro e w5 ⟨v5, rs, rfl, har, hn5, hb5⟩
    have hb05 := below_trans hb04 hb5 hb04.size
    obtain ⟨hrl, hrr⟩ : rs.length = ys.length ∧ ResL .add ys zs rs := by
      unfold AddR at har
      rw [HAO.out] at har
      simpa using har
    have hrs := FS.out ys zs rs HYL.out HZL.out HYS.out HZS.out hrr
    have HN25 := Lib.hid (HN24.out.below hb5)
    have HN35 := Lib.hid (HN34.out.below hb5)
    have HN45 := Lib.hid (HN4.out.below hb5)
    have HEQ := Lib.hid (equals_any v5 (.slice a2 ss.length c2) rs ss w5 hn5.row HN25.out.row (by have := HYL.out; have := HSL.out; omega) (fun k h1 h2 => (hrs k h1).eq (FE.out k h2)) (by have := HYL.out; omega))
    rw [HSL.out] at HEQ
    clear har hn5 hb5 hb04 HN24 HN34 HN4 HAD hrl hrr hrs
    go_wp2_with fail
    refine HEQ.out.mono ?_
    rintro e w6 ⟨rfl, q6, hq6⟩
    have hb56 : Below w5.heap.size w5 w6 := by rw [hq6]; exact belowDN (Below.refl _ _) _
    have hb06 := below_trans hb05 hb56 hb05.size
    have HN36 := Lib.hid (HN35.out.below hb56)
    have HN46 := Lib.hid (HN45.out.below hb56)
    have HDB := Lib.hid (decode_any v3 ys false w6 HN36.out.row (by have := HYL.out; omega))
    clear hq6 hb56 hb05 HN35 HN45 HEQ HN25
    go_wp2_with fail
    refine HDB.out.mono ?_
    rintro e w7 ⟨v7, as1, hd1, _, _, rfl, hn7, hb7⟩
    obtain ⟨hal, hap⟩ := FDB.out ys as1 HYL.out HYS.out (hd1 (by have := HYL.out; omega))
    have hrk := hap.plain.rok (by omega) (by omega)
    rw [hrk] at hn7 ⊢
    simp only [if_true, Bool.false_eq_true, if_false] at hn7
    have hb07 := below_trans hb06 hb7 hb06.size
    have HN47 := Lib.hid (HN46.out.below hb7)
    have HR7 := Lib.hid hn7.row
    have HAP := Lib.hid hap
    have HDC := Lib.hid (decode_any v4 zs false w7 HN47.out.row (by have := HZL.out; omega))
    clear hd1 hn7 hb7 hb06 HN36 HN46 HDB hrk hap
    go_wp2_with fail
    refine HDC.out.mono ?_
    rintro e w8 ⟨v8, bs, hd1, _, _, rfl, hn8, hb8⟩
    obtain ⟨hbl, hbp⟩ := FDC.out zs bs HZL.out HZS.out (hd1 (by have := HZL.out; omega))
    have hrk := hbp.plain.rok (by omega) (by omega)
    rw [hrk] at hn8 ⊢
    simp only [if_true, Bool.false_eq_true, if_false] at hn8
    have hb08 := below_trans hb07 hb8 hb07.size
    have hr8 := hn8.row
    have hr7 := HR7.out.below hb8
    have HBP := Lib.hid hbp
    obtain ⟨g, o, cap, rfl, hcap, hcell⟩ : ∃ g o cap, v7 = .slice (some ⟨g, o, none⟩) as1.length cap ∧ as1.length ≤ cap ∧ ∀ i (h : i < as1.length), w8.cell? ⟨g, o + i * 2, none⟩ = some (.float .f32 as1[i].1) ∧ w8.cell? ⟨g, o + i * 2 + 1, none⟩ = some (.complex .f32 as1[i].2.1 as1[i].2.2) := by
      rcases hr7 with ⟨_, h1⟩ | h1
      · subst h1; simp at hal; omega
      · exact h1
    obtain ⟨g', o', cap', rfl, hcap', hcell'⟩ : ∃ g o cap, v8 = .slice (some ⟨g, o, none⟩) bs.length cap ∧ bs.length ≤ cap ∧ ∀ i (h : i < bs.length), w8.cell? ⟨g, o + i * 2, none⟩ = some (.float .f32 bs[i].1) ∧ w8.cell? ⟨g, o + i * 2 + 1, none⟩ = some (.complex .f32 bs[i].2.1 bs[i].2.2) := by
      rcases hr8 with ⟨_, h1⟩ | h1
      · subst h1; simp at hbl; omega
      · exact h1
    have HC := Lib.hid hcell
    have HC' := Lib.hid hcell'
    have HAL := Lib.hid hal
    have HBL := Lib.hid hbl
    rw [hal] at hcap ⊢
    rw [hbl] at hcap' ⊢
    clear hd1 hn8 hb8 hb07 HN47 HDC hrk hbp hr7 hr8 hcell hcell' hal hbl HR7
    go_wp2
    go_loopw [14] (fun i wr => ∃ k q : Nat, k ≤ n ∧ i = .int .i64 (k : Int) ∧ wr = w8.drewN q) (fun i _ => n - (intOf i).toNat)
    case atStart => exact ⟨0, 0, Nat.zero_le _, rfl, rfl⟩
    case round =>
      obtain ⟨k, q, hk, rfl, rfl⟩ := hrel
      by_cases hlt : k < n
      · have hka : k < as1.length := by have := HAL.out; omega
        have hkb : k < bs.length := by have := HBL.out; omega
        have m1 := (HC.out k hka).2
        have m0 := (HC'.out k hkb).1
        obtain ⟨_, p2, p3, _⟩ := HAP.out k hka
        obtain ⟨p1, _⟩ := HBP.out k hkb
        have o1 : FloatKind.f32.format.order as1[k].2.1 0 = some .eq := p2.eq Flt.Sx.zero
        have o2 : FloatKind.f32.format.order as1[k].2.2 0 = some .eq := p3.eq Flt.Sx.zero
        have o3 : FloatKind.f32.format.order bs[k].1 0 = some .eq := p1.eq Flt.Sx.zero
        clear p1 p2 p3
        generalize as1[k] = ca at *
        generalize bs[k] = cb at *
        clear hka hkb
        go_wp2
        go_roundw
        case rel => exact ⟨k + 1, _, by omega, by go_num, rfl⟩
        case measure => simp [intOf]; omega
      · have hbz := belowDN hb08 q
        go_wp2
        go_ret
        exact ⟨rfl, hbz⟩
end Go.Proofs.Ytnkmcjiohmnfhaa
