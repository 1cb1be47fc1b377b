/-
  What is proved: what the program answers of rows whose colours are taken away, and of rows that are brought to size.
  Conditions: those that each fact names.
-/
import Derived.Test.YtobpnoiienpipaaGreatPz27
import Derived.Test.YtobpnoiienpipaaGreatPz24
import Derived.Test.YtobpnoiienpipaaGreatPz26
namespace Go.Proofs.YtobpnoiienpipaaGreat
set_option linter.unusedVariables false
open Go.RowKit
attribute [local go_sem] run_store_float run_store_complex unary_negf neg256

/-- A cell without its colour. -/
def gc (c : C3) : C3 := (c.1, 0, 0)
def greyL (rows : List (List C3)) : List (List C3) := rows.map (List.map gc)
theorem greyed_any (c : C3) (w : World) :
    Calls Tryz.prog 152 #[.agg #[.float .f32 c.1, .complex .f32 c.2.1 c.2.2]] w fun e w' => e = .returned (.agg #[.float .f32 (gc c).1, .complex .f32 (gc c).2.1 (gc c).2.2]) ∧ Below w.heap.size w w' := by
  go_enter Tryz.func152, Tryz.ntmps152
  go_wp2
  refine bodyPost_ret (v := .agg #[.float .f32 c.1, .complex .f32 0 0]) ?_ rfl ⟨rfl, ?_⟩
  all_goals first | (simp [results, Tryz.results152, go_sem]; done) | exact ((Below.refl _ _).alloc (Nat.le_refl _) _).alloc (by simp) _ | skip
set_option maxHeartbeats 1000000 in
theorem changedGrey_new (φ : C3 → C3) (v : Value) (cs : List C3) (w : World) (h : RowV w v cs) (hne : cs ≠ []) (hl : cs.length ≤ 1000000)
    (HX : ∀ c ∈ cs, ∀ W, Below w.heap.size w W → Calls Tryz.prog 152 #[.agg #[.float .f32 c.1, .complex .f32 c.2.1 c.2.2]] W fun e w' => e = .returned (.agg #[.float .f32 (φ c).1, .complex .f32 (φ c).2.1 (φ c).2.2]) ∧ Below W.heap.size W w') :
    Calls Tryz.prog 151 #[v, .func (.func 152) #[] #[]] w fun e w' => RowNew (cs.map φ) w e w' := by
  rcases h with ⟨_, h1⟩ | ⟨g, o, cap, rfl, hcap, hcell⟩
  · exact absurd h1 hne
  · have HC := Lib.hid hcell
    have HXX := Lib.hid HX
    have hmk := make_cells cs.length hl
    clear hcell HX hne
    go_enter Tryz.func151, Tryz.ntmps151
    go_wp2
    have hst := Made.start w cs.length (cs.map φ)
    have hbel : Below w.heap.size w (w.alloc (.cells (madeCells #[.float .f32 0, .complex .f32 0 0] (cs.length * 2)) 61)) := (Below.refl _ _).alloc (Nat.le_refl _) _
    have hsz : w.heap.size < (w.alloc (.cells (madeCells #[.float .f32 0, .complex .f32 0 0] (cs.length * 2)) 61)).heap.size := by simp
    clear hmk
    generalize w.alloc (.cells (madeCells #[.float .f32 0, .complex .f32 0 0] (cs.length * 2)) 61) = w1 at *
    go_loopw [13] (fun i wr => ∃ k : Nat, k ≤ cs.length ∧ i = .int .i64 (k : Int) ∧ Below w.heap.size w wr ∧ w.heap.size < wr.heap.size ∧ Made wr w.heap.size cs.length k (cs.map φ)) (fun i _ => cs.length - (intOf i).toNat)
    case atStart => exact ⟨0, Nat.zero_le _, rfl, hbel, hsz, hst⟩
    case round =>
      obtain ⟨k, hk, rfl, hb, hs, hm⟩ := hrel
      have HM := Lib.hid hm
      clear hm
      by_cases hlt : k < cs.length
      · obtain ⟨hc0, hc1⟩ := HC.out k hlt
        have hd0 := (grown_of hb).cell hc0 (by simp)
        have hd1 := (grown_of hb).cell hc1 (by simp)
        have HK := fun W hW => Lib.hid (HXX.out cs[k] (List.getElem_mem hlt) W hW)
        have hlm : k < (cs.map φ).length := by simpa using hlt
        have hmk := List.getElem_map φ (h := hlm)
        have HMK := Lib.hid hmk
        clear hc0 hc1 hmk
        generalize hck : cs[k] = c at *
        have HCK := Lib.hid hck
        clear hck
        go_wp2_with fail
        have hbA := hb.alloc hb.size (.cells #[.float .f32 c.1, .complex .f32 c.2.1 c.2.2] 61)
        refine (HK _ hbA).out.mono ?_
        rintro e w2 ⟨rfl, hb2⟩
        have hm2 : Made w2 w.heap.size cs.length k (cs.map φ) := HM.out.kept ((hb2.block _ (by simp; omega)).trans (Below.heap_alloc _ _ _ hs))
        have hbw : Below w.heap.size w w2 := hbA.trans (hb2.mono (by simp; omega))
        have hs2 : w.heap.size < w2.heap.size := Nat.lt_of_lt_of_le hs (Nat.le_trans (by simp) hb2.size)
        obtain ⟨⟨x0, hx0⟩, ⟨x1, hx1⟩, hf0, hf1⟩ := hm2.at k hlt
        have hm3 := hm2.step hlm (by simp)
        rw [HMK.out] at hm3
        have HM3 := Lib.hid hm3
        clear hm2 hm3 hb2 hbA hd0 hd1
        go_wp2
        go_roundw
        case rel => exact ⟨k + 1, by omega, by go_num, (hbw.setCell (Nat.le_refl _) _).setCell (Nat.le_refl _) _, by simpa [World.setCell] using hs2, HM3.out⟩
        case measure => simp [intOf]; omega
      · have hkk : k = cs.length := by omega
        subst hkk
        have hrow := HM.out.rnew (by simp) (Nat.le_refl w.heap.size)
        have HR := Lib.hid hrow
        clear hrow
        go_wp2
        go_ret
        exact RowNew.mk HR.out hb
/-- Is a number 0? -/
def feq0 (x : Nat) : Bool := FloatKind.f32.format.order x 0 == some .eq
def SizeRR (rows : List (List C3)) (x : Nat) (out : List (List C3)) (ok : Bool) : Prop := (feq0 x = true ∧ ok = false ∧ out = []) ∨ (feq0 x = false ∧ ∃ q, Res .quo 1065353216 x q ∧ SatRR rows q out ok)
theorem SizeRR.same {rows : List (List C3)} {x : Nat} {out out' : List (List C3)} {a b : Bool} (h : SizeRR rows x out a) (h' : SizeRR rows x out' b) : a = b ∧ out = out' := by
  rcases h with ⟨h1, rfl, rfl⟩ | ⟨h1, q, h2, h3⟩ <;> rcases h' with ⟨k1, rfl, rfl⟩ | ⟨k1, r, k2, k3⟩
  · exact ⟨rfl, rfl⟩
  · rw [h1] at k1; cases k1
  · rw [h1] at k1; cases k1
  · exact h3.sm (Res.same (Sm.refl _) (Sm.refl _) h2 k2) k3
def SizeA (rows : List (List C3)) (x : Nat) (w : World) (e : Ending) (w' : World) : Prop := ∃ v out ss ok, e = .returned (.tuple #[v, .bool ok]) ∧ SizeRR rows x out ok ∧ GridN w' w.heap.size v out ss ∧ Below w.heap.size w w'
set_option maxHeartbeats 1000000 in
theorem toSize_any (v : Value) (rows : List (List C3)) (ss : List SV) (x y : Nat) (w : World) (h : RowsV w v rows ss) (hl : rows.length ≤ 1000000) (hr : ∀ r ∈ rows, r.length ≤ 1000000) :
    Calls Tryz.prog 132 #[v, .complex .f32 x y] w fun e w' => SizeA rows x w e w' := by
  obtain ⟨a, c, hv, _⟩ := h.any
  cases h0 : feq0 x with
  | true =>
    have h0' : (FloatKind.f32.format.order x 0 == some .eq) = true := h0
    have H0 := Lib.hid h0
    subst hv
    clear h h0
    go_enter Tryz.func132, Tryz.ntmps132
    go_wp2
    go_ret2
    exact ⟨_, [], [], false, rfl, .inl ⟨H0.out, rfl, rfl⟩, GridN.nil0 _ _, Below.refl _ _⟩
  | false =>
    have h0' : (FloatKind.f32.format.order x 0 == some .eq) = false := h0
    have H0 := Lib.hid h0
    obtain ⟨q, n, e1, R1, B1⟩ := run_res .quo (.inr (.inr (.inr rfl))) 1065353216 x w
    have HS := Lib.hid (saturate_any v rows ss q (w.drewN n) (h.below (belowDN (Below.refl _ _) n)) hl hr)
    have HR := Lib.hid R1
    subst hv
    clear h h0 R1 B1
    go_enter Tryz.func132, Tryz.ntmps132
    go_wp2_with fail
    refine HS.out.mono ?_
    rintro e w2 ⟨v2, out, so, ok, rfl, h2, h3, h4⟩
    have H2 := Lib.hid h2
    have H3 := Lib.hid h3
    have hb := below_trans (belowDN (Below.refl w.heap.size w) n) h4 (Nat.le_refl _)
    clear h2 h3 h4 HS
    go_wp2
    go_ret2
    exact ⟨_, out, so, ok, rfl, .inr ⟨H0.out, q, HR.out, H2.out⟩, H3.out, hb⟩
set_option maxRecDepth 100000 in
set_option maxHeartbeats 4000000 in
theorem greyed_rows (v : Value) (rows : List (List C3)) (ss : List SV) (w : World) (h : RowsV w v rows ss) (hl : rows.length ≤ 1000000) (hr : ∀ r ∈ rows, r.length ≤ 1000000) (hne : ∀ r ∈ rows, r ≠ []) :
    Calls Tryz.prog 130 #[v] w fun e w' => ∃ v' so, e = .returned v' ∧ GridN w' w.heap.size v' (greyL rows) so ∧ Below w.heap.size w w' := by
  obtain ⟨a, c, rfl, hcell⟩ := h.any
  have hl1 := h.len
  have HC := Lib.hid hcell
  have HE := Lib.hid h.each
  have HRL := Lib.hid hr
  have HNE := Lib.hid hne
  have HL1 := Lib.hid hl1
  have hls : ss.length ≤ 1000000 := by omega
  have HG0 := Lib.hid (GridN.nil0 w w.heap.size)
  clear h hcell hr hl1 hne
  go_enter Tryz.func130, Tryz.ntmps130
  go_wp2
  go_loopw [3, 8] (fun m i wr => ∃ (j : Nat) (so : List SV), j ≤ ss.length ∧ i = .int .i64 (j : Int) ∧ GridN wr w.heap.size m (greyL (rows.take j)) so ∧ Below w.heap.size w wr) (fun _ i _ => ss.length - (intOf i).toNat)
  case atStart => exact ⟨0, [], Nat.zero_le _, rfl, HG0.out, Below.refl _ _⟩
  case round =>
    obtain ⟨j, so, hj, rfl, hgr, hb⟩ := hrel
    have HGR := Lib.hid hgr
    have hsol : so.length ≤ j := by have := hgr.len; unfold greyL at this; simp at this; omega
    clear HG0 hgr
    by_cases hlt : j < ss.length
    · obtain ⟨g1, o1, rfl, hcap1, hc1⟩ := HC.out j hlt
      have hltr : j < rows.length := by have := HL1.out; omega
      have hc1' := (grown_of hb).cell hc1 (by simp)
      have HSR := Lib.hid (changedGrey_new gc ss[j].v rows[j] wr ((HE.out j hlt hltr).below hb) (HNE.out _ (List.getElem_mem hltr)) (HRL.out _ (List.getElem_mem hltr)) (fun c _ W _ => greyed_any c W))
      have HNE1 := Lib.hid (HNE.out _ (List.getElem_mem hltr))
      have HTK := Lib.hid (show greyL (rows.take (j + 1)) = greyL (rows.take j) ++ [rows[j].map gc] by unfold greyL; rw [List.take_succ_eq_append_getElem hltr, List.map_append]; rfl)
      clear hc1
      generalize ss[j].v = x at *
      generalize rows[j] = cs at *
      go_wp2_with fail
      refine HSR.out.mono ?_
      rintro e w5 ⟨v5, rfl, hn5, hb5⟩
      have hsz : w.heap.size ≤ wr.heap.size := hb.size
      obtain ⟨g5, cap5, e5, hcap5, hg5, hg5'⟩ := hn5.some5 (by simpa using HNE1.out)
      subst e5
      have HN5 := Lib.hid hn5
      have HB5 := Lib.hid hb5
      have h5s := hb5.size
      have HOW5 := Lib.hid ((HGR.out.own.kept (grown_of hb5) (by cases u3.ownBlock <;> simp)).alloc (.cells #[.slice (some ⟨g5, 0, none⟩) (cs.map gc).length cap5] 40))
      have HST := Lib.hid (fun (w6 : World) (g6 cap6 : Nat) ho hg hor => HGR.out.step (w6 := w6) (g6 := g6) (n6 := so.length + 1) (cap6 := cap6) (s := (some ⟨g5, 0, none⟩, (cs.map gc).length, cap5)) (ys := cs.map gc) hsz HB5.out HN5.out (.cells #[.slice (some ⟨g5, 0, none⟩) (cs.map gc).length cap5] 40) ho hg hor)
      clear hn5 hb5 HSR hc1' HNE1
      generalize (cs.map gc) = gl at *
      go_wp2_with (at_builtin; refine LSc_ok.snoc rfl (.tmp 12) (.tmp 15) rfl w.heap.size u3 so so.length rfl HOW5.out rfl _ rfl (some ⟨g5, 0, none⟩, gl.length, cap5) (lit_cells w5 _ _) (by omega) (by simp; omega) ?_; intro g6 cap6 w6 ho6 hg6 hor6 hlt6)
      obtain ⟨hgn, hgw⟩ := HST.out w6 g6 cap6 ho6 hg6 hor6
      have HGN := Lib.hid hgn
      have hb6 := hb.grown hgw hsz (fun k e => (HGR.out.own.lt k e).1)
      clear ho6 hg6 hor6 hgn hgw HST
      go_wp2
      go_roundw
      case rel => exact ⟨j + 1, so ++ [(some ⟨g5, 0, none⟩, gl.length, cap5)], by omega, by go_num, by rw [HTK.out]; exact HGN.out, hb6⟩
      case measure => simp [intOf]; omega
    · have hkk : j = rows.length := by have := HL1.out; omega
      have HF := Lib.hid (show GridN wr w.heap.size u3 (greyL rows) so by have := HGR.out; rwa [hkk, List.take_length] at this)
      clear HGR hkk
      have hjj : j = ss.length := by omega
      subst hjj
      go_wp2
      go_ret
      exact ⟨_, so, rfl, HF.out, hb⟩
end Go.Proofs.YtobpnoiienpipaaGreat

/-
  What is proved: whether the model takes two lines' colours for killed is determined.
  Conditions: the lines can be read.
-/
namespace Go.Proofs.YtobpnoiienpipaaGreat
set_option linter.unusedVariables false
open Go.RowKit
attribute [local go_sem] run_store_float run_store_complex unary_negf neg256

def ltb (x y : Nat) : Bool := Ieee.single.order x y == some .lt
/-- The amount of a number. -/
def amt (u : Nat) : Nat := if ltb u 0 = true then Op.negFloat .f32 u else u
theorem amt_yes {u : Nat} (h : ltb u 0 = true) : amt u = Op.negFloat .f32 u := if_pos h
theorem amt_no {u : Nat} (h : ltb u 0 = false) : amt u = u := if_neg (by rw [h]; decide)
def KillR (xs ys : List Nat) (k : Nat) (b : Bool) : Prop := ∃ u z ok n, HueR xs ys u z ok ∧ SwingR xs ys n ∧ b = (decide (n = 0) || ltb (amt u) k)
theorem KillR.same {xs ys : List Nat} {k : Nat} {b b' : Bool} (h : KillR xs ys k b) (h' : KillR xs ys k b') : b = b' := by
  obtain ⟨u, z, ok, n, h1, h2, rfl⟩ := h
  obtain ⟨u', z', ok', n', k1, k2, rfl⟩ := h'
  rw [(h1.same k1).2.1, h2.same k2]
def KillA (xs ys : List Nat) (k : Nat) (w : World) (e : Ending) (w' : World) : Prop := ∃ b, e = .returned (.bool b) ∧ KillR xs ys k b ∧ Below w.heap.size w w'
set_option maxHeartbeats 2000000 in
theorem specKilled_any (v v' : Value) (xs ys : List Nat) (k : Nat) (w : World) (h : FRow w v xs) (h' : FRow w v' ys) (hl : xs.length ≤ 4000000) (hl' : ys.length ≤ 4000000) :
    Calls Tryz.prog 74 #[v, v', .float .f32 k] w fun e w' => KillA xs ys k w e w' := by
  have HH := Lib.hid (specHue_any v v' xs ys w h h' hl hl')
  have HS := fun W hr hr' => Lib.hid (specSwing_any v v' xs ys W hr hr' hl hl')
  have HR := Lib.hid h
  have HR' := Lib.hid h'
  clear h h'
  go_enter Tryz.func74, Tryz.ntmps74
  go_wp2_with fail
  refine HH.out.mono ?_
  rintro e w1 ⟨u, z, ok, rfl, hu, hb1⟩
  have HU := Lib.hid hu
  have HS1 := HS w1 (HR.out.below hb1) (HR'.out.below hb1)
  clear hu HS HH HR HR'
  cases hlt : ltb u 0 with
  | true =>
    have hlt' : (FloatKind.f32.format.order u 0 == some .lt) = true := hlt
    have HAM := Lib.hid (amt_yes hlt)
    clear hlt
    go_wp2_with fail
    refine HS1.out.mono ?_
    rintro e w2 ⟨n, rfl, hn, hb2⟩
    have HN := Lib.hid hn
    have hb := below_trans hb1 hb2 hb1.size
    clear hn HS1
    by_cases h0 : n = 0
    · subst h0
      go_wp2
      go_ret
      exact ⟨true, rfl, ⟨_, _, _, _, HU.out, HN.out, by simp⟩, hb⟩
    · have hd : decide (n = 0) = false := decide_eq_false h0
      cases hk : ltb (Op.negFloat .f32 u) k
      all_goals
        have hk' : (FloatKind.f32.format.order (Op.negFloat .f32 u) k == some .lt) = _ := hk
        go_wp2
        go_ret
        exact ⟨_, rfl, ⟨_, _, _, _, HU.out, HN.out, by rw [HAM.out, hk]; simp [h0]⟩, hb⟩
  | false =>
    have hlt' : (FloatKind.f32.format.order u 0 == some .lt) = false := hlt
    have HAM := Lib.hid (amt_no hlt)
    clear hlt
    go_wp2_with fail
    refine HS1.out.mono ?_
    rintro e w2 ⟨n, rfl, hn, hb2⟩
    have HN := Lib.hid hn
    have hb := below_trans hb1 hb2 hb1.size
    clear hn HS1
    by_cases h0 : n = 0
    · subst h0
      go_wp2
      go_ret
      exact ⟨true, rfl, ⟨_, _, _, _, HU.out, HN.out, by simp⟩, hb⟩
    · have hd : decide (n = 0) = false := decide_eq_false h0
      cases hk : ltb u k
      all_goals
        have hk' : (FloatKind.f32.format.order u k == some .lt) = _ := hk
        go_wp2
        go_ret
        exact ⟨_, rfl, ⟨_, _, _, _, HU.out, HN.out, by rw [HAM.out, hk]; simp [h0]⟩, hb⟩
end Go.Proofs.YtobpnoiienpipaaGreat

/-
  What is proved: what is taken of two lines of a pair is determined.
  Conditions: none.
-/
namespace Go.Proofs.YtobpnoiienpipaaGreat
set_option linter.unusedVariables false
open Go.RowKit
attribute [local go_sem] run_store_float run_store_complex unary_negf neg256

theorem PairR.ne {xs ys : List Nat} {rows : List (List C3)} (h : PairR xs ys rows true) : ∀ r ∈ rows, r ≠ [] := by
  obtain ⟨ps, qs, o1, o2, a1, a2, ho, a3, _⟩ := h
  obtain ⟨n, _, rfl⟩ := a3 rfl
  have ho := ho.symm
  rw [Bool.and_eq_true, Bool.and_eq_true, decide_eq_true_iff] at ho
  obtain ⟨h1, h2, h3⟩ := ho
  have r1 := (rok_iff.1 (aloneRR_rok a1 h1)).1.1
  intro r hr e
  subst e
  rcases List.mem_cons.1 hr with e | hr
  · have e2 := congrArg List.length e
    unfold rowA at e2
    rw [List.length_zipWith] at e2
    simp at e2
    omega
  · have e := List.mem_singleton.1 hr
    have e2 := congrArg List.length e
    unfold rowB at e2
    rw [List.length_zipWith] at e2
    simp at e2
    omega
/-- What is taken of two lines. -/
def TakeRR (xs ys : List Nat) (least k : Nat) (out : List (List C3)) (ok : Bool) : Prop := ∃ rows o, PairR xs ys rows o ∧ ((o = false ∧ ok = false ∧ out = []) ∨ (o = true ∧ ∃ b, KillR xs ys least b ∧
  ((b = true ∧ ok = true ∧ out = greyL rows) ∨ (b = false ∧ ∃ u z f, HueR xs ys u z f ∧ ∃ sz o2, SizeRR rows u sz o2 ∧ ((o2 = false ∧ ok = false ∧ out = []) ∨ (o2 = true ∧ SatRR sz k out ok))))))
theorem TakeRR.same {xs ys : List Nat} {least k : Nat} {out out' : List (List C3)} {a b : Bool} (h : TakeRR xs ys least k out a) (h' : TakeRR xs ys least k out' b) : a = b ∧ out = out' := by
  obtain ⟨rows, o, h1, h⟩ := h
  obtain ⟨rows', o', k1, h'⟩ := h'
  obtain ⟨rfl, rfl⟩ := h1.same k1
  rcases h with ⟨rfl, rfl, rfl⟩ | ⟨rfl, b1, h2, h⟩
  · rcases h' with ⟨_, rfl, rfl⟩ | ⟨e, _⟩
    · exact ⟨rfl, rfl⟩
    · cases e
  · rcases h' with ⟨e, _⟩ | ⟨_, b2, k2, h'⟩
    · cases e
    · obtain rfl := h2.same k2
      rcases h with ⟨rfl, rfl, rfl⟩ | ⟨rfl, u, z, f, h3, sz, o2, h4, h⟩
      · rcases h' with ⟨_, rfl, rfl⟩ | ⟨e, _⟩
        · exact ⟨rfl, rfl⟩
        · cases e
      · rcases h' with ⟨e, _⟩ | ⟨_, u', z', f', k3, sz', o2', k4, h'⟩
        · cases e
        · obtain ⟨_, rfl, _⟩ := h3.same k3
          obtain ⟨rfl, rfl⟩ := h4.same k4
          rcases h with ⟨rfl, rfl, rfl⟩ | ⟨rfl, h5⟩
          · rcases h' with ⟨_, rfl, rfl⟩ | ⟨e, _⟩
            · exact ⟨rfl, rfl⟩
            · cases e
          · rcases h' with ⟨e, _⟩ | ⟨_, k5⟩
            · cases e
            · exact h5.sm (Sm.refl _) k5
abbrev Two2 (LL : List (List C3)) : Prop := LL.length ≤ 2 ∧ (∀ r ∈ LL, r.length ≤ 64 ∧ NumL r) ∧ csum LL ≤ 128 ∧ ∀ k, k < LL.length → 2 * csum (LL.take k) ≤ 128
theorem two2_of {LL : List (List C3)} (h : LL.length ≤ 2) (hr : ∀ r ∈ LL, r.length ≤ 64 ∧ NumL r) : Two2 LL := by
  refine ⟨h, hr, ?_, fun k hk => ?_⟩
  · match LL, h, hr with
    | [], _, _ => exact Nat.zero_le _
    | [r], _, hr =>
      have := (hr r (by simp)).1
      show r.length + 0 ≤ 128
      omega
    | [r, s], _, hr =>
      have := (hr r (by simp)).1
      have := (hr s (by simp)).1
      show r.length + (s.length + 0) ≤ 128
      omega
    | r :: s :: t :: l, h, _ => simp at h
  · match LL, h, hr, k, hk with
    | [], _, _, k, hk => exact absurd hk (Nat.not_lt_zero _)
    | [r], _, hr, 0, _ => show 2 * 0 ≤ 128; decide
    | [r, s], _, hr, 0, _ => show 2 * 0 ≤ 128; decide
    | [r, s], _, hr, 1, _ =>
      have := (hr r (by simp)).1
      show 2 * (r.length + 0) ≤ 128
      omega
    | [r], _, _, k + 1, hk => simp at hk
    | [r, s], _, _, k + 2, hk => have hk : k + 2 < 2 := hk; omega
    | r :: s :: t :: l, h, _, _, _ => simp at h
theorem numL_rok {l : List C3} (h : rok l = true) : l.length ≤ 64 ∧ NumL l :=
  ⟨(rok_iff.1 h).1.2, fun c hc => by
    obtain ⟨a, b, d⟩ := (rok_iff.1 h).2 c hc
    exact ⟨fin_isN a, fin_isN b, fin_isN d⟩⟩
theorem SatRR.two {rows out : List (List C3)} {k : Nat} {ok : Bool} (h : SatRR rows k out ok) (hl : rows.length ≤ 2) : Two2 out := by
  rcases h with ⟨_, h1, h2⟩ | ⟨_, rfl, _⟩
  · refine two2_of (by omega) fun r hr => ?_
    obtain ⟨i, hi, rfl⟩ := List.mem_iff_getElem.1 hr
    exact numL_rok (h2 i hi (by omega)).yes.1
  · exact two2_of (Nat.zero_le _) fun r hr => by cases hr
theorem SizeRR.two {rows out : List (List C3)} {k : Nat} {ok : Bool} (h : SizeRR rows k out ok) (hl : rows.length ≤ 2) : Two2 out := by
  rcases h with ⟨_, _, rfl⟩ | ⟨_, q, _, h⟩
  · exact two2_of (Nat.zero_le _) fun r hr => by cases hr
  · exact h.two hl
theorem isN_zero : isN 0 = false := by decide +kernel
theorem grey_two {rows : List (List C3)} (h : Two2 rows) : Two2 (greyL rows) := by
  refine two2_of (by unfold greyL; rw [List.length_map]; exact h.1) fun r hr => ?_
  unfold greyL at hr
  obtain ⟨s, hs, rfl⟩ := List.mem_map.1 hr
  obtain ⟨h1, h2⟩ := h.2.1 s hs
  refine ⟨by rw [List.length_map]; exact h1, fun c hc => ?_⟩
  obtain ⟨d, hd, rfl⟩ := List.mem_map.1 hc
  exact ⟨(h2 d hd).1, isN_zero, isN_zero⟩
theorem TakeRR.two {xs ys : List Nat} {least k : Nat} {out : List (List C3)} {ok : Bool} (h : TakeRR xs ys least k out ok) : Two2 out := by
  obtain ⟨rows, o, h1, h⟩ := h
  have hp := h1.ok
  rcases h with ⟨_, _, rfl⟩ | ⟨_, b, _, ⟨_, _, rfl⟩ | ⟨_, u, z, f, _, sz, o2, h4, ⟨_, _, rfl⟩ | ⟨_, h5⟩⟩⟩
  · exact two2_of (Nat.zero_le _) fun r hr => by cases hr
  · exact grey_two hp
  · exact two2_of (Nat.zero_le _) fun r hr => by cases hr
  · exact h5.two (h4.two hp.1).1
def TakeA (xs ys : List Nat) (least k : Nat) (w : World) (e : Ending) (w' : World) : Prop := ∃ v out ss ok, e = .returned (.tuple #[v, .bool ok]) ∧ TakeRR xs ys least k out ok ∧ GridN w' w.heap.size v out ss ∧ Below w.heap.size w w'
end Go.Proofs.YtobpnoiienpipaaGreat
