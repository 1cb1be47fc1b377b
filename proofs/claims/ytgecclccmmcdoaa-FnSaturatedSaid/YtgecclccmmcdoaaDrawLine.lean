/-
  What is proved: the model's lines (made of a row, drawn) can be read.
  Conditions: those that each fact names.
-/
import Derived.Test.YtgecclccmmcdoaaDrawF32
import Derived.Test.YtgecclccmmcdoaaDecode
import Derived.Test.YtgecclccmmcdoaaPkLine
namespace Go.Proofs.Ytgecclccmmcdoaa
set_option linter.unusedVariables false
open Go.RowKit
attribute [local go_sem] run_store_float run_store_complex unary_negf neg256

theorem FRow.cells {w : World} {g o n cap : Nat} {xs : List Nat} (h : FRow w (.slice (some ⟨g, o, none⟩) n cap) xs) : ∀ i (hi : i < xs.length), w.cell? ⟨g, o + i, none⟩ = some (.float .f32 xs[i]) := by
  rcases h with ⟨_, rfl⟩ | ⟨g', o', cap', e, _, hc⟩
  · intro i hi; cases hi
  · cases e
    exact hc
def SampN (N : Nat) (w : World) (e : Ending) (w' : World) : Prop :=
  ∃ g cap ys, e = .returned (.slice (some ⟨g, 0, none⟩) N cap) ∧ ys.length = N ∧ OwnF w' w.heap.size (.slice (some ⟨g, 0, none⟩) N cap) ys ∧ Below w.heap.size w w'
theorem SampN.mk {N : Nat} {w w' : World} {g cap : Nat} {ys : List Nat} (hn : ys.length = N) (ho : OwnF w' w.heap.size (.slice (some ⟨g, 0, none⟩) N cap) ys) (hb : Below w.heap.size w w') : SampN N w (.returned (.slice (some ⟨g, 0, none⟩) N cap)) w' := ⟨g, cap, ys, rfl, hn, ho, hb⟩
set_option maxHeartbeats 2000000 in
theorem specEncode_len (v : Value) (cs : List C3) (odd : Bool) (w : World) (h : RowV w v cs) (hl : cs.length ≤ 1000) (hrk : rok cs = true) :
    Calls Try.prog 154 #[v, .bool odd] w fun e w' => SampN (4 * cs.length) w e w' := by
  have hbel := (Below.refl w.heap.size w).alloc (Nat.le_refl _) (.cells #[] 26)
  have HOW := Lib.hid (OwnF.made0 w)
  have hsz : w.heap.size < (w.alloc (.cells #[] 26)).heap.size := by simp
  have HV := Lib.hid h
  have HRO := fun W hW => Lib.hid (specRowOk_any v cs W hW (by omega))
  clear h
  go_enter Try.func154, Try.ntmps154
  go_wp2_with fail
  refine (HRO _ (HV.out.below hbel)).out.mono ?_
  rintro e w1 ⟨rfl, hb1⟩
  rw [hrk]
  have hbel1 := below_trans hbel hb1 hbel.size
  have HO1 := Lib.hid (HOW.out.kept (grown_of hb1) (.inr (by intro e; cases e)))
  have hs1 : w.heap.size < w1.heap.size := Nat.lt_of_lt_of_le hsz hb1.size
  clear HOW hb1 hbel hsz
  have hne := rok_ne hrk
  obtain ⟨g, o, cap, rfl, hcap, hcell⟩ : ∃ g o cap, v = .slice (some ⟨g, o, none⟩) cs.length cap ∧ cs.length ≤ cap ∧ ∀ i (h : i < cs.length), w.cell? ⟨g, o + i * 2, none⟩ = some (.float .f32 cs[i].1) ∧ w.cell? ⟨g, o + i * 2 + 1, none⟩ = some (.complex .f32 cs[i].2.1 cs[i].2.2) := by
    rcases HV.out with ⟨_, h1⟩ | h1
    · exact absurd h1 hne
    · exact h1
  have HC := Lib.hid hcell
  clear hcell hne hrk HRO HV
  go_wp2
  go_loopw [5, 6] (fun out i wr => ∃ (k g1 cap1 : Nat) (rs : List Nat), k ≤ cs.length ∧ i = .int .i64 (k : Int) ∧ out = .slice (some ⟨g1, 0, none⟩) (4 * k) cap1 ∧ Below w.heap.size w wr ∧ w.heap.size < wr.heap.size ∧ rs.length = 4 * k ∧ OwnF wr w.heap.size (.slice (some ⟨g1, 0, none⟩) (4 * k) cap1) rs) (fun _ i _ => cs.length - (intOf i).toNat)
  case atStart => exact ⟨0, _, 0, [], Nat.zero_le _, rfl, rfl, hbel1, hs1, rfl, HO1.out⟩
  case round =>
    obtain ⟨k, g1, cap1, rs, hk, rfl, rfl, hb, hs, hrl, hown⟩ := hrel
    have HOK := Lib.hid hown
    have HR := Lib.hid hrl
    clear hown hrl HO1
    by_cases hlt : k < cs.length
    · obtain ⟨hc0, hc1⟩ := HC.out k hlt
      have m0 := (grown_of hb).cell hc0 (by simp)
      have m1 := (grown_of hb).cell hc1 (by simp)
      generalize cs[k] = c at *
      obtain ⟨y, u, vv⟩ := c
      have HPT := fun z t W hW hbs => Lib.hid (specPut_any w.heap.size g1 (4 * k) cap1 rs y z t W hW HR.out (by omega) hbs)
      clear hc0 hc1
      cases odd
      · go_wp2_with fail
        refine (HPT _ _ _ HOK.out hb.size).out.mono ?_
        rintro e w3 ⟨g3, cap3, ys3, rfl, hl3, ho3, hg3⟩
        have hb3 : Below w.heap.size w w3 := hb.grown hg3 hb.size (fun r hr => by cases hr; exact (HOK.out.lt g1 rfl).1)
        have hs3 : w.heap.size < w3.heap.size := Nat.lt_of_lt_of_le hs hg3.size
        have HO3 := Lib.hid ho3
        clear ho3 hg3
        go_wp2
        go_roundw
        case rel => exact ⟨k + 1, g3, cap3, ys3, by omega, by go_num, rfl, hb3, hs3, hl3, HO3.out⟩
        case measure => simp [intOf]; omega
      · go_wp2_with fail
        refine (specConj_any u vv _).mono ?_
        rintro e w2 ⟨rfl, rfl⟩
        go_wp2_with fail
        refine (HPT _ _ _ HOK.out hb.size).out.mono ?_
        rintro e w3 ⟨g3, cap3, ys3, rfl, hl3, ho3, hg3⟩
        have hb3 : Below w.heap.size w w3 := hb.grown hg3 hb.size (fun r hr => by cases hr; exact (HOK.out.lt g1 rfl).1)
        have hs3 : w.heap.size < w3.heap.size := Nat.lt_of_lt_of_le hs hg3.size
        have HO3 := Lib.hid ho3
        clear ho3 hg3
        go_wp2
        go_roundw
        case rel => exact ⟨k + 1, g3, cap3, ys3, by omega, by go_num, rfl, hb3, hs3, hl3, HO3.out⟩
        case measure => simp [intOf]; omega
    · have hkk : k = cs.length := by omega
      subst hkk
      go_wp2
      go_ret
      exact SampN.mk HR.out HOK.out hb


/-- A cell of the burst. -/
def bcell : C3 := (0, 3246391296, 1098907648)
def bcells (k : Nat) : List C3 := List.replicate k bcell
theorem bcells_len (k : Nat) : (bcells k).length = k := by simp [bcells]
theorem bcells_succ (k : Nat) : bcells (k + 1) = bcells k ++ [bcell] := by simp [bcells, List.replicate_succ']
theorem bcells_ok : rok (bcells 4) = true := by decide +kernel
theorem row_litB (w : World) (y u v : Nat) : RowV (w.alloc (.cells #[.float .f32 y, .complex .f32 u v] 40)) (.slice (some ⟨w.heap.size, 0, none⟩) 1 1) [(y, u, v)] := row_lit w y u v
set_option maxHeartbeats 2000000 in
theorem l04Burst_any (w : World) :
    Calls Try.prog 155 #[] w fun e w' => ∃ g cap, e = .returned (.slice (some ⟨g, 0, none⟩) 4 cap) ∧ RowV w' (.slice (some ⟨g, 0, none⟩) 4 cap) (bcells 4) ∧ Below w.heap.size w w' := by
  have hbel := (Below.refl w.heap.size w).alloc (Nat.le_refl _) (.cells #[] 40)
  have HOW := Lib.hid (OwnC.made0 w)
  have hsz : w.heap.size < (w.alloc (.cells #[] 40)).heap.size := by simp
  go_enter Try.func155, Try.ntmps155
  go_wp2
  generalize w.alloc (.cells #[] 40) = w1 at *
  go_loopw [1, 2] (fun out i wr => ∃ (k g cap : Nat), k ≤ 4 ∧ i = .int .i64 (k : Int) ∧ out = .slice (some ⟨g, 0, none⟩) k cap ∧ Below w.heap.size w wr ∧ w.heap.size < wr.heap.size ∧ OwnC wr w.heap.size (.slice (some ⟨g, 0, none⟩) k cap) (bcells k)) (fun _ i _ => 4 - (intOf i).toNat)
  case atStart => exact ⟨0, _, 0, by omega, rfl, rfl, hbel, hsz, HOW.out⟩
  case round =>
    obtain ⟨k, g, cap, hk, rfl, rfl, hb, hs, hown⟩ := hrel
    have HO := Lib.hid hown
    clear hown HOW
    by_cases hlt : k < 4
    · have HL := Lib.hid (row_litB wr 0 3246391296 1098907648)
      go_wp2_with (at_builtin; refine own_append rfl (.tmp 8) (.tmp 10) rfl w.heap.size _ (bcells k) [bcell] rfl (HO.out.alloc _) _ _ _ rfl HL.out (by simp) (by rw [bcells_len]; simp; omega) (by simp; omega) ?_; intro g6 cap6 w6 ho6 hg6 hor6 hlt6)
      have hb6 : Below w.heap.size w w6 := (hb.alloc hb.size _).grown hg6 (Nat.le_trans hb.size (by simp)) (fun r hr => (HO.out.lt r hr).1)
      have hs6 : w.heap.size < w6.heap.size := Nat.lt_of_lt_of_le hs (by have := hg6.size; simp at this; omega)
      rw [bcells_len, ← bcells_succ] at ho6
      have HO6 := Lib.hid ho6
      clear ho6 hg6 hor6
      go_wp2
      go_roundw
      case rel => exact ⟨k + 1, g6, cap6, by omega, by go_num, by rw [bcells_len], hb6, hs6, HO6.out⟩
      case measure => simp [intOf]; omega
    · have hkk : k = 4 := by omega
      subst hkk
      go_wp2
      go_ret
      exact ⟨g, cap, rfl, HO.out.row, hb⟩
/-- A list of at most N samples that the model owns. -/
def SampO (N : Nat) (w : World) (e : Ending) (w' : World) : Prop :=
  ∃ g n cap ys, e = .returned (.slice (some ⟨g, 0, none⟩) n cap) ∧ ys.length = n ∧ n ≤ N ∧ OwnF w' w.heap.size (.slice (some ⟨g, 0, none⟩) n cap) ys ∧ Below w.heap.size w w'
theorem SampO.mk {N n : Nat} {w w' : World} {g cap : Nat} {ys : List Nat} (hn : ys.length = n) (hl : n ≤ N) (ho : OwnF w' w.heap.size (.slice (some ⟨g, 0, none⟩) n cap) ys) (hb : Below w.heap.size w w') : SampO N w (.returned (.slice (some ⟨g, 0, none⟩) n cap)) w' := ⟨g, n, cap, ys, rfl, hn, hl, ho, hb⟩
set_option maxHeartbeats 4000000 in
theorem specMake_any (v : Value) (cs : List C3) (odd : Bool) (w : World) (h : RowV w v cs) (hl : cs.length ≤ 1000) :
    Calls Try.prog 141 #[v, .bool odd] w fun e w' => SampO 4100 w e w' := by
  have hbel := (Below.refl w.heap.size w).alloc (Nat.le_refl _) (.cells #[] 26)
  have HOW := Lib.hid (OwnF.made0 w)
  have hsz : w.heap.size < (w.alloc (.cells #[] 26)).heap.size := by simp
  have HV := Lib.hid h
  have HRO := fun W hW => Lib.hid (specRowOk_any v cs W hW (by omega))
  clear h
  go_enter Try.func141, Try.ntmps141
  go_wp2_with fail
  refine (HRO _ (HV.out.below hbel)).out.mono ?_
  rintro e w1 ⟨rfl, hb1⟩
  have hbel1 := below_trans hbel hb1 hbel.size
  have HO1 := Lib.hid (HOW.out.kept (grown_of hb1) (.inr (by intro e; cases e)))
  have hs1 : w.heap.size < w1.heap.size := Nat.lt_of_lt_of_le hsz hb1.size
  clear HOW hb1 hbel hsz
  cases hrk : rok cs with
  | false =>
    go_wp2
    go_ret
    exact SampO.mk rfl (by simp) HO1.out hbel1
  | true =>
    have hl64 := (rok_iff.1 hrk).1.2
    have HEB := fun V W hW => Lib.hid (specEncode_len V (bcells 4) odd W hW (by simp [bcells]) bcells_ok)
    have HER := fun W hW => Lib.hid (specEncode_len v cs odd W hW (by omega) hrk)
    have hne := rok_ne hrk
    have hpos : 0 < cs.length := by cases cs with
      | nil => exact absurd rfl hne
      | cons c l => simp
    clear hrk hne
    go_wp2
    go_loopw [5, 6] (fun out i wr => ∃ (k g1 cap1 : Nat) (rs : List Nat), k ≤ 8 ∧ i = .int .i64 (k : Int) ∧ out = .slice (some ⟨g1, 0, none⟩) k cap1 ∧ Below w.heap.size w wr ∧ w.heap.size < wr.heap.size ∧ rs.length = k ∧ OwnF wr w.heap.size (.slice (some ⟨g1, 0, none⟩) k cap1) rs) (fun _ i _ => 8 - (intOf i).toNat)
    case atStart => exact ⟨0, _, 0, [], by omega, rfl, rfl, hbel1, hs1, rfl, HO1.out⟩
    case round =>
      obtain ⟨k, g1, cap1, rs, hk, rfl, rfl, hb, hs, hrl, hown⟩ := hrel
      have HOK := Lib.hid hown
      have HR := Lib.hid hrl
      clear hown hrl HO1
      by_cases hlt : k < 8
      · have HLC := Lib.hid (lit_cell 3263168512 wr)
        go_wp2_with (at_builtin; refine ownF_snoc rfl (.tmp 16) (.tmp 17) rfl w.heap.size _ rs k rfl (HOK.out.alloc _) HR.out _ rfl 3263168512 HLC.out (by omega) (by simp; omega) ?_; intro g6 cap6 w6 ho6 hg6 hor6 hlt6)
        have hb6 := snoc_below hb HOK.out _ hg6
        have hs6 : w.heap.size < w6.heap.size := Nat.lt_of_lt_of_le hs (by have := hg6.size; simp at this; omega)
        have HO6 := Lib.hid ho6
        clear ho6 hg6 hor6
        go_wp2
        go_roundw
        case rel => exact ⟨k + 1, g6, cap6, rs ++ [3263168512], by omega, by go_num, rfl, hb6, hs6, by simp [HR.out], HO6.out⟩
        case measure => simp [intOf]; omega
      · have hkk : k = 8 := by omega
        subst hkk
        go_wp2_with fail
        refine (l04Burst_any _).mono ?_
        rintro e w2 ⟨g2, cap2, rfl, hr2, hb2⟩
        have tb2 := below_trans hb hb2 hb.size
        have HO2 := Lib.hid (HOK.out.kept (grown_of hb2) (.inr (by intro e; cases e)))
        have HR2 := Lib.hid hr2
        clear hr2 hb2 HOK hb
        go_wp2_with fail
        refine (HEB _ _ HR2.out).out.mono ?_
        rintro e w3 ⟨g3, cap3, ys3, rfl, hl3, ho3, hb3⟩
        rw [bcells_len] at *
        have tb3 := below_trans tb2 hb3 tb2.size
        have HO3 := Lib.hid (HO2.out.kept (grown_of hb3) (.inr (by intro e; cases e)))
        have HF3 := Lib.hid ho3.new.row.cells
        have HL3 := Lib.hid hl3
        clear ho3 hb3 HO2 HR2 tb2 HEB hl3
        go_wp2_with (at_builtin; refine ownF_append rfl (.tmp 19) (.tmp 22) rfl w.heap.size _ rs ys3 rfl HO3.out g3 0 cap3 (by rw [HL3.out]; rfl) HF3.out (by have := HL3.out; omega) (by have := HL3.out; have := HR.out; omega) tb3.size ?_; intro g6 cap6 w6 ho6 hg6 hor6 hlt6)
        rw [HR.out, HL3.out] at ho6 ⊢
        have tb6 : Below w.heap.size w w6 := tb3.grown hg6 tb3.size (fun r hr => (HO3.out.lt r hr).1)
        have HO6 := Lib.hid ho6
        have HL6 := Lib.hid (show (rs ++ ys3).length = 24 by rw [List.length_append, HR.out, HL3.out])
        clear ho6 hg6 hor6 HO3 HF3 tb3
        generalize rs ++ ys3 = zs at *
        go_wp2_with fail
        refine (HER _ (HV.out.below tb6)).out.mono ?_
        rintro e w7 ⟨g7, cap7, ys7, rfl, hl7, ho7, hb7⟩
        have tb7 := below_trans tb6 hb7 tb6.size
        have HO7 := Lib.hid (HO6.out.kept (grown_of hb7) (.inr (by intro e; cases e)))
        have HF7 := Lib.hid ho7.new.row.cells
        have HL7 := Lib.hid hl7
        clear ho7 hb7 HO6 tb6 HER hl7
        go_wp2_with (at_builtin; refine ownF_append rfl (.tmp 24) (.tmp 27) rfl w.heap.size _ zs ys7 rfl HO7.out g7 0 cap7 (by rw [HL7.out]; rfl) HF7.out (by have := HL7.out; omega) (by have := HL7.out; have := HL6.out; omega) tb7.size ?_; intro g8 cap8 w8 ho8 hg8 hor8 hlt8)
        have tb8 : Below w.heap.size w w8 := tb7.grown hg8 tb7.size (fun r hr => (HO7.out.lt r hr).1)
        go_ret
        exact SampO.mk (by rw [List.length_append]) (by have := HL7.out; have := HL6.out; omega) ho8 tb8
def litE : List Nat := [1149239296, 3296722944, 1149247488, 0]
theorem litE_cell (W : World) : ∀ i (h : i < litE.length), (W.alloc (.cells #[.float .f32 1149239296, .float .f32 3296722944, .float .f32 1149247488, .float .f32 0] 26)).cell? ⟨W.heap.size, 0 + i, none⟩ = some (.float .f32 litE[i]) := by
  intro i hi
  have hi4 : i < 4 := hi
  rcases (by omega : i = 0 ∨ i = 1 ∨ i = 2 ∨ i = 3) with rfl | rfl | rfl | rfl <;> exact (cell_of_row _ _ _ _ _ _ (heap_alloc_new W (.cells #[.float .f32 1149239296, .float .f32 3296722944, .float .f32 1149247488, .float .f32 0] 26))).trans rfl
def LineP (b : Nat) (w : World) (e : Ending) (w' : World) : Prop :=
  ∃ v ys, e = .returned v ∧ ys.length ≤ 5000 ∧ FNew w' w.heap.size v ys ∧ Cur w' b ∧ w.grownBy w' (some b)
theorem LineP.mk {b : Nat} {w w' : World} {v : Value} {ys : List Nat} (hl : ys.length ≤ 5000) (ho : FNew w' w.heap.size v ys) (hc : Cur w' b) (hg : w.grownBy w' (some b)) : LineP b w (.returned v) w' := ⟨v, ys, rfl, hl, ho, hc, hg⟩
theorem LineP.own {b n : Nat} {w w' : World} {g cap : Nat} {ys : List Nat} (hn : ys.length = n) (hl : n ≤ 5000) (ho : OwnF w' w.heap.size (.slice (some ⟨g, 0, none⟩) n cap) ys) (hc : Cur w' b) (hg : w.grownBy w' (some b)) : LineP b w (.returned (.slice (some ⟨g, 0, none⟩) n cap)) w' :=
  ⟨_, ys, rfl, by omega, ho.new, hc, hg⟩
theorem FNew.cap {w : World} {base g n cap : Nat} {xs : List Nat} (h : FNew w base (.slice (some ⟨g, 0, none⟩) n cap) xs) : n ≤ cap := by
  rcases h with ⟨e, _⟩ | ⟨g', cap', e, hb, hc, _⟩
  · cases e
  · cases e
    exact hc
theorem FNew.take {w : World} {base g n cap : Nat} {xs : List Nat} (h : FNew w base (.slice (some ⟨g, 0, none⟩) n cap) xs) (hn : xs.length = n) (k : Nat) (hk : k ≤ n) : FNew w base (.slice (some ⟨g, 0, none⟩) k cap) (xs.take k) := by
  have hlen : (xs.take k).length = k := by rw [List.length_take]; omega
  rcases h with ⟨e, _⟩ | ⟨g', cap', e, hb, hc, cur, h1, h2, h3⟩
  · cases e
  · cases e
    refine .inr ⟨g, cap, by rw [hlen], hb, by omega, cur, h1, by omega, fun i hi hik => ?_⟩
    rw [List.getElem_take]
    exact h3 i (by omega) (by omega)
set_option maxHeartbeats 4000000 in
set_option maxRecDepth 20000 in
theorem l04Line_any (b : Nat) (w : World) (hc : Cur w b) :
    Calls Try.prog 138 #[.pointer (some ⟨b, 0, none⟩)] w fun e w' => LineP b w e w' := by
  have hlt := hc.lt
  go_enter Try.func138, Try.ntmps138
  go_wp2_with fail
  refine (l02Any_any _ _ hc).mono ?_
  rintro e w2 ⟨v, cs, hl, hf, rfl, hr, hc2, hg2⟩
  have HR := Lib.hid hr
  clear hr hf
  go_wp2_with fail
  refine (l01Once_any _ _ _ hc2 (by decide) (by decide)).mono ?_
  rintro e w3 ⟨odd, rfl, hc3, hg3⟩
  have HR3 := Lib.hid (HR.out.curF hg3 hc2)
  have hg03 := hg2.trans hg3
  have hs3 := hg03.size
  clear HR hg2 hg3 hc2
  go_wp2_with fail
  refine (specMake_any v cs odd w3 HR3.out hl).mono ?_
  rintro e w4 ⟨g, n, cap, ys, rfl, hyn, hyl, ho4, hb4⟩
  have hg04 := grownOf hg03 hb4
  have hc4 : Cur w4 b := hc3.grown (grown_of hb4) (fun r h => by cases h)
  have HO4 := Lib.hid (OwnF.mono ho4 hs3)
  have HN := Lib.hid hyn
  clear ho4 hb4 hg03 hc3 HR3 hyn
  by_cases hn0 : n = 0
  · subst hn0
    go_wp2_with fail
    refine (l01Below_any _ _ _ hc4 (by decide) (by decide)).mono ?_
    rintro e ws ⟨q, hq, _, rfl, hcs, hgs⟩
    have hq := hq (by decide)
    have HOS := Lib.hid (HO4.out.kept hgs (.inr (by intro e; have h1 : g = b := Option.some.inj e; have := (HO4.out.lt g rfl).1; omega)))
    have hg0s := hg04.trans hgs
    have hszs := hg0s.size
    clear HO4 hg04 hgs hc4
    by_cases q0 : q = 0
    · subst q0
      go_wp2_with (at_builtin; refine ownF_snoc rfl (.tmp 28) (.tmp 29) rfl w.heap.size _ ys 0 rfl (HOS.out.alloc _) HN.out _ rfl 1065353216 (lit_cell _ _) (by omega) (by simp; omega) ?_; intro g6 cap6 w6 ho6 hg6 hor6 hlt6)
      have hg7 : w.grownBy w6 (some b) := grown_own (grown_alloc hg0s _) hg6 (fun r hr => (HOS.out.lt r hr).1)
      have hc7 : Cur w6 b := (hcs.alloc _).grown hg6 (fun r hr => by have := (HOS.out.lt r hr).1; omega)
      go_wp2
      go_ret
      exact LineP.own (by rw [List.length_append, HN.out]; rfl) (by omega) ho6 hc7 hg7
    · by_cases q1 : q = 1
      · subst q1
        go_wp2_with fail
        refine (l01Below_any _ _ _ hcs (by omega) (by omega)).mono ?_
        rintro e wz ⟨k, hk, _, rfl, hcz, hgz⟩
        have hk := hk (by omega)
        have hkn : k ≤ 0 := by omega
        obtain rfl : k = 0 := by omega
        have HOZ := Lib.hid (HOS.out.kept hgz (.inr (by intro e; have h1 : g = b := Option.some.inj e; have := (HOS.out.lt g rfl).1; omega)))
        have hg0z := hg0s.trans hgz
        have hcap : 0 ≤ cap := HOZ.out.new.cap
        have HTK := Lib.hid (FNew.take HOZ.out.new HN.out 0 hkn)
        have HTL := Lib.hid (show (ys.take 0).length ≤ 5000 by rw [List.length_take]; omega)
        clear HOZ HOS hg0s hgz hcs hk
        go_wp2
        go_ret
        exact LineP.mk HTL.out HTK.out hcz hg0z
      · by_cases q2 : q = 2
        · subst q2
          go_wp2_with (at_builtin; refine ownF_append rfl (.tmp 42) (.tmp 43) rfl w.heap.size _ ys litE rfl (HOS.out.alloc _) _ 0 4 rfl (litE_cell _) (by decide) (by have := HN.out; show _ + 4 ≤ 1000000000; omega) (by simp; omega) ?_; intro g6 cap6 w6 ho6 hg6 hor6 hlt6)
          have hg7 : w.grownBy w6 (some b) := grown_own (grown_alloc hg0s _) hg6 (fun r hr => (HOS.out.lt r hr).1)
          have hc7 : Cur w6 b := (hcs.alloc _).grown hg6 (fun r hr => by have := (HOS.out.lt r hr).1; omega)
          go_wp2
          go_ret
          exact LineP.own (by rw [List.length_append]) (by have := HN.out; show _ + 4 ≤ 5000; omega) ho6 hc7 hg7
        · have hq3 : 3 ≤ q := by omega
          go_wp2
          go_ret
          exact LineP.own HN.out (by omega) HOS.out hcs hg0s
  · go_wp2_with fail
    refine (l01Once_any _ _ _ hc4 (by decide) (by decide)).mono ?_
    rintro e w5 ⟨t2, rfl, hc5, hg5⟩
    have HO5 := Lib.hid (HO4.out.kept hg5 (.inr (by intro e; have h1 : g = b := Option.some.inj e; have := (HO4.out.lt g rfl).1; omega)))
    have hg05 := hg04.trans hg5
    clear HO4 hg04 hg5 hc4
    cases t2
    · skip
      go_wp2_with fail
      refine (l01Below_any _ _ _ hc5 (by decide) (by decide)).mono ?_
      rintro e ws ⟨q, hq, _, rfl, hcs, hgs⟩
      have hq := hq (by decide)
      have HOS := Lib.hid (HO5.out.kept hgs (.inr (by intro e; have h1 : g = b := Option.some.inj e; have := (HO5.out.lt g rfl).1; omega)))
      have hg0s := hg05.trans hgs
      have hszs := hg0s.size
      clear HO5 hg05 hgs hc5
      by_cases q0 : q = 0
      · subst q0
        go_wp2_with (at_builtin; refine ownF_snoc rfl (.tmp 28) (.tmp 29) rfl w.heap.size _ ys n rfl (HOS.out.alloc _) HN.out _ rfl 1065353216 (lit_cell _ _) (by omega) (by simp; omega) ?_; intro g6 cap6 w6 ho6 hg6 hor6 hlt6)
        have hg7 : w.grownBy w6 (some b) := grown_own (grown_alloc hg0s _) hg6 (fun r hr => (HOS.out.lt r hr).1)
        have hc7 : Cur w6 b := (hcs.alloc _).grown hg6 (fun r hr => by have := (HOS.out.lt r hr).1; omega)
        go_wp2
        go_ret
        exact LineP.own (by rw [List.length_append, HN.out]; rfl) (by omega) ho6 hc7 hg7
      · by_cases q1 : q = 1
        · subst q1
          go_wp2_with fail
          refine (l01Below_any _ _ _ hcs (by omega) (by omega)).mono ?_
          rintro e wz ⟨k, hk, _, rfl, hcz, hgz⟩
          have hk := hk (by omega)
          have hkn : k ≤ n := by omega
          have HOZ := Lib.hid (HOS.out.kept hgz (.inr (by intro e; have h1 : g = b := Option.some.inj e; have := (HOS.out.lt g rfl).1; omega)))
          have hg0z := hg0s.trans hgz
          have hcap : n ≤ cap := HOZ.out.new.cap
          have HTK := Lib.hid (FNew.take HOZ.out.new HN.out k hkn)
          have HTL := Lib.hid (show (ys.take k).length ≤ 5000 by rw [List.length_take]; omega)
          clear HOZ HOS hg0s hgz hcs hk
          go_wp2
          go_ret
          exact LineP.mk HTL.out HTK.out hcz hg0z
        · by_cases q2 : q = 2
          · subst q2
            go_wp2_with (at_builtin; refine ownF_append rfl (.tmp 42) (.tmp 43) rfl w.heap.size _ ys litE rfl (HOS.out.alloc _) _ 0 4 rfl (litE_cell _) (by decide) (by have := HN.out; show _ + 4 ≤ 1000000000; omega) (by simp; omega) ?_; intro g6 cap6 w6 ho6 hg6 hor6 hlt6)
            have hg7 : w.grownBy w6 (some b) := grown_own (grown_alloc hg0s _) hg6 (fun r hr => (HOS.out.lt r hr).1)
            have hc7 : Cur w6 b := (hcs.alloc _).grown hg6 (fun r hr => by have := (HOS.out.lt r hr).1; omega)
            go_wp2
            go_ret
            exact LineP.own (by rw [List.length_append]) (by have := HN.out; show _ + 4 ≤ 5000; omega) ho6 hc7 hg7
          · have hq3 : 3 ≤ q := by omega
            go_wp2
            go_ret
            exact LineP.own HN.out (by omega) HOS.out hcs hg0s
    · go_wp2_with fail
      refine (l01Below_any _ _ _ hc5 (by omega) (by omega)).mono ?_
      rintro e w6 ⟨x, hx, _, rfl, hc6, hg6⟩
      have hxN : x < n := by have := hx (by omega); omega
      have HO6 := Lib.hid (HO5.out.kept hg6 (.inr (by intro e; have h1 : g = b := Option.some.inj e; have := (HO5.out.lt g rfl).1; omega)))
      have hg06 := hg05.trans hg6
      clear HO5 hg05 hg6 hc5 hx
      go_wp2_with fail
      refine (l02Level_any _ _ hc6).mono ?_
      rintro e w7 ⟨r, hr, rfl, hc7, hg7⟩
      have HO7 := Lib.hid (HO6.out.kept hg7 (.inr (by intro e; have h1 : g = b := Option.some.inj e; have := (HO6.out.lt g rfl).1; omega)))
      have hg07 := hg06.trans hg7
      clear HO6 hg06 hg7 hc6 hr
      have hat := HO7.out.at HN.out x hxN
      obtain ⟨⟨x0, hx0⟩, hf0⟩ := hat
      have HO8 := Lib.hid (HO7.out.set HN.out x hxN r)
      have hgb := (HO7.out.lt g rfl).1
      have hg08 := grown_set hg07 (p := ⟨g, x, none⟩) hgb (.float .f32 r)
      have hc8 := hc7.set (p := ⟨g, x, none⟩) (Nat.lt_of_lt_of_le hlt hgb) (.float .f32 r)
      have HN8 := Lib.hid (show (ys.set x r).length = n from (by rw [List.length_set]; exact HN.out))
      clear HO7 hg07 hc7
      generalize ys.set x r = zs at HO8 HN8
      go_wp2_with fail
      refine (l01Below_any _ _ _ hc8 (by decide) (by decide)).mono ?_
      rintro e ws ⟨q, hq, _, rfl, hcs, hgs⟩
      have hq := hq (by decide)
      have HOS := Lib.hid (HO8.out.kept hgs (.inr (by intro e; have h1 : g = b := Option.some.inj e; have := (HO8.out.lt g rfl).1; omega)))
      have hg0s := hg08.trans hgs
      have hszs := hg0s.size
      clear HO8 hg08 hgs hc8
      by_cases q0 : q = 0
      · subst q0
        go_wp2_with (at_builtin; refine ownF_snoc rfl (.tmp 28) (.tmp 29) rfl w.heap.size _ zs n rfl (HOS.out.alloc _) HN8.out _ rfl 1065353216 (lit_cell _ _) (by omega) (by simp; omega) ?_; intro g6 cap6 w6 ho6 hg6 hor6 hlt6)
        have hg7 : w.grownBy w6 (some b) := grown_own (grown_alloc hg0s _) hg6 (fun r hr => (HOS.out.lt r hr).1)
        have hc7 : Cur w6 b := (hcs.alloc _).grown hg6 (fun r hr => by have := (HOS.out.lt r hr).1; omega)
        go_wp2
        go_ret
        exact LineP.own (by rw [List.length_append, HN8.out]; rfl) (by omega) ho6 hc7 hg7
      · by_cases q1 : q = 1
        · subst q1
          go_wp2_with fail
          refine (l01Below_any _ _ _ hcs (by omega) (by omega)).mono ?_
          rintro e wz ⟨k, hk, _, rfl, hcz, hgz⟩
          have hk := hk (by omega)
          have hkn : k ≤ n := by omega
          have HOZ := Lib.hid (HOS.out.kept hgz (.inr (by intro e; have h1 : g = b := Option.some.inj e; have := (HOS.out.lt g rfl).1; omega)))
          have hg0z := hg0s.trans hgz
          have hcap : n ≤ cap := HOZ.out.new.cap
          have HTK := Lib.hid (FNew.take HOZ.out.new HN8.out k hkn)
          have HTL := Lib.hid (show (zs.take k).length ≤ 5000 by rw [List.length_take]; omega)
          clear HOZ HOS hg0s hgz hcs hk
          go_wp2
          go_ret
          exact LineP.mk HTL.out HTK.out hcz hg0z
        · by_cases q2 : q = 2
          · subst q2
            go_wp2_with (at_builtin; refine ownF_append rfl (.tmp 42) (.tmp 43) rfl w.heap.size _ zs litE rfl (HOS.out.alloc _) _ 0 4 rfl (litE_cell _) (by decide) (by have := HN8.out; show _ + 4 ≤ 1000000000; omega) (by simp; omega) ?_; intro g6 cap6 w6 ho6 hg6 hor6 hlt6)
            have hg7 : w.grownBy w6 (some b) := grown_own (grown_alloc hg0s _) hg6 (fun r hr => (HOS.out.lt r hr).1)
            have hc7 : Cur w6 b := (hcs.alloc _).grown hg6 (fun r hr => by have := (HOS.out.lt r hr).1; omega)
            go_wp2
            go_ret
            exact LineP.own (by rw [List.length_append]) (by have := HN8.out; show _ + 4 ≤ 5000; omega) ho6 hc7 hg7
          · have hq3 : 3 ≤ q := by omega
            go_wp2
            go_ret
            exact LineP.own HN8.out (by omega) HOS.out hcs hg0s
end Go.Proofs.Ytgecclccmmcdoaa
