/-
  What is proved: the walk of the program's DecodeCells.
  Conditions: the list can be read.
-/
import Derived.Test.YtobpnoiienpipaaGreatChunk
import Derived.Test.YtobpnoiienpipaaGreatPz02
namespace Go.Proofs.YtobpnoiienpipaaGreat
set_option linter.unusedVariables false
open Go.RowKit Go.Shelf
attribute [local go_sem] run_store_float run_store_complex unary_negf neg256 Oper.semAt_some

/-- The slice v of cells, whose block is base or behind, reads as cs, and may be written. -/
def RNew (w : World) (base : Nat) (v : Value) (cs : List C3) : Prop :=
  (v = .slice none 0 0 ∧ cs = []) ∨ ∃ g cap cur, v = .slice (some ⟨g, 0, none⟩) cs.length cap ∧ base ≤ g ∧ cs.length ≤ cap ∧ w.heap[g]? = some (.cells cur 61 (0, 0)) ∧ cs.length * 2 ≤ cur.size ∧
    ∀ i (h : i < cs.length), cur[i * 2]? = some (.float .f32 cs[i].1) ∧ cur[i * 2 + 1]? = some (.complex .f32 cs[i].2.1 cs[i].2.2)
theorem RNew.row {w : World} {base : Nat} {v : Value} {cs : List C3} (h : RNew w base v cs) : RowV w v cs := by
  rcases h with h | ⟨g, cap, cur, h1, _, h2, h3, _, h4⟩
  · exact .inl h
  · refine .inr ⟨g, 0, cap, h1, h2, fun i hi => ?_⟩
    obtain ⟨a, b⟩ := h4 i hi
    exact ⟨by simp [World.cell?, h3, a], by simp [World.cell?, h3, b]⟩
theorem RNew.far {w w' : World} {base : Nat} {v : Value} {cs : List C3} {row : Option Nat} (h : RNew w base v cs) (hg : w.grownBy w' row) (hne : ∀ k, v.ownBlock = some k → row ≠ some k) : RNew w' base v cs := by
  rcases h with h | ⟨g, cap, cur, h1, h0, h2, h3, h4⟩
  · exact .inl h
  · refine .inr ⟨g, cap, cur, h1, h0, h2, (hg.block g (Array.getElem?_eq_some_iff.1 h3).1 ?_).trans h3, h4⟩
    subst h1
    intro e
    exact hne g rfl e.symm
theorem RNew.below {w w' : World} {base : Nat} {v : Value} {cs : List C3} (h : RNew w base v cs) (hb : Below w.heap.size w w') : RNew w' base v cs := h.far (grown_of hb) (fun _ _ => by simp)
theorem RNew.mono {w : World} {base base' : Nat} {v : Value} {cs : List C3} (h : RNew w base v cs) (hb : base' ≤ base) : RNew w base' v cs := by
  rcases h with h | ⟨g, cap, cur, h1, h0, h2⟩
  · exact .inl h
  · exact .inr ⟨g, cap, cur, h1, by omega, h2⟩
theorem RNew.nil (w : World) (base : Nat) : RNew w base (.slice none 0 0) [] := .inl ⟨rfl, rfl⟩
theorem RNew.lt {w : World} {base : Nat} {v : Value} {cs : List C3} (h : RNew w base v cs) : ∀ k, v.ownBlock = some k → base ≤ k ∧ k < w.heap.size := by
  rcases h with ⟨rfl, _⟩ | ⟨g, cap, cur, rfl, h0, _, h3, _⟩
  · intro k hk; cases hk
  · intro k hk
    have e : g = k := Option.some.inj hk
    subst e
    exact ⟨h0, (Array.getElem?_eq_some_iff.1 h3).1⟩
theorem RNew.putD {w : World} {base D : Nat} {v : Value} {cs : List C3} {o o' : Obj} (h : RNew w base v cs) (hK : w.heap[D]? = some o) (ho : o.isCells = false) : RNew (w.putObj D o') base v cs := by
  refine h.far (grownBy_putObj' w D o') (fun k hk e => ?_)
  have e2 : D = k := Option.some.inj e
  subst e2
  rcases h with ⟨rfl, _⟩ | ⟨g, cap, cur, rfl, _, _, h3, _⟩
  · cases hk
  · have e3 : g = D := Option.some.inj hk
    subst e3
    rw [h3] at hK
    cases hK
    cases ho
theorem OwnC.rnew {w : World} {base : Nat} {v : Value} {cs : List C3} (h : OwnC w base v cs) : RNew w base v cs := by
  rcases h.2 with ⟨rfl, h0⟩ | ⟨g, cap, cur, rfl, hb, hg, hn, hc, hsz, htk⟩
  · exact .inl ⟨rfl, List.eq_nil_of_length_eq_zero h0⟩
  · refine .inr ⟨g, cap, cur, rfl, hb, hn, hg, by omega, fun i hi => ?_⟩
    obtain ⟨e1, e2⟩ := cellsOf_get cs i
    rw [List.getElem?_eq_getElem hi] at e1 e2
    have key : ∀ j, j < cs.length * 2 → cur[j]? = (cellsOf cs)[j]? := by
      intro j hj
      rw [← htk, List.getElem?_take, if_pos hj, Array.getElem?_toList]
    exact ⟨(key _ (by omega)).trans e1, (key _ (by omega)).trans e2⟩
theorem Made.rnew {w : World} {base b n : Nat} {cs : List C3} (h : Made w b n n cs) (hn : cs.length = n) (hb : base ≤ b) : RNew w base (.slice (some ⟨b, 0, none⟩) n n) cs := by
  obtain ⟨cur, h1, h2, h3⟩ := h
  subst hn
  exact .inr ⟨b, cs.length, cur, rfl, hb, Nat.le_refl _, h1, by omega, fun i hi => h3 i hi hi⟩

def RowNew (cs : List C3) (w : World) (e : Ending) (w' : World) : Prop := ∃ v', e = .returned v' ∧ RNew w' w.heap.size v' cs ∧ Below w.heap.size w w'
theorem RowNew.mk {cs : List C3} {w w' : World} {v' : Value} (h : RNew w' w.heap.size v' cs) (hb : Below w.heap.size w w') : RowNew cs w (.returned v') w' := ⟨v', rfl, h, hb⟩
set_option maxHeartbeats 1000000 in
theorem changedConj_new (φ : C3 → C3) (v : Value) (cs : List C3) (w : World) (h : RowV w v cs) (hne : cs ≠ []) (hl : cs.length ≤ 1000000)
    (HX : ∀ c ∈ cs, ∀ W, Below w.heap.size w W → Calls Tryz.prog 161 #[.agg #[.float .f32 c.1, .complex .f32 c.2.1 c.2.2]] W fun e w' => e = .returned (.agg #[.float .f32 (φ c).1, .complex .f32 (φ c).2.1 (φ c).2.2]) ∧ Below W.heap.size W w') :
    Calls Tryz.prog 151 #[v, .func (.func 161) #[] #[]] w fun e w' => RowNew (cs.map φ) w e w' := by
  rcases h with ⟨_, h1⟩ | ⟨g, o, cap, rfl, hcap, hcell⟩
  · exact absurd h1 hne
  · have HC := Lib.hid hcell
    have HXX := Lib.hid HX
    have hmk := make_cells cs.length hl
    clear hcell HX hne
    go_enter Tryz.func151, Tryz.ntmps151
    go_wp2
    have hst := Made.start w cs.length (cs.map φ)
    have hbel : Below w.heap.size w (w.alloc (.cells (madeCells #[.float .f32 0, .complex .f32 0 0] (cs.length * 2)) 61)) := (Below.refl _ _).alloc (Nat.le_refl _) _
    have hsz : w.heap.size < (w.alloc (.cells (madeCells #[.float .f32 0, .complex .f32 0 0] (cs.length * 2)) 61)).heap.size := by simp
    clear hmk
    generalize w.alloc (.cells (madeCells #[.float .f32 0, .complex .f32 0 0] (cs.length * 2)) 61) = w1 at *
    go_loopw [13] (fun i wr => ∃ k : Nat, k ≤ cs.length ∧ i = .int .i64 (k : Int) ∧ Below w.heap.size w wr ∧ w.heap.size < wr.heap.size ∧ Made wr w.heap.size cs.length k (cs.map φ)) (fun i _ => cs.length - (intOf i).toNat)
    case atStart => exact ⟨0, Nat.zero_le _, rfl, hbel, hsz, hst⟩
    case round =>
      obtain ⟨k, hk, rfl, hb, hs, hm⟩ := hrel
      have HM := Lib.hid hm
      clear hm
      by_cases hlt : k < cs.length
      · obtain ⟨hc0, hc1⟩ := HC.out k hlt
        have hd0 := (grown_of hb).cell hc0 (by simp)
        have hd1 := (grown_of hb).cell hc1 (by simp)
        have HK := fun W hW => Lib.hid (HXX.out cs[k] (List.getElem_mem hlt) W hW)
        have hlm : k < (cs.map φ).length := by simpa using hlt
        have hmk := List.getElem_map φ (h := hlm)
        have HMK := Lib.hid hmk
        clear hc0 hc1 hmk
        generalize hck : cs[k] = c at *
        have HCK := Lib.hid hck
        clear hck
        go_wp2_with fail
        have hbA := hb.alloc hb.size (.cells #[.float .f32 c.1, .complex .f32 c.2.1 c.2.2] 61)
        refine (HK _ hbA).out.mono ?_
        rintro e w2 ⟨rfl, hb2⟩
        have hm2 : Made w2 w.heap.size cs.length k (cs.map φ) := HM.out.kept ((hb2.block _ (by simp; omega)).trans (Below.heap_alloc _ _ _ hs))
        have hbw : Below w.heap.size w w2 := hbA.trans (hb2.mono (by simp; omega))
        have hs2 : w.heap.size < w2.heap.size := Nat.lt_of_lt_of_le hs (Nat.le_trans (by simp) hb2.size)
        obtain ⟨⟨x0, hx0⟩, ⟨x1, hx1⟩, hf0, hf1⟩ := hm2.at k hlt
        have hm3 := hm2.step hlm (by simp)
        rw [HMK.out] at hm3
        have HM3 := Lib.hid hm3
        clear hm2 hm3 hb2 hbA hd0 hd1
        go_wp2
        go_roundw
        case rel => exact ⟨k + 1, by omega, by go_num, (hbw.setCell (Nat.le_refl _) _).setCell (Nat.le_refl _) _, by simpa [World.setCell] using hs2, HM3.out⟩
        case measure => simp [intOf]; omega
      · have hkk : k = cs.length := by omega
        subst hkk
        have hrow := HM.out.rnew (by simp) (Nat.le_refl w.heap.size)
        have HR := Lib.hid hrow
        clear hrow
        go_wp2
        go_ret
        exact RowNew.mk HR.out hb
theorem conjugateRow_new (v : Value) (cs : List C3) (w : World) (h : RowV w v cs) (hl : cs.length ≤ 1000000) :
    Calls Tryz.prog 141 #[v] w fun e w' => RowNew (if rok cs = true then cs.map cj else []) w e w' := by
  have HR := Lib.hid (rowOk_any v cs w h hl)
  cases hr : rok cs with
  | false =>
    simp only [Bool.false_eq_true, if_false]
    rw [hr] at HR
    clear h hr
    go_enter Tryz.func141, Tryz.ntmps141
    go_wp2_with fail
    refine HR.out.mono ?_
    rintro e w1 ⟨rfl, hb⟩
    go_wp2
    go_ret
    exact RowNew.mk (RNew.nil _ _) hb
  | true =>
    simp only [if_true]
    have HC := fun W hW => Lib.hid (changedConj_new cj v cs W hW (rok_ne hr) hl fun c hc W' _ => conjugated_any c.1 c.2.1 c.2.2 W')
    have HV := Lib.hid h
    rw [hr] at HR
    clear hr h
    go_enter Tryz.func141, Tryz.ntmps141
    go_wp2_with fail
    refine HR.out.mono ?_
    rintro e w1 ⟨rfl, hb⟩
    go_wp2_with fail
    refine (HC w1 (HV.out.below hb)).out.mono ?_
    rintro e w2 ⟨v', rfl, hv, hb2⟩
    go_wp2
    go_ret
    exact RowNew.mk (hv.mono hb.size) (below_trans hb hb2 hb.size)

/-- The cells that a list of samples may tell. -/
def four (xs : List Nat) (i : Nat) (c : C3) : Prop := DecR (xs.getD (4 * i) 0) (xs.getD (4 * i + 1) 0) (xs.getD (4 * i + 2) 0) (xs.getD (4 * i + 3) 0) c
def DecL (xs : List Nat) (cs : List C3) : Prop := 4 * cs.length = xs.length ∧ ∀ i (h : i < cs.length), four xs i cs[i]
def DecPost (xs : List Nat) (odd : Bool) (w : World) (e : Ending) (w' : World) : Prop :=
  ∃ v cs, (xs.length % 4 = 0 → DecL xs cs) ∧ (xs.length % 4 ≠ 0 → cs = []) ∧ Fit cs ∧ e = .returned (.tuple #[v, .bool (rok cs)]) ∧ RNew w' w.heap.size v (if rok cs = true then (if odd = true then cs.map cj else cs) else []) ∧ Below w.heap.size w w'
/-- What has been decoded when pre has come. -/
def Decd (w0 : World) (Bx base : Nat) (xs : List Nat) (m : Nat) (pre : List (Ch m)) (W : World) : Prop :=
  ∃ v cs, Boxed W Bx 40 v ∧ OwnC W base v cs ∧ cs.length = pre.length ∧ Fit cs ∧ ∀ i (h : i < cs.length) (h' : i < pre.length), four xs pre[i].1 cs[i]
theorem stepIn_appendD {F : Fence} {n : Nat} {P : Program} {ops : Array Oper} {o : Oper} {a : Act} {w w' : World} {v y v' : Value} {K : Act → World → Prop} {Q : Exit → Act → World → Prop} {E : Prop}
    (hgd : o.guard = none) (s x : Operand) (t : TypeId) (hop : o.op = Op.call { callee := Callee.builtin Builtin.append, args := #[s, x], argTypes := #[t, t] }) (hs : a.eval s = v) (hx : a.eval x = y)
    (hrun : (Builtin.append_ #[t, t] o.type #[v, y]).run P w = .ok v' w') (hK : K (a.put o.dst v') w') :
    if Region.wanted o (yielded ops a.tmps) = true then Oper.wpIn F n P o a w K Q else E := by
  have hw : Region.wanted o (yielded ops a.tmps) = true := by simp [Region.wanted, hgd]
  rw [if_pos hw]
  unfold Oper.wpIn
  refine ⟨?_, ?_⟩
  · simp [Oper.about, hop, resolve, Target.leads, Sem.run_pure]
  · rw [Oper.semAt_plain F _ _ (by rw [hop]; intro c hc'; cases hc')]
    simp [execOp, hop, resolve, invoke, builtin, hs, hx, hrun, Result.andThen]
    exact hK
theorem boxed_own {B : Nat} {t : TypeId} {v : Value} {X Y : World} {row : Option Nat} (h : Boxed X B t v) (hg : X.grownBy Y row) (hr : ∀ r, row = some r → ∃ o : Obj, X.heap[r]? = some o ∧ o.isCells = false) : Boxed Y B t v := by
  refine h.kept hg (fun e => ?_)
  obtain ⟨o, h1, h2⟩ := hr B e.symm
  rw [show X.heap[B]? = _ from h] at h1
  cases h1
  cases h2
theorem ownC_own {base : Nat} {v : Value} {cs : List C3} {X Y : World} {row : Option Nat} (h : OwnC X base v cs) (hg : X.grownBy Y row) (hr : ∀ r, row = some r → ∃ o : Obj, X.heap[r]? = some o ∧ o.isCells = false) : OwnC Y base v cs := by
  refine h.kept hg ?_
  rcases h.2 with ⟨rfl, _⟩ | ⟨g, cap, cur, rfl, _, hgb, _⟩
  · exact .inl rfl
  · refine .inr (fun e => ?_)
    obtain ⟨o, h1, h2⟩ := hr g e.symm
    rw [hgb] at h1
    cases h1
    cases h2
/-- What stands at the head of a round. -/
def DecI (w0 : World) (a : Option Addr) (L cap : Nat) (xs : List Nat) (m : Nat) (pre : List (Ch m)) (W : World) : Prop :=
  Decd w0 (w0.heap.size + 1) w0.heap.size xs m pre W ∧ Boxed W (w0.heap.size + 2) 31 (.slice a L cap) ∧ Boxed W (w0.heap.size + 3) 3 (.int .i64 4) ∧ Below w0.heap.size w0 W
theorem decI_own (w0 : World) (a : Option Addr) (L cap : Nat) (xs : List Nat) (m B : Nat) (hB : w0.heap.size ≤ B) : OwnFrom B (DecI w0 a L cap xs m) := by
  rintro pre X Y row ⟨⟨v, cs, hb, ho, h3⟩, h4, h5, h6⟩ hg hr
  have hr' : ∀ r, row = some r → ∃ o : Obj, X.heap[r]? = some o ∧ o.isCells = false := fun r e => (hr r e).2
  exact ⟨⟨v, cs, boxed_own hb hg hr', ownC_own ho hg hr', h3⟩, boxed_own h4 hg hr', boxed_own h5 hg hr', h6.grown hg h6.size (fun r e => Nat.le_trans hB (hr r e).1)⟩
theorem decd_next {w0 W W1 w2 : World} {a : Option Addr} {L cap m g2 cap2 B : Nat} {xs : List Nat} {pre : List (Ch m)} {x : Ch m} {v : Value} {cs : List C3} {c : C3} (o : Obj)
    (hB : B = w0.heap.size + 4) (hr : four xs x.1 c) (hcl : cs.length = pre.length) (hfit : Fit cs) (hfour : ∀ i (h : i < cs.length) (h' : i < pre.length), four xs pre[i].1 cs[i])
    (hv : Boxed W (w0.heap.size + 1) 40 v) (hrow : OwnC W w0.heap.size v cs) (h4 : Boxed W (w0.heap.size + 2) 31 (.slice a L cap)) (h5 : Boxed W (w0.heap.size + 3) 3 (.int .i64 4)) (hBs : Below w0.heap.size w0 W)
    (hbw : Below W.heap.size W W1) (hrow1 : OwnC W1 w0.heap.size v cs) (hgrow : (W1.alloc o).grownBy w2 v.ownBlock)
    (q2 : Boxed (w2.setCell ⟨w0.heap.size + 1, 0, none⟩ (.slice (some ⟨g2, 0, none⟩) (cs.length + 1) cap2)) (w0.heap.size + 1) 40 (.slice (some ⟨g2, 0, none⟩) (cs.length + 1) cap2))
    (q3 : (w2.setCell ⟨w0.heap.size + 1, 0, none⟩ (.slice (some ⟨g2, 0, none⟩) (cs.length + 1) cap2)).ownsRow w0.heap.size 61 2 (.slice (some ⟨g2, 0, none⟩) (cs.length + 1) cap2) (cs.length + 1) (cellsOf cs ++ [.float .f32 c.1, .complex .f32 c.2.1 c.2.2]))
    (q4 : KeepsOthers W1 (w2.setCell ⟨w0.heap.size + 1, 0, none⟩ (.slice (some ⟨g2, 0, none⟩) (cs.length + 1) cap2)))
    (q5 : Below w0.heap.size W1 (w2.setCell ⟨w0.heap.size + 1, 0, none⟩ (.slice (some ⟨g2, 0, none⟩) (cs.length + 1) cap2))) :
    KeepsFrom B W (w2.setCell ⟨w0.heap.size + 1, 0, none⟩ (.slice (some ⟨g2, 0, none⟩) (cs.length + 1) cap2)) ∧ KeepB (w0.heap.size + 2) (w0.heap.size + 3) W (w2.setCell ⟨w0.heap.size + 1, 0, none⟩ (.slice (some ⟨g2, 0, none⟩) (cs.length + 1) cap2)) ∧
      DecI w0 a L cap xs m (pre ++ [x]) (w2.setCell ⟨w0.heap.size + 1, 0, none⟩ (.slice (some ⟨g2, 0, none⟩) (cs.length + 1) cap2)) := by
  have h4a := h4.kept (grown_of hbw) (by simp)
  have h5a := h5.kept (grown_of hbw) (by simp)
  have n4 := h4a.not_row (by decide) hrow1
  have n5 := h5a.not_row (by decide) hrow1
  have h4b := ((h4a.alloc o).kept hgrow n4).other (B' := w0.heap.size + 1) (by omega) (.slice (some ⟨g2, 0, none⟩) (cs.length + 1) cap2)
  have h5b := ((h5a.alloc o).kept hgrow n5).other (B' := w0.heap.size + 1) (by omega) (.slice (some ⟨g2, 0, none⟩) (cs.length + 1) cap2)
  refine ⟨(KeepsFrom.of_grownBy (grown_of hbw) (fun j e => by cases e)).trans (q4.from _), ⟨h4b.trans h4.symm, h5b.trans h5.symm⟩, ⟨⟨_, cs ++ [c], q2, ?_, by simp [hcl], ?_, ?_⟩, h4b, h5b, (hBs.trans (hbw.mono hBs.size)).trans q5⟩⟩
  · unfold OwnC
    rw [List.length_append, cellsOf_append]
    exact q3
  · intro d hd
    rcases List.mem_append.1 hd with hd | hd
    · exact hfit d hd
    · obtain rfl := List.mem_singleton.1 hd; exact hr.2.2.2
  · intro i h h'
    by_cases hi : i < cs.length
    · rw [List.getElem_append_left hi, List.getElem_append_left (by omega)]
      exact hfour i hi (by omega)
    · have hi2 : i = cs.length := by simp at h; omega
      subst hi2
      rw [List.getElem_append_right (Nat.le_refl _), List.getElem_append_right (by omega)]
      simpa [hcl] using hr
theorem make_row (n : Nat) (hn : n ≤ 1000000000) (W : World) : (Instr.makeSlice 40 (.int .i64 0) (.int .i64 (n : Int))).run Tryz.prog W = .ok (.slice (some ⟨W.heap.size, 0, none⟩) 0 n) (W.alloc (.cells (madeCells #[.float .f32 0, .complex .f32 0 0] (n * 2)) 61)) := by
  obtain ⟨i0, hi, hz0, hz1, hz2⟩ := info_parts info_cell
  have h := run_make (P := Tryz.prog) W 40 61 i0 _ Tryz.underlying40 hi hz0 .i64 .i64 0 n (by omega) (by omega) (by rw [hz2]; omega) (by omega)
  rw [hz1] at h
  simpa [Value.cells] using h
theorem own_row (w : World) (n : Nat) (hn : n ≤ 1000000000) : OwnC (w.alloc (.cells (madeCells #[.float .f32 0, .complex .f32 0 0] (n * 2)) 61)) w.heap.size (.slice (some ⟨w.heap.size, 0, none⟩) 0 n) [] :=
  World.ownsRow_made w _ n (Nat.le_refl _) (by unfold maxLen; omega) (by rw [size_madeCells])
set_option maxRecDepth 100000 in
set_option maxHeartbeats 4000000 in
theorem decode_in (a : Option Addr) (cap m : Nat) (xs : List Nat) (odd : Bool) (w0 : World) (hx : xs.length = 4 * m) (hl : xs.length ≤ 4000000)
    (hcell : ∀ k (hk : k < xs.length), ∃ g o, a = some ⟨g, o, none⟩ ∧ xs.length ≤ cap ∧ w0.cell? ⟨g, o + k, none⟩ = some (.float .f32 xs[k])) :
    CallsIn Fence.wide 3 Tryz.prog 173 #[.slice a xs.length cap, .bool odd] w0 fun e w' => DecPost xs odd w0 e w' := by
  refine callsIn_of_wp_marks Tryz.func173 rfl trivial ?_ rfl
  simp only [Tryz.ntmps173, List.size_toArray, List.length_cons, List.length_nil, Nat.reduceAdd, Nat.reduceSub, Array.replicate_succ, Array.replicate_zero, List.push_toArray, List.append_toArray, List.nil_append, List.cons_append]
  obtain ⟨L, hL⟩ : ∃ L, xs.length = L := ⟨_, rfl⟩
  rw [hL] at hx ⊢
  have hmod : ((L : Int) % 4 != 0) = false := by simp; omega
  have hdiv : ((L : Int) / 4) = (m : Int) := by omega
  have HC := Lib.hid hcell
  have HX := Lib.hid hx
  have hmk := make_row m (by omega) w0
  have hO0 := own_row w0 m (by omega)
  have hb0 : Below w0.heap.size w0 (w0.alloc (.cells (madeCells #[.float .f32 0, .complex .f32 0 0] (m * 2)) 61)) := (Below.refl _ _).alloc (Nat.le_refl _) _
  clear hcell hx
  gi_wp2_with fail
  refine ⟨trivial, callsIn_wide.2 ((chunk_any a L cap _).mono ?_)⟩
  rintro e wz ⟨rfl, hwz⟩
  have hs2 : ((w0.alloc (.cells (madeCells #[.float .f32 0, .complex .f32 0 0] (m * 2)) 61)).alloc (.cells #[.slice (some ⟨w0.heap.size, 0, none⟩) 0 m] 40)).heap.size = w0.heap.size + 2 := by simp
  rw [hs2]
  have hb2 : Below w0.heap.size w0 wz := by
    rw [hwz]
    exact ((hb0.alloc hb0.size _).alloc (by simp; omega) _).alloc (by simp; omega) _
  have hsz : wz.heap.size = w0.heap.size + 4 := by rw [hwz]; simp
  have hbox : Boxed wz (w0.heap.size + 1) 40 (.slice (some ⟨w0.heap.size, 0, none⟩) 0 m) := by
    have := Boxed.new (w0.alloc (.cells (madeCells #[.float .f32 0, .complex .f32 0 0] (m * 2)) 61)) 40 (.slice (some ⟨w0.heap.size, 0, none⟩) 0 m)
    rw [World.size_alloc] at this
    rw [hwz]
    exact (this.alloc _).alloc _
  have hown : OwnC wz w0.heap.size (.slice (some ⟨w0.heap.size, 0, none⟩) 0 m) [] := by
    rw [hwz]
    exact ((hO0.alloc _).alloc _).alloc _
  have h4 : Boxed wz (w0.heap.size + 2) 31 (.slice a L cap) := by
    have := Boxed.new ((w0.alloc (.cells (madeCells #[.float .f32 0, .complex .f32 0 0] (m * 2)) 61)).alloc (.cells #[.slice (some ⟨w0.heap.size, 0, none⟩) 0 m] 40)) 31 (.slice a L cap)
    rw [hs2] at this
    rw [hwz]
    exact this.alloc _
  have h5 : Boxed wz (w0.heap.size + 3) 3 (.int .i64 4) := by
    have := Boxed.new (((w0.alloc (.cells (madeCells #[.float .f32 0, .complex .f32 0 0] (m * 2)) 61)).alloc (.cells #[.slice (some ⟨w0.heap.size, 0, none⟩) 0 m] 40)).alloc (.cells #[.slice a L cap] 31)) 3 (.int .i64 4)
    rw [World.size_alloc, hs2] at this
    rw [hwz]
    exact this
  clear hwz hs2 hO0 hmk hb0
  obtain ⟨g, o, had, hcl0⟩ : ∃ g o, (0 < L → a = some ⟨g, o, none⟩ ∧ L ≤ cap) ∧ ∀ k (hk : k < xs.length), w0.cell? ⟨g, o + k, none⟩ = some (.float .f32 xs[k]) := by
    by_cases h0 : 0 < L
    · obtain ⟨g, o, e1, e2, _⟩ := HC.out 0 (by omega)
      refine ⟨g, o, fun _ => ⟨e1, by omega⟩, fun k hk => ?_⟩
      obtain ⟨g', o', e1', _, e3⟩ := HC.out k hk
      rw [e1] at e1'
      cases e1'
      exact e3
    · exact ⟨0, 0, fun h => absurd h h0, fun k hk => absurd hk (by omega)⟩
  have HCL0 := Lib.hid hcl0
  have hszz : wz.heap.size = w0.heap.size + 4 := hsz
  clear hcl0 HC
  obtain ⟨i0, hi, hz0, hz1, hz2⟩ := info_parts info_cell
  have HSQ := Lib.hid (chunk_hands 2 (by omega) wz (w0.heap.size + 2) (w0.heap.size + 3) g o cap L m a had HX.out (by omega) h4.cell h5.cell)
  have HI0 := Lib.hid (show DecI w0 a L cap xs m [] wz from ⟨⟨_, [], hbox, hown, rfl, (by intro c hc; cases hc), (by intro i h; simp at h)⟩, h4, h5, hb2⟩)
  clear hbox hown had
  gi_wp2
  refine wpIn_rangeFunc_ownG rfl (by omega) (gf := 180) (lb := #[.pointer (some ⟨w0.heap.size + 2, 0, none⟩), .pointer (some ⟨w0.heap.size + 3, 0, none⟩)]) rfl trivial (enters_of Tryz.func180 (by kernel_rfl) rfl) HSQ.out (fun h k => h.trans k) (KeepB.put (by omega) (by omega)) (Below.refl _ _) (fun _ => rfl)
    (DecI w0 a L cap xs m)
    (fun _ _ _ => False)
    (decI_own w0 a L cap xs m _ (by omega))
    (fun _ _ _ _ _ hs _ _ => hs)
    HI0.out
    (fun x => { tmps := #[.slice a L cap, .bool odd, undef, undef, .slice none 0 0, .bool false, .pointer (some ⟨w0.heap.size + 1, 0, none⟩), chv g o x.1, .slice a L cap, .int .i64 (L : Int), .int .i64 ((L : Int) % 4), .bool false, .slice a L cap, .int .i64 (L : Int), .int .i64 (m : Int), .slice (some ⟨w0.heap.size, 0, none⟩) 0 m, .slice a L cap, .func (.func 180) #[] #[.pointer (some ⟨w0.heap.size + 2, 0, none⟩), .pointer (some ⟨w0.heap.size + 3, 0, none⟩)], chv g o x.1, undef, undef, undef, undef, undef, undef, undef, undef, undef, undef, undef, undef, undef, undef], defers := [] }) ?assign ?body ?done ?stop
  case assign =>
    intro l x W K hK
    gi_wp2
    exact hK
  case body =>
    rintro l pre x W ⟨⟨v, cs, hv, hrow, hcl, hfit, hfour⟩, h4, h5, hBB⟩ hlt
    obtain ⟨q, hq⟩ := x
    have hc := hv.cell
    have hmx : Tryz.prog.follows .mixedOrders = true := by kernel_rfl
    have hk4 : 4 * q + 4 ≤ xs.length := by have := HX.out; omega
    have m0 := (grown_of hBB).cell (HCL0.out (4 * q) (by omega)) (by simp)
    have m1 := (grown_of hBB).cell (HCL0.out (4 * q + 1) (by omega)) (by simp)
    have m2 := (grown_of hBB).cell (HCL0.out (4 * q + 2) (by omega)) (by simp)
    have m3 := (grown_of hBB).cell (HCL0.out (4 * q + 3) (by omega)) (by simp)
    rw [← Nat.add_assoc] at m1 m2 m3
    have g0 : xs.getD (4 * q) 0 = xs[4 * q]'(by omega) := by rw [List.getD_eq_getElem?_getD, List.getElem?_eq_getElem (by omega)]; rfl
    have g1 : xs.getD (4 * q + 1) 0 = xs[4 * q + 1]'(by omega) := by rw [List.getD_eq_getElem?_getD, List.getElem?_eq_getElem (by omega)]; rfl
    have g2 : xs.getD (4 * q + 2) 0 = xs[4 * q + 2]'(by omega) := by rw [List.getD_eq_getElem?_getD, List.getElem?_eq_getElem (by omega)]; rfl
    have g3 : xs.getD (4 * q + 3) 0 = xs[4 * q + 3]'(by omega) := by rw [List.getD_eq_getElem?_getD, List.getElem?_eq_getElem (by omega)]; rfl
    rw [← g0] at m0
    rw [← g1] at m1
    rw [← g2] at m2
    rw [← g3] at m3
    have HFR := Lib.hid (fun (c : C3) (h : DecR (xs.getD (4 * q) 0) (xs.getD (4 * q + 1) 0) (xs.getD (4 * q + 2) 0) (xs.getD (4 * q + 3) 0) c) => (show four xs q c from h))
    have hlen : cs.length ≤ 100000000 := by rw [idxF_len] at hlt; have := HX.out; omega
    generalize xs.getD (4 * q) 0 = s at *
    generalize xs.getD (4 * q + 1) 0 = t at *
    generalize xs.getD (4 * q + 2) 0 = u at *
    generalize xs.getD (4 * q + 3) 0 = z at *
    have HCL := Lib.hid ((callsIn_wide (n := 3 - 1 - 1 - 1)).2 (decodedCell_any s t u z W.drew))
    have H4 := Lib.hid (And.intro hcl (And.intro hfit hfour))
    clear g0 g1 g2 g3 hcl hfit hfour
    unfold chv
    gi_wp2
    refine wpIn_region_any hmx ?_
    try (change wpAnyIn _ _ _ _ _ _ _ _ _ (World.drew _))
    refine wpAnyIn_ready (rs := [0, 1]) (by kernel_rfl) (by simp) (AllReadyIn.cons rfl (fun K hK => ?_) (AllReadyIn.cons rfl (fun K hK => ?_) AllReadyIn.nil))
    · (go_simp; refine hK _ _ ?_; clear hK K)
      refine wpAnyIn_ready (rs := [1]) (by kernel_rfl) (by simp) (AllReadyIn.cons rfl (fun K hK => ?_) AllReadyIn.nil)
      (go_simp; refine hK _ _ ?_; clear hK K)
      refine wpAnyIn_ready (rs := [2]) (by kernel_rfl) (by simp) (AllReadyIn.cons rfl (fun K hK => ?_) AllReadyIn.nil)
      (go_simp; refine hK _ _ ?_; clear hK K)
      refine wpAnyIn_ready (rs := [3]) (by kernel_rfl) (by simp) (AllReadyIn.cons rfl (fun K hK => ?_) AllReadyIn.nil)
      (go_simp; refine hK _ _ ?_; clear hK K)
      refine wpAnyIn_ready (rs := [4]) (by kernel_rfl) (by simp) (AllReadyIn.cons rfl (fun K hK => ?_) AllReadyIn.nil)
      (go_simp; refine ⟨trivial, ?_⟩; gi_at_call 178; refine (CallsIn.inRound l HCL.out).mono ?_; rintro e W1 ⟨c, rfl, hrc, hb1⟩; have hbw : Below W.heap.size W W1 := ((Below.refl _ _).drew).trans hb1; have hv1 := hv.kept (grown_of hbw) (by simp); have hrow1 := hrow.kept (grown_of hbw) (by cases v.ownBlock <;> simp); have e0 := hv1.cell; have e1 := (hv1.alloc (.cells #[.float .f32 c.1, .complex .f32 c.2.1 c.2.2] 61)).cell; obtain ⟨v2, w2', hrun, hown2, hgrow2, _⟩ := run_append_own (P := Tryz.prog) (W1.alloc (.cells #[.float .f32 c.1, .complex .f32 c.2.1 c.2.2] 61)) w0.heap.size 40 40 61 i0 _ 2 12 Tryz.underlying40 hi hz0 hz1 hz2 rfl (by decide) v cs.length (cellsOf cs) (hrow1.alloc _) ⟨W1.heap.size, 0, none⟩ 1 1 [.float .f32 c.1, .complex .f32 c.2.1 c.2.2] rfl (World.news_of_block (heap_alloc_new W1 _)) (by simp [Value.oneCell']) (by unfold maxLen; omega) (by omega) (by have := hbw.size; have := hBB.size; simp; omega); obtain ⟨g2, cap2, rfl⟩ := ownsRow_succ hown2; obtain ⟨q1, q2, q3, q4, q5⟩ := hv1.appended (by decide) hrow1 (by have := hbw.size; have := hBB.size; omega) (by omega) hown2 hgrow2; have hc1 := q1.cell; have hf1 := q1.frozen; go_simp; refine hK _ _ ?_; clear hK K)
      refine wpAnyIn_ready (rs := [5]) (by kernel_rfl) (by simp) (AllReadyIn.cons rfl (fun K hK => ?_) AllReadyIn.nil)
      (go_simp; refine hK _ _ ?_; clear hK K)
      refine wpAnyIn_ready (rs := [6]) (by kernel_rfl) (by simp) (AllReadyIn.cons rfl (fun K hK => ?_) AllReadyIn.nil)
      (refine stepIn_appendD rfl (.tmp 19) (.tmp 24) 40 rfl rfl rfl hrun ?_; refine hK _ _ ?_; clear hK K)
      refine wpAnyIn_ready (rs := [7]) (by kernel_rfl) (by simp) (AllReadyIn.cons rfl (fun K hK => ?_) AllReadyIn.nil)
      (go_simp; refine hK _ _ ?_; clear hK K)
      refine wpAnyIn_done (by kernel_rfl) ?_ _
      (exact decd_next _ hszz (HFR.out _ hrc) H4.out.1 H4.out.2.1 H4.out.2.2 hv hrow h4 h5 hBB hbw hrow1 hgrow2 q2 q3 q4 q5)
    · (go_simp; refine hK _ _ ?_; clear hK K)
      refine wpAnyIn_ready (rs := [0, 2]) (by kernel_rfl) (by simp) (AllReadyIn.cons rfl (fun K hK => ?_) (AllReadyIn.cons rfl (fun K hK => ?_) AllReadyIn.nil))
      · (go_simp; refine hK _ _ ?_; clear hK K)
        refine wpAnyIn_ready (rs := [2]) (by kernel_rfl) (by simp) (AllReadyIn.cons rfl (fun K hK => ?_) AllReadyIn.nil)
        (go_simp; refine hK _ _ ?_; clear hK K)
        refine wpAnyIn_ready (rs := [3]) (by kernel_rfl) (by simp) (AllReadyIn.cons rfl (fun K hK => ?_) AllReadyIn.nil)
        (go_simp; refine hK _ _ ?_; clear hK K)
        refine wpAnyIn_ready (rs := [4]) (by kernel_rfl) (by simp) (AllReadyIn.cons rfl (fun K hK => ?_) AllReadyIn.nil)
        (go_simp; refine ⟨trivial, ?_⟩; gi_at_call 178; refine (CallsIn.inRound l HCL.out).mono ?_; rintro e W1 ⟨c, rfl, hrc, hb1⟩; have hbw : Below W.heap.size W W1 := ((Below.refl _ _).drew).trans hb1; have hv1 := hv.kept (grown_of hbw) (by simp); have hrow1 := hrow.kept (grown_of hbw) (by cases v.ownBlock <;> simp); have e0 := hv1.cell; have e1 := (hv1.alloc (.cells #[.float .f32 c.1, .complex .f32 c.2.1 c.2.2] 61)).cell; obtain ⟨v2, w2', hrun, hown2, hgrow2, _⟩ := run_append_own (P := Tryz.prog) (W1.alloc (.cells #[.float .f32 c.1, .complex .f32 c.2.1 c.2.2] 61)) w0.heap.size 40 40 61 i0 _ 2 12 Tryz.underlying40 hi hz0 hz1 hz2 rfl (by decide) v cs.length (cellsOf cs) (hrow1.alloc _) ⟨W1.heap.size, 0, none⟩ 1 1 [.float .f32 c.1, .complex .f32 c.2.1 c.2.2] rfl (World.news_of_block (heap_alloc_new W1 _)) (by simp [Value.oneCell']) (by unfold maxLen; omega) (by omega) (by have := hbw.size; have := hBB.size; simp; omega); obtain ⟨g2, cap2, rfl⟩ := ownsRow_succ hown2; obtain ⟨q1, q2, q3, q4, q5⟩ := hv1.appended (by decide) hrow1 (by have := hbw.size; have := hBB.size; omega) (by omega) hown2 hgrow2; have hc1 := q1.cell; have hf1 := q1.frozen; go_simp; refine hK _ _ ?_; clear hK K)
        refine wpAnyIn_ready (rs := [5]) (by kernel_rfl) (by simp) (AllReadyIn.cons rfl (fun K hK => ?_) AllReadyIn.nil)
        (go_simp; refine hK _ _ ?_; clear hK K)
        refine wpAnyIn_ready (rs := [6]) (by kernel_rfl) (by simp) (AllReadyIn.cons rfl (fun K hK => ?_) AllReadyIn.nil)
        (refine stepIn_appendD rfl (.tmp 19) (.tmp 24) 40 rfl rfl rfl hrun ?_; refine hK _ _ ?_; clear hK K)
        refine wpAnyIn_ready (rs := [7]) (by kernel_rfl) (by simp) (AllReadyIn.cons rfl (fun K hK => ?_) AllReadyIn.nil)
        (go_simp; refine hK _ _ ?_; clear hK K)
        refine wpAnyIn_done (by kernel_rfl) ?_ _
        (exact decd_next _ hszz (HFR.out _ hrc) H4.out.1 H4.out.2.1 H4.out.2.2 hv hrow h4 h5 hBB hbw hrow1 hgrow2 q2 q3 q4 q5)
      · (go_simp; refine hK _ _ ?_; clear hK K)
        refine wpAnyIn_ready (rs := [0, 3]) (by kernel_rfl) (by simp) (AllReadyIn.cons rfl (fun K hK => ?_) (AllReadyIn.cons rfl (fun K hK => ?_) AllReadyIn.nil))
        · (go_simp; refine hK _ _ ?_; clear hK K)
          refine wpAnyIn_ready (rs := [3]) (by kernel_rfl) (by simp) (AllReadyIn.cons rfl (fun K hK => ?_) AllReadyIn.nil)
          (go_simp; refine hK _ _ ?_; clear hK K)
          refine wpAnyIn_ready (rs := [4]) (by kernel_rfl) (by simp) (AllReadyIn.cons rfl (fun K hK => ?_) AllReadyIn.nil)
          (go_simp; refine ⟨trivial, ?_⟩; gi_at_call 178; refine (CallsIn.inRound l HCL.out).mono ?_; rintro e W1 ⟨c, rfl, hrc, hb1⟩; have hbw : Below W.heap.size W W1 := ((Below.refl _ _).drew).trans hb1; have hv1 := hv.kept (grown_of hbw) (by simp); have hrow1 := hrow.kept (grown_of hbw) (by cases v.ownBlock <;> simp); have e0 := hv1.cell; have e1 := (hv1.alloc (.cells #[.float .f32 c.1, .complex .f32 c.2.1 c.2.2] 61)).cell; obtain ⟨v2, w2', hrun, hown2, hgrow2, _⟩ := run_append_own (P := Tryz.prog) (W1.alloc (.cells #[.float .f32 c.1, .complex .f32 c.2.1 c.2.2] 61)) w0.heap.size 40 40 61 i0 _ 2 12 Tryz.underlying40 hi hz0 hz1 hz2 rfl (by decide) v cs.length (cellsOf cs) (hrow1.alloc _) ⟨W1.heap.size, 0, none⟩ 1 1 [.float .f32 c.1, .complex .f32 c.2.1 c.2.2] rfl (World.news_of_block (heap_alloc_new W1 _)) (by simp [Value.oneCell']) (by unfold maxLen; omega) (by omega) (by have := hbw.size; have := hBB.size; simp; omega); obtain ⟨g2, cap2, rfl⟩ := ownsRow_succ hown2; obtain ⟨q1, q2, q3, q4, q5⟩ := hv1.appended (by decide) hrow1 (by have := hbw.size; have := hBB.size; omega) (by omega) hown2 hgrow2; have hc1 := q1.cell; have hf1 := q1.frozen; go_simp; refine hK _ _ ?_; clear hK K)
          refine wpAnyIn_ready (rs := [5]) (by kernel_rfl) (by simp) (AllReadyIn.cons rfl (fun K hK => ?_) AllReadyIn.nil)
          (go_simp; refine hK _ _ ?_; clear hK K)
          refine wpAnyIn_ready (rs := [6]) (by kernel_rfl) (by simp) (AllReadyIn.cons rfl (fun K hK => ?_) AllReadyIn.nil)
          (refine stepIn_appendD rfl (.tmp 19) (.tmp 24) 40 rfl rfl rfl hrun ?_; refine hK _ _ ?_; clear hK K)
          refine wpAnyIn_ready (rs := [7]) (by kernel_rfl) (by simp) (AllReadyIn.cons rfl (fun K hK => ?_) AllReadyIn.nil)
          (go_simp; refine hK _ _ ?_; clear hK K)
          refine wpAnyIn_done (by kernel_rfl) ?_ _
          (exact decd_next _ hszz (HFR.out _ hrc) H4.out.1 H4.out.2.1 H4.out.2.2 hv hrow h4 h5 hBB hbw hrow1 hgrow2 q2 q3 q4 q5)
        · (go_simp; refine hK _ _ ?_; clear hK K)
          refine wpAnyIn_ready (rs := [0, 4]) (by kernel_rfl) (by simp) (AllReadyIn.cons rfl (fun K hK => ?_) (AllReadyIn.cons rfl (fun K hK => ?_) AllReadyIn.nil))
          · (go_simp; refine hK _ _ ?_; clear hK K)
            refine wpAnyIn_ready (rs := [4]) (by kernel_rfl) (by simp) (AllReadyIn.cons rfl (fun K hK => ?_) AllReadyIn.nil)
            (go_simp; refine ⟨trivial, ?_⟩; gi_at_call 178; refine (CallsIn.inRound l HCL.out).mono ?_; rintro e W1 ⟨c, rfl, hrc, hb1⟩; have hbw : Below W.heap.size W W1 := ((Below.refl _ _).drew).trans hb1; have hv1 := hv.kept (grown_of hbw) (by simp); have hrow1 := hrow.kept (grown_of hbw) (by cases v.ownBlock <;> simp); have e0 := hv1.cell; have e1 := (hv1.alloc (.cells #[.float .f32 c.1, .complex .f32 c.2.1 c.2.2] 61)).cell; obtain ⟨v2, w2', hrun, hown2, hgrow2, _⟩ := run_append_own (P := Tryz.prog) (W1.alloc (.cells #[.float .f32 c.1, .complex .f32 c.2.1 c.2.2] 61)) w0.heap.size 40 40 61 i0 _ 2 12 Tryz.underlying40 hi hz0 hz1 hz2 rfl (by decide) v cs.length (cellsOf cs) (hrow1.alloc _) ⟨W1.heap.size, 0, none⟩ 1 1 [.float .f32 c.1, .complex .f32 c.2.1 c.2.2] rfl (World.news_of_block (heap_alloc_new W1 _)) (by simp [Value.oneCell']) (by unfold maxLen; omega) (by omega) (by have := hbw.size; have := hBB.size; simp; omega); obtain ⟨g2, cap2, rfl⟩ := ownsRow_succ hown2; obtain ⟨q1, q2, q3, q4, q5⟩ := hv1.appended (by decide) hrow1 (by have := hbw.size; have := hBB.size; omega) (by omega) hown2 hgrow2; have hc1 := q1.cell; have hf1 := q1.frozen; go_simp; refine hK _ _ ?_; clear hK K)
            refine wpAnyIn_ready (rs := [5]) (by kernel_rfl) (by simp) (AllReadyIn.cons rfl (fun K hK => ?_) AllReadyIn.nil)
            (go_simp; refine hK _ _ ?_; clear hK K)
            refine wpAnyIn_ready (rs := [6]) (by kernel_rfl) (by simp) (AllReadyIn.cons rfl (fun K hK => ?_) AllReadyIn.nil)
            (refine stepIn_appendD rfl (.tmp 19) (.tmp 24) 40 rfl rfl rfl hrun ?_; refine hK _ _ ?_; clear hK K)
            refine wpAnyIn_ready (rs := [7]) (by kernel_rfl) (by simp) (AllReadyIn.cons rfl (fun K hK => ?_) AllReadyIn.nil)
            (go_simp; refine hK _ _ ?_; clear hK K)
            refine wpAnyIn_done (by kernel_rfl) ?_ _
            (exact decd_next _ hszz (HFR.out _ hrc) H4.out.1 H4.out.2.1 H4.out.2.2 hv hrow h4 h5 hBB hbw hrow1 hgrow2 q2 q3 q4 q5)
          · (go_simp; refine ⟨trivial, ?_⟩; gi_at_call 178; refine (CallsIn.inRound l HCL.out).mono ?_; rintro e W1 ⟨c, rfl, hrc, hb1⟩; have hbw : Below W.heap.size W W1 := ((Below.refl _ _).drew).trans hb1; have hv1 := hv.kept (grown_of hbw) (by simp); have hrow1 := hrow.kept (grown_of hbw) (by cases v.ownBlock <;> simp); have e0 := hv1.cell; have e1 := (hv1.alloc (.cells #[.float .f32 c.1, .complex .f32 c.2.1 c.2.2] 61)).cell; obtain ⟨v2, w2', hrun, hown2, hgrow2, _⟩ := run_append_own (P := Tryz.prog) (W1.alloc (.cells #[.float .f32 c.1, .complex .f32 c.2.1 c.2.2] 61)) w0.heap.size 40 40 61 i0 _ 2 12 Tryz.underlying40 hi hz0 hz1 hz2 rfl (by decide) v cs.length (cellsOf cs) (hrow1.alloc _) ⟨W1.heap.size, 0, none⟩ 1 1 [.float .f32 c.1, .complex .f32 c.2.1 c.2.2] rfl (World.news_of_block (heap_alloc_new W1 _)) (by simp [Value.oneCell']) (by unfold maxLen; omega) (by omega) (by have := hbw.size; have := hBB.size; simp; omega); obtain ⟨g2, cap2, rfl⟩ := ownsRow_succ hown2; obtain ⟨q1, q2, q3, q4, q5⟩ := hv1.appended (by decide) hrow1 (by have := hbw.size; have := hBB.size; omega) (by omega) hown2 hgrow2; have hc1 := q1.cell; have hf1 := q1.frozen; go_simp; refine hK _ _ ?_; clear hK K)
            refine wpAnyIn_ready (rs := [0, 5]) (by kernel_rfl) (by simp) (AllReadyIn.cons rfl (fun K hK => ?_) (AllReadyIn.cons rfl (fun K hK => ?_) AllReadyIn.nil))
            · (go_simp; refine hK _ _ ?_; clear hK K)
              refine wpAnyIn_ready (rs := [5]) (by kernel_rfl) (by simp) (AllReadyIn.cons rfl (fun K hK => ?_) AllReadyIn.nil)
              (go_simp; refine hK _ _ ?_; clear hK K)
              refine wpAnyIn_ready (rs := [6]) (by kernel_rfl) (by simp) (AllReadyIn.cons rfl (fun K hK => ?_) AllReadyIn.nil)
              (refine stepIn_appendD rfl (.tmp 19) (.tmp 24) 40 rfl rfl rfl hrun ?_; refine hK _ _ ?_; clear hK K)
              refine wpAnyIn_ready (rs := [7]) (by kernel_rfl) (by simp) (AllReadyIn.cons rfl (fun K hK => ?_) AllReadyIn.nil)
              (go_simp; refine hK _ _ ?_; clear hK K)
              refine wpAnyIn_done (by kernel_rfl) ?_ _
              (exact decd_next _ hszz (HFR.out _ hrc) H4.out.1 H4.out.2.1 H4.out.2.2 hv hrow h4 h5 hBB hbw hrow1 hgrow2 q2 q3 q4 q5)
            · (go_simp; refine hK _ _ ?_; clear hK K)
              refine wpAnyIn_ready (rs := [0]) (by kernel_rfl) (by simp) (AllReadyIn.cons rfl (fun K hK => ?_) AllReadyIn.nil)
              (go_simp; refine hK _ _ ?_; clear hK K)
              refine wpAnyIn_ready (rs := [6]) (by kernel_rfl) (by simp) (AllReadyIn.cons rfl (fun K hK => ?_) AllReadyIn.nil)
              (refine stepIn_appendD rfl (.tmp 19) (.tmp 24) 40 rfl rfl rfl hrun ?_; refine hK _ _ ?_; clear hK K)
              refine wpAnyIn_ready (rs := [7]) (by kernel_rfl) (by simp) (AllReadyIn.cons rfl (fun K hK => ?_) AllReadyIn.nil)
              (go_simp; refine hK _ _ ?_; clear hK K)
              refine wpAnyIn_done (by kernel_rfl) ?_ _
              (exact decd_next _ hszz (HFR.out _ hrc) H4.out.1 H4.out.2.1 H4.out.2.2 hv hrow h4 h5 hBB hbw hrow1 hgrow2 q2 q3 q4 q5)
  case done =>
    rintro D ys W hD rfl ⟨⟨v, cs, hv, hrow, hcl, hfit, hfour⟩, h4, h5, hBB⟩ hK
    have hrb := belowK_b (w := w0) (Nat.le_refl w0.heap.size)
    rw [idxF_len] at hcl
    have hdl : DecL xs cs := ⟨by rw [hcl]; have := HX.out; omega, fun i hi => by
      have h1 := hfour i hi (by rw [idxF_len]; omega)
      rwa [idxF_get] at h1⟩
    have HDL := Lib.hid hdl
    have HFT := Lib.hid hfit
    have HRW := Lib.hid hrow.rnew
    have hlen : cs.length ≤ 1000000 := by have := HX.out; omega
    clear hdl hfit hfour
    cases odd with
    | false =>
      have hc := hv.cell
      have HRO := Lib.hid (rowOk_any v cs W HRW.out.row (by omega))
      gi_wp2_with fail
      refine ⟨trivial, callsIn_wide.2 (HRO.out.mono ?_)⟩
      rintro e W1 ⟨rfl, hb1⟩
      have hK1 : W1.heap[D]? = some (.deferred (some [])) := (hb1.block D (Array.getElem?_eq_some_iff.1 hK).1).trans hK
      have hbz := below_trans hBB hb1 hBB.size
      have hN1 := HRW.out.below hb1
      have hc1 := (hv.kept (grown_of hb1) (by simp)).cell
      cases hrk : rok cs with
      | false =>
        gi_wp2
        refine ⟨by simp, .inl ⟨_, _, rfl, run_takeDeferred hK1, ?_⟩⟩
        refine ⟨_, results_tmp2 rfl _ _ _, _, cs, fun _ => HDL.out, fun h => absurd (by have := HX.out; omega) h, HFT.out, by rw [hrk]; rfl, ?_, ?_⟩
        · rw [hrk]; exact RNew.nil _ _
        · exact hbz.trans (belowK_b (w := w0) (Nat.le_refl _) W1 D _ _ (by omega) hK1 rfl rfl)
      | true =>
        gi_wp2
        refine ⟨by simp, .inl ⟨_, _, rfl, run_takeDeferred hK1, ?_⟩⟩
        refine ⟨_, results_tmp2 rfl _ _ _, v, cs, fun _ => HDL.out, fun h => absurd (by have := HX.out; omega) h, HFT.out, by rw [hrk]; rfl, ?_, ?_⟩
        · rw [hrk]; exact hN1.putD hK1 rfl
        · exact hbz.trans (belowK_b (w := w0) (Nat.le_refl _) W1 D _ _ (by omega) hK1 rfl rfl)
    | true =>
      have hc := hv.cell
      have HCN := Lib.hid (conjugateRow_new v cs W HRW.out.row (by omega))
      gi_wp2_with fail
      refine ⟨trivial, callsIn_wide.2 (HCN.out.mono ?_)⟩
      rintro e W1 ⟨v1, rfl, hn1, hb1⟩
      obtain ⟨a1, n1, c1, rfl⟩ : ∃ a n c, v1 = .slice a n c := by
        rcases hn1 with ⟨h, _⟩ | ⟨g, cap, cur, h, _⟩
        · exact ⟨none, 0, 0, h⟩
        · exact ⟨_, _, _, h⟩
      have hv1 := hv.kept (grown_of hb1) (by simp)
      have hc1 := hv1.cell
      have hf1 := hv1.frozen
      have hBx : w0.heap.size + 1 < W.heap.size := hv.lt
      have hN2 := hn1.far (grownBy_setCell' W1 (w0.heap.size + 1) (.slice a1 n1 c1)) (fun k hk e => by
        have h1 := hn1.lt k hk
        have h2 : w0.heap.size + 1 = k := Option.some.inj e
        omega)
      have hb2 : Below w0.heap.size w0 (W1.setCell ⟨w0.heap.size + 1, 0, none⟩ (.slice a1 n1 c1)) := (below_trans hBB hb1 hBB.size).setCell (p := ⟨w0.heap.size + 1, 0, none⟩) (by simp) (.slice a1 n1 c1)
      have hv2 := hv1.set (.slice a1 n1 c1)
      have hK1 : W1.heap[D]? = some (.deferred (some [])) := (hb1.block D (Array.getElem?_eq_some_iff.1 hK).1).trans hK
      have hK2 : (W1.setCell ⟨w0.heap.size + 1, 0, none⟩ (.slice a1 n1 c1)).heap[D]? = some (.deferred (some [])) := (Below.heap_setCell W1 ⟨w0.heap.size + 1, 0, none⟩ (.slice a1 n1 c1) D (by show D ≠ w0.heap.size + 1; omega)).trans hK1
      have HN2 := Lib.hid hN2
      have HB2 := Lib.hid hb2
      have HV2 := Lib.hid hv2
      have HK2 := Lib.hid hK2
      have hle1 : (if rok cs = true then cs.map cj else []).length ≤ 1000000 := by split <;> simp <;> omega
      have hrr : rok (if rok cs = true then cs.map cj else []) = rok cs := by
        cases hrk : rok cs with
        | false => rfl
        | true => exact rok_cj HFT.out hrk
      have HRO := Lib.hid (rowOk_any (.slice a1 n1 c1) _ _ HN2.out.row hle1)
      rw [hrr] at HRO
      have HC2 := HV2.out.cell
      clear hN2 hb2 hv2 hK2 hK1 hn1 hle1 hrr hc HCN
      gi_wp2_with fail
      generalize W1.setCell ⟨w0.heap.size + 1, 0, none⟩ (.slice a1 n1 c1) = W2 at *
      refine ⟨trivial, callsIn_wide.2 (HRO.out.mono ?_)⟩
      rintro e W3 ⟨rfl, hb3⟩
      have hc3 := (HV2.out.kept (grown_of hb3) (by simp)).cell
      have hK3 : W3.heap[D]? = some (.deferred (some [])) := (hb3.block D (Array.getElem?_eq_some_iff.1 HK2.out).1).trans HK2.out
      have hbz := below_trans HB2.out hb3 HB2.out.size
      have hN3 := (HN2.out.mono hBB.size).below hb3
      cases hrk : rok cs with
      | false =>
        gi_wp2
        refine ⟨by simp, .inl ⟨_, _, rfl, run_takeDeferred hK3, ?_⟩⟩
        refine ⟨_, results_tmp2 rfl _ _ _, _, cs, fun _ => HDL.out, fun h => absurd (by have := HX.out; omega) h, HFT.out, by rw [hrk]; rfl, ?_, ?_⟩
        · rw [hrk]; exact RNew.nil _ _
        · exact hbz.trans (belowK_b (w := w0) (Nat.le_refl _) W3 D _ _ (by omega) hK3 rfl rfl)
      | true =>
        rw [hrk] at hN3
        gi_wp2
        refine ⟨by simp, .inl ⟨_, _, rfl, run_takeDeferred hK3, ?_⟩⟩
        refine ⟨_, results_tmp2 rfl _ _ _, (.slice a1 n1 c1), cs, fun _ => HDL.out, fun h => absurd (by have := HX.out; omega) h, HFT.out, by rw [hrk]; rfl, ?_, ?_⟩
        · rw [hrk]; exact hN3.putD hK3 rfl
        · exact hbz.trans (belowK_b (w := w0) (Nat.le_refl _) W3 D _ _ (by omega) hK3 rfl rfl)
  case stop =>
    rintro D c pre W _ _ h _
    exact h.elim
end Go.Proofs.YtobpnoiienpipaaGreat
