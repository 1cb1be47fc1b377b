/-
  What is proved: the walks of Brightness and Colouring.
  Conditions: the list can be read; at most 4000000 numbers.
-/
import Derived.Test.YtnkmcjiohmnfhaaPlain
import Derived.Test.YtnkmcjiohmnfhaaJoined
namespace Go.Proofs.Ytnkmcjiohmnfhaa
set_option linter.unusedVariables false
open Go.RowKit
attribute [local go_sem] run_store_float run_store_complex unary_negf neg256

/-- Each sample replaced by its cell's brightness. -/
def spread (cs : List C3) : List Nat := cs.flatMap fun c => [c.1, c.1, c.1, c.1]
theorem spread_len (cs : List C3) : (spread cs).length = 4 * cs.length := by
  induction cs with
  | nil => rfl
  | cons c cs ih => simp only [spread, List.flatMap_cons, List.length_append, List.length_cons, List.length_nil] at ih ⊢; omega
theorem spread_get : ∀ (cs : List C3) (i : Nat) (h : i < (spread cs).length) (h' : i / 4 < cs.length), (spread cs)[i] = cs[i / 4].1
  | [], i, h, _ => by simp [spread] at h
  | c :: cs, i, h, h' => by
    have e : spread (c :: cs) = c.1 :: c.1 :: c.1 :: c.1 :: spread cs := by simp [spread]
    have h2 := h
    rw [e] at h2
    rw [List.getElem_of_eq e h]
    by_cases h4 : i < 4
    · have : i = 0 ∨ i = 1 ∨ i = 2 ∨ i = 3 := by omega
      rcases this with rfl | rfl | rfl | rfl <;> rfl
    · obtain ⟨j, rfl⟩ : ∃ j, i = j + 4 := ⟨i - 4, by omega⟩
      have hj : j < (spread cs).length := by simp only [List.length_cons] at h2; omega
      have hj' : j / 4 < cs.length := by rw [spread_len] at hj; omega
      have := spread_get cs j hj hj'
      show (spread cs)[j] = _
      rw [this]
      have e4 : (j + 4) / 4 = j / 4 + 1 := by omega
      simp [e4]
/-- What Brightness may answer. -/
def BrightR (xs ys : List Nat) (ok : Bool) : Prop := ∃ cs, (xs.length % 4 = 0 → DecL xs cs) ∧ (xs.length % 4 ≠ 0 → cs = []) ∧ ok = rok cs ∧ ys = if rok cs = true then spread cs else []
def AnsB (R : List Nat → Bool → Prop) (w : World) (e : Ending) (w' : World) : Prop := ∃ v ys ok, e = .returned (.tuple #[v, .bool ok]) ∧ R ys ok ∧ FNew w' w.heap.size v ys ∧ Below w.heap.size w w'
theorem AnsB.mk {R : List Nat → Bool → Prop} {w w' : World} {v : Value} {ys : List Nat} {ok : Bool} (hr : R ys ok) (h : FNew w' w.heap.size v ys) (hb : Below w.heap.size w w') : AnsB R w (.returned (.tuple #[v, .bool ok])) w' := ⟨v, ys, ok, rfl, hr, h, hb⟩
set_option maxHeartbeats 2000000 in
theorem bright_any (v : Value) (xs : List Nat) (w : World) (h : FRow w v xs) (hl : xs.length ≤ 4000000) :
    Calls Try.prog 23 #[v] w fun e w' => AnsB (BrightR xs) w e w' := by
  have HD := Lib.hid (decode_any v xs false w h hl)
  obtain ⟨a, c, rfl⟩ := h.lenv
  have HV := Lib.hid h
  clear h
  go_enter Try.func23, Try.ntmps23
  go_wp2_with fail
  refine HD.out.mono ?_
  rintro e w1 ⟨v1, cs, hd1, hd2, hdf, rfl, hn1, hb1⟩
  cases hrk : rok cs with
  | false =>
    have HB := Lib.hid (show BrightR xs [] false from ⟨cs, hd1, hd2, hrk.symm, by rw [hrk]; rfl⟩)
    clear hd1 hd2 hdf hn1 hrk
    go_wp2
    go_ret2
    exact AnsB.mk HB.out (FNew.nil _ _) hb1
  | true =>
    have hm4 : xs.length % 4 = 0 := by
      by_cases h4 : xs.length % 4 = 0
      · exact h4
      · rw [hd2 h4] at hrk; cases hrk
    have hdl := hd1 hm4
    rw [hrk] at hn1
    simp only [if_true, Bool.false_eq_true, if_false] at hn1
    have HB := Lib.hid (show BrightR xs (spread cs) true from ⟨cs, hd1, hd2, hrk.symm, by rw [hrk]; rfl⟩)
    have hxl : 4 * cs.length = xs.length := hdl.1
    have hne := rok_ne hrk
    obtain ⟨g, o, cap, rfl, hcap, hcell⟩ : ∃ g o cap, v1 = .slice (some ⟨g, o, none⟩) cs.length cap ∧ cs.length ≤ cap ∧ ∀ i (h : i < cs.length), w1.cell? ⟨g, o + i * 2, none⟩ = some (.float .f32 cs[i].1) ∧ w1.cell? ⟨g, o + i * 2 + 1, none⟩ = some (.complex .f32 cs[i].2.1 cs[i].2.2) := by
      rcases hn1.row with ⟨_, h1⟩ | h1
      · exact absurd h1 hne
      · exact h1
    have HC := Lib.hid hcell
    have HX := Lib.hid hxl
    have hmk := make_floats xs.length (by omega)
    have hst := MadeF.start w1 xs.length (spread cs)
    have HST := Lib.hid hst
    have hbA := (Below.refl w1.heap.size w1).alloc (Nat.le_refl _) (.cells (madeCells #[.float .f32 0] xs.length) 39)
    have hsz : w1.heap.size < (w1.alloc (.cells (madeCells #[.float .f32 0] xs.length) 39)).heap.size := by simp
    clear hd1 hd2 hdf hn1 hrk hdl hcell hst hne hxl hm4
    go_wp2
    clear hmk
    generalize w1.alloc (.cells (madeCells #[.float .f32 0] xs.length) 39) = w2 at *
    go_loopw [20] (fun i wr => ∃ k : Nat, k ≤ xs.length ∧ i = .int .i64 (k : Int) ∧ Below w1.heap.size w1 wr ∧ w1.heap.size < wr.heap.size ∧ MadeF wr w1.heap.size xs.length k (spread cs)) (fun i _ => xs.length - (intOf i).toNat)
    case atStart => exact ⟨0, Nat.zero_le _, rfl, hbA, hsz, HST.out⟩
    case round =>
      obtain ⟨k, hk, rfl, hb, hs, hm⟩ := hrel
      have HM := Lib.hid hm
      clear hm HST
      by_cases hlt : k < xs.length
      · obtain ⟨q, hq⟩ : ∃ q, k / 4 = q := ⟨_, rfl⟩
        have hql : q < cs.length := by have := HX.out; omega
        have hqi : ((k : Int) / 4) = (q : Int) := by omega
        have hc0 := (grown_of hb).cell (HC.out q hql).1 (by simp)
        obtain ⟨⟨x0, hx0⟩, hf0⟩ := HM.out.at k hlt
        have hsl : k < (spread cs).length := by rw [spread_len, HX.out]; exact hlt
        have hm3 := HM.out.step hsl (by rw [spread_len, HX.out]; exact Nat.le_refl _)
        rw [spread_get cs k hsl (by rw [hq]; exact hql)] at hm3
        have e4 : cs[k / 4]'(by rw [hq]; exact hql) = cs[q] := by congr 1
        rw [e4] at hm3
        generalize cs[q] = cc at *
        have HM3 := Lib.hid hm3
        clear hm3 e4 hsl hq
        go_wp2
        go_roundw
        case rel => exact ⟨k + 1, by omega, by go_num, hb.setCell (Nat.le_refl _) _, by simpa [World.setCell] using hs, HM3.out⟩
        case measure => simp [intOf]; omega
      · have hkk : k = xs.length := by omega
        subst hkk
        have HNN := Lib.hid ((HM.out.new (by rw [spread_len, HX.out]) (Nat.le_refl _)).mono hb1.size)
        go_wp2
        go_ret2
        exact AnsB.mk HB.out HNN.out (below_trans hb1 hb hb1.size)
/-- What Colouring may answer. -/
def ColourR (xs ys : List Nat) (ok : Bool) : Prop := ∃ bs, BrightR xs bs ok ∧ if ok = true then ys.length = xs.length ∧ ResL .sub xs bs ys else ys = []
theorem BrightR.len {xs ys : List Nat} (h : BrightR xs ys true) : ys.length = xs.length := by
  obtain ⟨cs, h1, h2, h3, h4⟩ := h
  rw [← h3, if_pos rfl] at h4
  have hm4 : xs.length % 4 = 0 := by
    by_cases h : xs.length % 4 = 0
    · exact h
    · rw [h2 h] at h3; cases h3
  rw [h4, spread_len, (h1 hm4).1]
set_option maxHeartbeats 1000000 in
theorem colour_any (v : Value) (xs : List Nat) (w : World) (h : FRow w v xs) (hl : xs.length ≤ 4000000) :
    Calls Try.prog 24 #[v] w fun e w' => AnsB (ColourR xs) w e w' := by
  have HB := Lib.hid (bright_any v xs w h hl)
  obtain ⟨a, c, rfl⟩ := h.lenv
  have HV := Lib.hid h
  clear h
  go_enter Try.func24, Try.ntmps24
  go_wp2_with fail
  refine HB.out.mono ?_
  rintro e w1 ⟨v1, bs, ok, rfl, hbr, hn1, hb1⟩
  cases ok with
  | false =>
    have HC := Lib.hid (show ColourR xs [] false from ⟨bs, hbr, by simp⟩)
    clear hbr hn1
    go_wp2
    go_ret2
    exact AnsB.mk HC.out (FNew.nil _ _) hb1
  | true =>
    have hbl := hbr.len
    have HBR := Lib.hid hbr
    obtain ⟨a1, c1, rfl⟩ := hn1.row.lenv
    have HJ := Lib.hid (joinedSub_any (.slice a xs.length c) (.slice a1 bs.length c1) xs bs w1 (HV.out.below hb1) hn1.row (by omega) hbl)
    rw [hbl] at HJ ⊢
    clear hn1 hbr hbl
    go_wp2_with fail
    refine HJ.out.mono ?_
    rintro e w2 ⟨v2, rs, rfl, hrl, hrr, hn2, hb2⟩
    have HN := Lib.hid (hn2.mono hb1.size)
    have HC := Lib.hid (show ColourR xs rs true from ⟨bs, HBR.out, by simpa using ⟨hrl, hrr⟩⟩)
    clear hn2 hrl hrr
    go_wp2
    go_ret2
    exact AnsB.mk HC.out HN.out (below_trans hb1 hb2 hb1.size)
end Go.Proofs.Ytnkmcjiohmnfhaa
