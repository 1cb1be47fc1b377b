/-
  What is proved: the walk of the law FnTakenApart.
  Conditions: none beyond the argument's own.
-/
import Derived.Test.YtnkmcjiohmnfhaaPlain
import Derived.Test.YtnkmcjiohmnfhaaEncCells
import Derived.Test.YtnkmcjiohmnfhaaEqRow
namespace Go.Proofs.Ytnkmcjiohmnfhaa
set_option linter.unusedVariables false
open Go.RowKit
attribute [local go_sem] run_store_float run_store_complex unary_negf neg256

theorem encode_any (v : Value) (cs : List C3) (odd : Bool) (w : World) (h : RowV w v cs) (hf : Fit cs) (hl : cs.length ≤ 1000000) :
    Calls Try.prog 16 #[v, .bool odd] w fun e w' => EncPost (if rok cs = true then enc (if odd = true then cs.map cj else cs) else []) w e w' := by
  cases odd with
  | false => exact encode_even v cs w h hf hl
  | true => exact encode_odd v cs w h hf hl
theorem alike_of {cs ds : List C3} (hl : ds.length = cs.length) (h : ∀ i (h1 : i < ds.length) (h2 : i < cs.length), ∃ a b d, PC cs[i] a b d ∧ PC ds[i] a b d) : Alike ds cs := by
  refine ⟨hl, fun i h1 h2 => ?_⟩
  obtain ⟨a, b, d, k1, k2⟩ := h i h1 h2
  have e : ∀ {x y : Nat} {k : Int}, Flt.Sx x k → Flt.Sx y k → feq x y = true := by
    intro x y k hx hy
    unfold feq
    rw [show FloatKind.f32.format.order x y = some .eq from hx.eq hy]; rfl
  rw [e k2.1 k1.1, e k2.2.1 k1.2.1, e k2.2.2.1 k1.2.2.1]
  rfl
theorem plain_of {cs ds : List C3} (hl : ds.length = cs.length) (h : ∀ i (h1 : i < ds.length) (h2 : i < cs.length), ∃ a b d, PC cs[i] a b d ∧ PC ds[i] a b d) : PlainR ds := by
  intro c hc
  obtain ⟨i, hi, rfl⟩ := List.getElem_of_mem hc
  obtain ⟨a, b, d, _, k2⟩ := h i hi (by omega)
  exact ⟨a, b, d, k2⟩
/-- What is decoded of an encoded row of sixteenths: it is valid, and the row. -/
theorem taken {cs ds : List C3} (odd : Bool) (hp : PlainR cs) (h1 : 1 ≤ cs.length) (h6 : cs.length ≤ 6) (h : DecL (enc (if odd = true then cs.map cj else cs)) ds) :
    rok ds = true ∧ ds.length = cs.length ∧ Alike (if odd = true then ds.map cj else ds) cs := by
  cases odd with
  | false =>
    obtain ⟨hl, hi⟩ := decL_enc hp h
    exact ⟨(plain_of hl hi).rok (by omega) (by omega), hl, alike_of hl hi⟩
  | true =>
    obtain ⟨hl, hi⟩ := decL_enc hp.cj h
    rw [List.length_map] at hl
    refine ⟨(plain_of (cs := cs.map cj) (by rw [List.length_map]; exact hl) hi).rok (by omega) (by omega), hl, ?_⟩
    refine alike_of (by simpa using hl) fun i k1 k2 => ?_
    have k1' : i < ds.length := by simpa using k1
    obtain ⟨a, b, d, q1, q2⟩ := hi i k1' (by simpa using k2)
    obtain ⟨a', b', d', q3⟩ := hp cs[i] (List.getElem_mem k2)
    simp only [if_true, List.getElem_map] at q1 q2 ⊢
    have e1 := q1.cj
    rw [show cj (cj cs[i]) = cs[i] by simp [cj, Flt.neg_neg32]] at e1
    exact ⟨a, b, -d, e1, q2.cj⟩
set_option maxHeartbeats 1000000 in
theorem walk_FnTakenApart (a0 : Option Addr) (len0 cap0 : Nat) (z0 : List Int) (w : World) (w0 : IsRow .u8 w a0 len0 cap0 z0) :
    Calls Try.prog 3 #[.slice a0 len0 cap0] w fun e w' => e = .returned (.bool true) ∧ Below w.heap.size w w' := by
  by_cases hbig : 1048576 < len0
  · have hbb : decide ((1048576 : Int) < len0) = true := by simp; omega
    have HB := Lib.hid (big_any a0 len0 cap0 w)
    rw [hbb] at HB
    clear hbb
    go_enter Try.func3, Try.ntmps3
    go_wp2_with fail
    refine HB.out.mono ?_
    rintro e w1 ⟨rfl, rfl⟩
    go_wp2
    go_ret
    exact ⟨rfl, Below.refl _ _⟩
  · have hbb : decide ((1048576 : Int) < len0) = false := by simp; omega
    have HB := Lib.hid (big_any a0 len0 cap0 w)
    rw [hbb] at HB
    have HD := Lib.hid (drawPlain_any a0 len0 cap0 w (w0.src (by omega)))
    clear hbb w0
    go_enter Try.func3, Try.ntmps3
    go_wp2_with fail
    refine HB.out.mono ?_
    rintro e w1 ⟨rfl, rfl⟩
    go_wp2_with fail
    refine HD.out.mono ?_
    rintro e w1 ⟨v, cs, ⟨hl1, hl6⟩, hp, rfl, hr, hb1⟩
    obtain ⟨av, cv, rfl⟩ := RowV.lenv hr
    have HR := Lib.hid hr
    have HP := Lib.hid hp
    have hlit := heap_alloc_new w1 (.cells #[.bool false, .bool true] 4)
    have l0 : (w1.alloc (.cells #[.bool false, .bool true] 4)).cell? ⟨w1.heap.size, 0, none⟩ = some (.bool false) := (cell_of_row _ _ 0 _ _ _ hlit).trans rfl
    have l1 : (w1.alloc (.cells #[.bool false, .bool true] 4)).cell? ⟨w1.heap.size, 1, none⟩ = some (.bool true) := (cell_of_row _ _ 1 _ _ _ hlit).trans rfl
    have hbA := hb1.alloc hb1.size (.cells #[.bool false, .bool true] 4)
    have HRA := Lib.hid (hr.below ((Below.refl w1.heap.size w1).alloc (Nat.le_refl _) (.cells #[.bool false, .bool true] 4)))
    have HL0 := Lib.hid l0
    have HL1 := Lib.hid l1
    clear hr hp HD HB hlit l0 l1 HR
    go_wp2
    generalize w1.alloc (.cells #[.bool false, .bool true] 4) = w2 at *
    go_loopw [15] (fun i wr => ∃ k : Nat, k ≤ 2 ∧ i = .int .i64 (k : Int) ∧ Below w2.heap.size w2 wr) (fun i _ => 2 - (intOf i).toNat)
    case atStart => exact ⟨0, Nat.zero_le _, rfl, Below.refl _ _⟩
    case round =>
      obtain ⟨k, hk, rfl, hb⟩ := hrel
      by_cases hlt : k < 2
      · obtain ⟨odd, hodd⟩ : ∃ odd : Bool, wr.cell? ⟨w1.heap.size, k, none⟩ = some (.bool odd) := by
          rcases (by omega : k = 0 ∨ k = 1) with rfl | rfl
          · exact ⟨false, (grown_of hb).cell HL0.out (by simp)⟩
          · exact ⟨true, (grown_of hb).cell HL1.out (by simp)⟩
        have HE := Lib.hid (encode_any _ cs odd wr (HRA.out.below hb) HP.out.fit (by omega))
        rw [HP.out.rok hl1 (by omega)] at HE
        simp only [if_true] at HE
        have hel : (enc (if odd = true then cs.map cj else cs)).length = 4 * cs.length := by
          rw [enc_len]; split <;> simp
        have HEL := Lib.hid hel
        have HT := Lib.hid (fun ds (h : DecL (enc (if odd = true then cs.map cj else cs)) ds) => taken odd HP.out hl1 hl6 h)
        clear hel
        generalize enc (if odd = true then cs.map cj else cs) = ys at HE HEL HT
        go_wp2_with fail
        refine HE.out.mono ?_
        rintro e w3 ⟨v3, rfl, hn3, hb3⟩
        obtain ⟨a3, c3, rfl⟩ := hn3.row.lenv
        have HN3 := Lib.hid hn3
        have hb03 := below_trans hb hb3 hb.size
        clear hn3 HE
        go_wp2_with fail
        refine (decode_any (.slice a3 ys.length c3) ys odd w3 HN3.out.row (by have := HEL.out; omega)).mono ?_
        rintro e w4 ⟨v4, ds, hd1, _, hdf, rfl, hn4, hb4⟩
        obtain ⟨t1, t2, t3⟩ := HT.out ds (hd1 (by have := HEL.out; omega))
        rw [t1] at hn4 ⊢
        simp only [if_true] at hn4
        have hb04 := below_trans hb03 hb4 hb03.size
        have HN4 := Lib.hid hn4
        have HEQ := Lib.hid (equalRow_any v4 (.slice av cs.length cv) (if odd = true then ds.map cj else ds) cs w4 hn4.row (HRA.out.below hb04) (by cases odd <;> simp <;> omega) t3)
        clear hd1 hdf hn4 t1 t3 HN3
        rw [HEL.out]
        go_wp2_with fail
        refine HEQ.out.mono ?_
        rintro e w5 ⟨rfl, hb5⟩
        have hb05 := below_trans hb04 hb5 hb04.size
        clear hb3 hb4 hb5 hb03 hb04 HEQ HN4
        go_wp2
        go_roundw
        case rel => exact ⟨k + 1, by omega, by go_num, hb05⟩
        case measure => simp [intOf]; omega
      · go_wp2
        go_ret
        exact ⟨rfl, below_trans hbA hb hbA.size⟩
end Go.Proofs.Ytnkmcjiohmnfhaa
