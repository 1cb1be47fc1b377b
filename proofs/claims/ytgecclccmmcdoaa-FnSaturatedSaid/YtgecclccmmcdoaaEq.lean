/-
  What is proved: the walks of the comparing of rows cell by cell (slices.Equal at cells, SameRows at one row each).
  Conditions: both rows can be read.
-/
import Derived.Test.YtgecclccmmcdoaaMeanRow
import Derived.Test.YtgecclccmmcdoaaPkCell
import Derived.Laws.StructEq
namespace Go.Proofs.Ytgecclccmmcdoaa
set_option linter.unusedVariables false
open Go.RowKit
attribute [local go_sem] run_store_float run_store_complex unary_negf neg256

/-- Are two numbers equal? -/
def feq (a b : Nat) : Bool := FloatKind.f32.format.order a b == some .eq
def ceq (c d : C3) : Bool := feq c.1 d.1 && (feq c.2.1 d.2.1 && feq c.2.2 d.2.2)
theorem eqf_float (d : Nat) (t : TypeId) (a b : Nat) (W : World) (h : Try.prog.underlying t = some (.float .f32)) : (Op.equalIn (d + 1) t (.float .f32 a) (.float .f32 b)).run Try.prog W = .ok (feq a b) W := by
  simp [Op.equalIn, run_underlying h, feq, Op.floatEq]
theorem eqf_complex (d : Nat) (t : TypeId) (a b a' b' : Nat) (W : World) (h : Try.prog.underlying t = some (.complex .f32)) : (Op.equalIn (d + 1) t (.complex .f32 a b) (.complex .f32 a' b')).run Try.prog W = .ok (feq a a' && feq b b') W := by
  simp [Op.equalIn, run_underlying h, feq, Op.floatEq]
theorem neq_cell (y u v y' u' v' : Nat) (W : World) : (binOp .neq 40 (.agg #[.float .f32 y, .complex .f32 u v]) (.agg #[.float .f32 y', .complex .f32 u' v'])).run Try.prog W = .ok (.bool (!(feq y y' && (feq u u' && feq v v')))) W := by
  have hS : Try.prog.underlying 40 = some (.struct (Try.prog.fieldsOf 40)) := by kernel_rfl
  have hp : Try.prog.stoodInHeld 40 = false := by kernel_rfl
  have u1 := Try.underlying26
  have u2 := Try.underlying27
  have a1 := Try.isAgg26
  have a2 := Try.isAgg27
  have z1 := Try.sizeOf26
  have z2 := Try.sizeOf27
  have e1 := eqf_float 9998 26 y y' W u1
  have e2 := eqf_complex 9998 27 u v u' v' W u2
  rw [run_neq_struct, show (10000 : Nat) = 9999 + 1 from rfl, run_equalIn_agg W 9999 40 _ _ hS hp]
  simp only [Program.fieldsOf, Try.underlying40]
  simp only [show (9998 + 1 : Nat) = 9999 from rfl] at e1 e2
  clear hS hp u1 u2
  go_simp
  cases feq y y' <;> cases feq u u' <;> cases feq v v' <;> simp
theorem guard_cell (op : BinOp) (x y : Operand) (xs ys : Array Value) (W : World) : (eqGuard op 40 x y (.agg xs) (.agg ys)).run Try.prog W = .ok () W := run_eqGuard_agg W op _ x y xs ys (by kernel_rfl)
attribute [local go_sem high] neq_cell guard_cell
/-- Two rows whose cells are equal. -/
def Alike (a b : List C3) : Prop := a.length = b.length ∧ ∀ i (h : i < a.length) (h' : i < b.length), (feq a[i].1 b[i].1 && (feq a[i].2.1 b[i].2.1 && feq a[i].2.2 b[i].2.2)) = true
set_option maxHeartbeats 2000000 in
theorem equalCells_any (v v' : Value) (a b : List C3) (w : World) (h : RowV w v a) (h' : RowV w v' b) (hl : a.length ≤ 1000000) (hab : Alike a b) :
    Calls Try.prog 78 #[v, v'] w fun e w' => e = .returned (.bool true) ∧ Below w.heap.size w w' := by
  obtain ⟨hlen, heq⟩ := hab
  have hbn : ((a.length : Int) != (b.length : Int)) = false := by rw [hlen]; simp
  have HE := Lib.hid heq
  have HLEN := Lib.hid hlen
  by_cases h0 : a = []
  · have hb0 : b = [] := by cases b with
      | nil => rfl
      | cons c b => rw [h0] at hlen; simp at hlen
    obtain ⟨ad, cap, rfl⟩ := h.lenv
    obtain ⟨ad', cap', rfl⟩ := h'.lenv
    subst h0 hb0
    clear h h' heq hlen hbn HE HLEN
    go_enter Try.func78, Try.ntmps78
    go_wp2
    go_loop [13] (fun i => i = .int .i64 0) (fun _ => 0)
    case atStart => exact rfl
    case round =>
      obtain rfl := hrel
      go_wp2
      go_ret
      exact ⟨rfl, Below.refl _ _⟩
  · have hb0 : b ≠ [] := by intro e; rw [e] at hlen; exact h0 (List.eq_nil_of_length_eq_zero hlen)
    obtain ⟨g, o, cap, rfl, hcap, hcell⟩ := h.len h0
    obtain ⟨g', o', cap', rfl, hcap', hcell'⟩ := h'.len hb0
    have HC := Lib.hid hcell
    have HC' := Lib.hid hcell'
    clear h h' heq hlen hcell hcell' h0 hb0
    go_enter Try.func78, Try.ntmps78
    go_wp2
    go_loopw [13] (fun i wr => ∃ k q : Nat, k ≤ a.length ∧ i = .int .i64 (k : Int) ∧ wr = w.drewN q) (fun i _ => a.length - (intOf i).toNat)
    case atStart => exact ⟨0, 0, Nat.zero_le _, rfl, rfl⟩
    case round =>
      obtain ⟨k, q, hk, rfl, rfl⟩ := hrel
      by_cases hlt : k < a.length
      · have hltb : k < b.length := by have := HLEN.out; omega
        obtain ⟨hc0, hc1⟩ := HC.out k hlt
        obtain ⟨hc0', hc1'⟩ := HC'.out k hltb
        have he := HE.out k hlt hltb
        generalize a[k] = c at *
        generalize b[k] = d at *
        obtain ⟨y, u, z⟩ := c
        obtain ⟨y', u', z'⟩ := d
        simp only at hc0 hc1 hc0' hc1' he
        go_wp2
        go_quiet (fail)
        go_wp2
        go_roundw
        case rel => exact ⟨k + 1, _, by omega, by go_num, rfl⟩
        case measure => simp [intOf]; omega
      · go_wp2
        go_ret
        exact ⟨rfl, belowDN (Below.refl _ _) _⟩

set_option maxHeartbeats 2000000 in
theorem equalFunc_one (v v' : Value) (p q : Nat) (a b : List C3) (w : World) (h : RowV w v a) (h' : RowV w v' b) (hl : a.length ≤ 1000000) (hab : Alike a b)
    (hp : w.cell? ⟨p, 0, none⟩ = some v) (hq : w.cell? ⟨q, 0, none⟩ = some v') :
    Calls Try.prog 77 #[.slice (some ⟨p, 0, none⟩) 1 1, .slice (some ⟨q, 0, none⟩) 1 1, .func (.func 78) #[] #[]] w fun e w' => e = .returned (.bool true) ∧ Below w.heap.size w w' := by
  have HE := fun W hW => Lib.hid (equalCells_any v v' a b W (h.below hW) (h'.below hW) hl hab)
  obtain ⟨ad, cap, rfl⟩ := h.lenv
  obtain ⟨ad', cap', rfl⟩ := h'.lenv
  clear h h' hab
  go_enter Try.func77, Try.ntmps77
  go_wp2
  go_loopw [17] (fun i wr => ∃ k : Nat, k ≤ 1 ∧ i = .int .i64 (k : Int) ∧ Below w.heap.size w wr) (fun i _ => 1 - (intOf i).toNat)
  case atStart => exact ⟨0, Nat.zero_le _, rfl, Below.refl _ _⟩
  case round =>
    obtain ⟨k, hk, rfl, hb⟩ := hrel
    rcases (by omega : k = 0 ∨ k = 1) with rfl | rfl
    · have hp1 := (grown_of hb).cell hp (by simp)
      have hq1 := (grown_of hb).cell hq (by simp)
      go_wp2_with fail
      refine (HE _ hb).out.mono ?_
      rintro e w1 ⟨rfl, hb1⟩
      go_wp2
      go_roundw
      case rel => exact ⟨1, Nat.le_refl _, by go_num, below_trans hb hb1 hb.size⟩
      case measure => simp [intOf]
    · go_wp2
      go_ret
      exact ⟨rfl, hb⟩

theorem sameRows_one (v v' : Value) (p q : Nat) (a b : List C3) (w : World) (h : RowV w v a) (h' : RowV w v' b) (hl : a.length ≤ 1000000) (hab : Alike a b)
    (hp : w.cell? ⟨p, 0, none⟩ = some v) (hq : w.cell? ⟨q, 0, none⟩ = some v') :
    Calls Try.prog 34 #[.slice (some ⟨p, 0, none⟩) 1 1, .slice (some ⟨q, 0, none⟩) 1 1] w fun e w' => e = .returned (.bool true) ∧ Below w.heap.size w w' := by
  have HE := Lib.hid (equalFunc_one v v' p q a b w h h' hl hab hp hq)
  clear h h' hab hp hq
  go_enter Try.func34, Try.ntmps34
  go_wp2_with fail
  refine HE.out.mono ?_
  rintro e w1 ⟨rfl, hb⟩
  go_wp2
  go_ret
  exact ⟨rfl, hb⟩
theorem equalRow_any (v v' : Value) (a b : List C3) (w : World) (h : RowV w v a) (h' : RowV w v' b) (hl : a.length ≤ 1000000) (hab : Alike a b) :
    Calls Try.prog 21 #[v, v'] w fun e w' => e = .returned (.bool true) ∧ Below w.heap.size w w' := by
  have hb2 : Below w.heap.size w ((w.alloc (.cells #[v] 36)).alloc (.cells #[v'] 36)) := ((Below.refl _ _).alloc (Nat.le_refl _) _).alloc (by simp) _
  have hp : ((w.alloc (.cells #[v] 36)).alloc (.cells #[v'] 36)).cell? ⟨w.heap.size, 0, none⟩ = some v := (cell_of_row _ _ 0 _ _ _ ((Below.heap_alloc _ _ _ (by simp)).trans (heap_alloc_new w _))).trans rfl
  have hq : ((w.alloc (.cells #[v] 36)).alloc (.cells #[v'] 36)).cell? ⟨w.heap.size + 1, 0, none⟩ = some v' := by
    have := heap_alloc_new (w.alloc (.cells #[v] 36)) (.cells #[v'] 36)
    rw [World.size_alloc] at this
    exact (cell_of_row _ _ 0 _ _ _ this).trans rfl
  have HE := Lib.hid (sameRows_one v v' w.heap.size (w.heap.size + 1) a b _ (h.below hb2) (h'.below hb2) hl hab hp hq)
  obtain ⟨ad, cap, rfl⟩ := h.lenv
  obtain ⟨ad', cap', rfl⟩ := h'.lenv
  clear h h' hab hp hq
  go_enter Try.func21, Try.ntmps21
  go_wp2_with fail
  refine HE.out.mono ?_
  rintro e w1 ⟨rfl, hb⟩
  go_wp2
  go_ret
  exact ⟨rfl, below_trans hb2 hb hb2.size⟩
/-- What equals itself. -/
theorem feq_self {x : Nat} (h : (Ieee.single.read x).isNaN = false) : feq x x = true := by
  unfold feq
  rw [show FloatKind.f32.format.order x x = some .eq from Flt.order_self h]; rfl
theorem feq_half {x : Nat} (h : Flt.fin x = true) : feq (Flt.half x x) x = true := by
  unfold feq
  rw [show FloatKind.f32.format.order (Flt.half x x) x = some .eq from Flt.half_self h]; rfl
theorem mid_self {a : List C3} (h : rok a = true) : Alike (List.zipWith mid a a) a := by
  refine ⟨by simp, fun i hi hi' => ?_⟩
  obtain ⟨h1, h2, h3⟩ := fin_at h hi'
  rw [List.getElem_zipWith]
  unfold mid
  simp only [feq_half h1, feq_half h2, feq_half h3, Bool.and_self]
theorem mid_swap {a b : List C3} (h : meanOk a b = true) : Alike (List.zipWith mid a b) (List.zipWith mid b a) := by
  unfold meanOk at h
  rw [Bool.and_eq_true, Bool.and_eq_true, decide_eq_true_iff] at h
  obtain ⟨ha, hb, hl⟩ := h
  refine ⟨by simp [hl], fun i hi hi' => ?_⟩
  have hia : i < a.length := by simp at hi; omega
  have hib : i < b.length := by omega
  obtain ⟨h1, h2, h3⟩ := fin_at ha hia
  obtain ⟨g1, g2, g3⟩ := fin_at hb hib
  rw [List.getElem_zipWith, List.getElem_zipWith]
  unfold mid
  simp only [Flt.half_comm b[i].1, Flt.half_comm b[i].2.1, Flt.half_comm b[i].2.2]
  obtain ⟨_, _, _, k1⟩ := Flt.half_fin h1 g1
  obtain ⟨_, _, _, k2⟩ := Flt.half_fin h2 g2
  obtain ⟨_, _, _, k3⟩ := Flt.half_fin h3 g3
  simp only [feq_self k1, feq_self k2, feq_self k3, Bool.and_self]
end Go.Proofs.Ytgecclccmmcdoaa
