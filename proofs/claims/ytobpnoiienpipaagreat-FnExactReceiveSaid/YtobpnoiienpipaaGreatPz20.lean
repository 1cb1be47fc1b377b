/-
  What is proved: the walks of AddSamples, the program's and the model's, and of the program's function that joins two lists.
  Conditions: the lists can be read.
-/
import Derived.Test.YtobpnoiienpipaaGreatPz03
import Derived.Test.YtobpnoiienpipaaGreatPz19
import Derived.Test.YtobpnoiienpipaaGreatPz10
import Derived.Deep.RegionHeld3
import Derived.Deep.AppendLies
namespace Go.Proofs.YtobpnoiienpipaaGreat
set_option linter.unusedVariables false
open Go.RowKit
attribute [local go_sem] run_store_float run_store_complex unary_negf neg256

theorem MadeF.snoc {w : World} {b n k : Nat} {xs : List Nat} (h : MadeF w b n k xs) (hx : xs.length = k) (hk : k < n) (r : Nat) : MadeF (w.setCell ⟨b, k, none⟩ (.float .f32 r)) b n (k + 1) (xs ++ [r]) := by
  obtain ⟨cur, h1, h2, h3⟩ := h
  refine ⟨cur.setIfInBounds k (.float .f32 r), heapF h1, by simpa using h2, fun i hi hik => ?_⟩
  by_cases e : i = k
  · subst e
    rw [Array.getElem?_setIfInBounds, if_pos rfl, if_pos (by omega)]
    rw [List.getElem_append_right (by omega)]
    simp [hx]
  · rw [Array.getElem?_setIfInBounds, if_neg (by omega)]
    rw [List.getElem_append_left (by omega)]
    exact h3 i (by omega) (by omega)
/-- What may come of two lists, place for place. -/
def ResL (op : BinOp) (xs ys rs : List Nat) : Prop := rs.length ≤ xs.length ∧ rs.length ≤ ys.length ∧ ∀ i (h : i < rs.length) (h1 : i < xs.length) (h2 : i < ys.length), Res op xs[i] ys[i] rs[i]
theorem ResL.nil (op : BinOp) (xs ys : List Nat) : ResL op xs ys [] := ⟨Nat.zero_le _, Nat.zero_le _, fun i h => absurd h (by simp)⟩
theorem ResL.snoc {op : BinOp} {xs ys rs : List Nat} {r k : Nat} (h : ResL op xs ys rs) (hk : rs.length = k) (h1 : k < xs.length) (h2 : k < ys.length) (hr : Res op xs[k] ys[k] r) : ResL op xs ys (rs ++ [r]) := by
  obtain ⟨a, b, c⟩ := h
  refine ⟨by simp; omega, by simp; omega, fun i hi h1' h2' => ?_⟩
  simp at hi
  by_cases e : i = k
  · subst e
    rw [List.getElem_append_right (by omega)]
    simpa [hk] using hr
  · rw [List.getElem_append_left (by omega)]
    exact c i (by omega) h1' h2'
theorem ResL.same {op : BinOp} {xs ys rs xs' ys' rs' : List Nat} (h : ResL op xs ys rs) (h' : ResL op xs' ys' rs') (hx : SmL xs xs') (hy : SmL ys ys') (hl : rs.length = rs'.length) : SmL rs rs' := by
  obtain ⟨a, b, c⟩ := h
  obtain ⟨a', b', c'⟩ := h'
  exact ⟨hl, fun i h1 h2 => Res.same (hx.2 i (by omega) (by omega)) (hy.2 i (by omega) (by omega)) (c i h1 (by omega) (by omega)) (c' i h2 (by omega) (by omega))⟩
def marksFrom (k0 n : Nat) : List Nat := (List.range n).map fun (i : Nat) => floatOfInt .f32 ((k0 : Int) + (i : Int))
theorem marksFrom_len (k0 n : Nat) : (marksFrom k0 n).length = n := by simp [marksFrom]
theorem marksFrom_get (k0 n i : Nat) (h : i < (marksFrom k0 n).length) : (marksFrom k0 n)[i] = floatOfInt .f32 ((k0 : Int) + (i : Int)) := by simp [marksFrom]
def MarkFrom (k0 base : Nat) (v : Value) (n : Nat) (w : World) (e : Ending) (w' : World) : Prop := e = .returned (.int .i64 ((k0 : Int) + (n : Int))) ∧ FNew w' base v (marksFrom k0 n) ∧ w.grownBy w' v.ownBlock
theorem MarkFrom.mk {k0 base : Nat} {v : Value} {n : Nat} {w w' : World} {m : Int} (hm : m = (k0 : Int) + (n : Int)) (h : FNew w' base v (marksFrom k0 n)) (hg : w.grownBy w' v.ownBlock) : MarkFrom k0 base v n w (.returned (.int .i64 m)) w' := ⟨by rw [hm], h, hg⟩
set_option maxHeartbeats 2000000 in
theorem markFrom_any (k0 base : Nat) (v : Value) (xs : List Nat) (w : World) (h : FNew w base v xs) (hl : xs.length ≤ 1000000000) (hk0 : k0 ≤ 1000000000) :
    Calls Tryz.prog 20 #[v, .int .i64 (k0 : Int)] w fun e w' => MarkFrom k0 base v xs.length w e w' := by
  rcases h with ⟨rfl, rfl⟩ | ⟨g, cap, rfl, hbase, hcap, hm⟩
  · go_enter Tryz.func20, Tryz.ntmps20
    go_wp2
    go_loop [1, 5] (fun kk i => kk = .int .i64 (k0 : Int) ∧ i = .int .i64 0) (fun _ _ => 0)
    case atStart => exact ⟨rfl, rfl⟩
    case round =>
      obtain ⟨rfl, rfl⟩ := hrel
      go_wp2
      go_ret
      exact MarkFrom.mk (by simp) (FNew.nil _ _) (World.grownBy.refl _ _)
  · have HST := Lib.hid (hm.zero (ys := marksFrom k0 xs.length))
    clear hm
    go_enter Tryz.func20, Tryz.ntmps20
    go_wp2
    go_loopw [1, 5] (fun kk i wr => ∃ k : Nat, k ≤ xs.length ∧ i = .int .i64 (k : Int) ∧ kk = .int .i64 ((k0 : Int) + (k : Int)) ∧ w.grownBy wr (some g) ∧ MadeF wr g xs.length k (marksFrom k0 xs.length)) (fun _ i _ => xs.length - (intOf i).toNat)
    case atStart => exact ⟨0, Nat.zero_le _, rfl, by simp, World.grownBy.refl _ _, HST.out⟩
    case round =>
      obtain ⟨k, hk, rfl, rfl, hg, hm⟩ := hrel
      have HM := Lib.hid hm
      clear hm HST
      by_cases hlt : k < xs.length
      · obtain ⟨⟨x0, hx0⟩, hf0⟩ := HM.out.at k hlt
        have hlm : k < (marksFrom k0 xs.length).length := by rw [marksFrom_len]; exact hlt
        have hm3 := HM.out.step hlm (by rw [marksFrom_len]; exact Nat.le_refl _)
        rw [marksFrom_get] at hm3
        have HM3 := Lib.hid hm3
        have hg3 := hg.trans (Lib.grownBy_setCell wr g k (.float .f32 (floatOfInt .f32 ((k0 : Int) + (k : Int)))))
        clear hm3
        go_wp2
        go_roundw
        case rel => exact ⟨k + 1, by omega, by go_num, by first | (go_num; done) | (congr 1; omega) | (congr 1), hg3, HM3.out⟩
        case measure => simp [intOf]; omega
      · have hkk : k = xs.length := by omega
        subst hkk
        go_wp2
        go_ret
        exact MarkFrom.mk rfl (.inr ⟨g, cap, by rw [marksFrom_len], hbase, by rw [marksFrom_len]; exact hcap, by rw [marksFrom_len]; exact HM.out⟩) hg
def addOk (xs ys : List Nat) : Bool := decide (xs.length = ys.length) && decide (xs.length ≤ 256)
def AddR (xs ys rs : List Nat) : Prop := if addOk xs ys = true then rs.length = xs.length ∧ ResL .add xs ys rs else rs = []
theorem AddR.same {xs ys rs rs' : List Nat} (h : AddR xs ys rs) (h' : AddR xs ys rs') : SmL rs rs' := by
  unfold AddR at h h'
  split at h
  · rw [if_pos (by assumption)] at h'
    exact ResL.same h.2 h'.2 (SmL.refl _) (SmL.refl _) (by rw [h.1, h'.1])
  · rw [if_neg (by assumption)] at h'
    rw [h, h']; exact SmL.refl _
theorem AddR.len {xs ys rs : List Nat} (h : AddR xs ys rs) : rs.length ≤ xs.length := by
  unfold AddR at h
  split at h
  · omega
  · rw [h]; simp
theorem AddR.no {xs ys : List Nat} (h : addOk xs ys = false) : AddR xs ys [] := by unfold AddR; rw [h]; simp
theorem AddR.yes {xs ys rs : List Nat} (h : addOk xs ys = true) (h1 : rs.length = xs.length) (h2 : ResL .add xs ys rs) : AddR xs ys rs := by unfold AddR; rw [h]; simpa using ⟨h1, h2⟩
end Go.Proofs.YtobpnoiienpipaaGreat

/-
  What is proved: the walks of Brightness and Colouring.
  Conditions: the list can be read; at most 4000000 numbers.
-/
namespace Go.Proofs.YtobpnoiienpipaaGreat
set_option linter.unusedVariables false
open Go.RowKit
attribute [local go_sem] run_store_float run_store_complex unary_negf neg256

/-- Each sample replaced by its cell's brightness. -/
def spread (cs : List C3) : List Nat := cs.flatMap fun c => [c.1, c.1, c.1, c.1]
theorem spread_len (cs : List C3) : (spread cs).length = 4 * cs.length := by
  induction cs with
  | nil => rfl
  | cons c cs ih => simp only [spread, List.flatMap_cons, List.length_append, List.length_cons, List.length_nil] at ih ⊢; omega
/-- What Brightness may answer. -/
def BrightR (xs ys : List Nat) (ok : Bool) : Prop := ∃ cs, (xs.length % 4 = 0 → DecL xs cs) ∧ (xs.length % 4 ≠ 0 → cs = []) ∧ ok = rok cs ∧ ys = if rok cs = true then spread cs else []
def AnsB (R : List Nat → Bool → Prop) (w : World) (e : Ending) (w' : World) : Prop := ∃ v ys ok, e = .returned (.tuple #[v, .bool ok]) ∧ R ys ok ∧ FNew w' w.heap.size v ys ∧ Below w.heap.size w w'
theorem AnsB.mk {R : List Nat → Bool → Prop} {w w' : World} {v : Value} {ys : List Nat} {ok : Bool} (hr : R ys ok) (h : FNew w' w.heap.size v ys) (hb : Below w.heap.size w w') : AnsB R w (.returned (.tuple #[v, .bool ok])) w' := ⟨v, ys, ok, rfl, hr, h, hb⟩
theorem BrightR.len {xs ys : List Nat} (h : BrightR xs ys true) : ys.length = xs.length := by
  obtain ⟨cs, h1, h2, h3, h4⟩ := h
  rw [← h3, if_pos rfl] at h4
  have hm4 : xs.length % 4 = 0 := by
    by_cases h : xs.length % 4 = 0
    · exact h
    · rw [h2 h] at h3; cases h3
  rw [h4, spread_len, (h1 hm4).1]
end Go.Proofs.YtobpnoiienpipaaGreat

/-
  What is proved: the walk of the model's DecodeCells.
  Conditions: the list can be read; at most 4000000 numbers.
-/
namespace Go.Proofs.YtobpnoiienpipaaGreat
set_option linter.unusedVariables false
open Go.RowKit
attribute [local go_sem] run_store_float run_store_complex unary_negf neg256

theorem conjD_any (u v : Nat) (w : World) :
    Calls Tryz.prog 106 #[.complex .f32 u v] w fun e w' => e = .returned (.complex .f32 u (Op.negFloat .f32 v)) ∧ w = w' := by
  go_enter Tryz.func106, Tryz.ntmps106
  go_wp2
  go_ret
  exact ⟨rfl, rfl⟩
/-- Some list of cells that the samples may tell. -/
theorem some_dec (xs : List Nat) : ∀ m, ∃ cs : List C3, cs.length = m ∧ Fit cs ∧ ∀ i (h : i < cs.length), four xs i cs[i]
  | 0 => ⟨[], rfl, (by intro c hc; cases hc), fun i h => absurd h (by simp)⟩
  | m + 1 => by
    obtain ⟨cs, h1, h2, h3⟩ := some_dec xs m
    obtain ⟨fa, ga, _, HA⟩ := res_fun .add (.inl rfl)
    obtain ⟨fs, gs, _, HS⟩ := res_fun .sub (.inr (.inl rfl))
    obtain ⟨fq, gq, _, HQ⟩ := res_fun .quo (.inr (.inr (.inr rfl)))
    have W : World := default
    have hc : four xs m (fq (fa (fa (fa (xs.getD (4 * m) 0) (xs.getD (4 * m + 1) 0) W) (xs.getD (4 * m + 2) 0) W) (xs.getD (4 * m + 3) 0) W) 1082130432 W, fq (fs (xs.getD (4 * m) 0) (xs.getD (4 * m + 2) 0) W) 1073741824 W, fq (fs (xs.getD (4 * m + 3) 0) (xs.getD (4 * m + 1) 0) W) 1073741824 W) :=
      ⟨⟨_, _, _, (HA _ _ W).1, (HA _ _ W).1, (HA _ _ W).1, (HQ _ _ W).1⟩, ⟨_, (HS _ _ W).1, (HQ _ _ W).1⟩, ⟨_, (HS _ _ W).1, (HQ _ _ W).1⟩, (HQ _ _ W).2, (HQ _ _ W).2, (HQ _ _ W).2⟩
    obtain ⟨c, hc⟩ : ∃ c, four xs m c := ⟨_, hc⟩
    refine ⟨cs ++ [c], by simp [h1], ?_, fun i hi => ?_⟩
    · intro c h
      rcases List.mem_append.1 h with h | h
      · exact h2 c h
      · obtain rfl := List.mem_singleton.1 h; exact hc.2.2.2
    · by_cases hlt : i < cs.length
      · rw [List.getElem_append_left hlt]; exact h3 i hlt
      · have e : i = m := by simp at hi; omega
        subst e
        rw [List.getElem_append_right (by omega)]
        simpa [h1] using hc
theorem rok_cj_eq {cs : List C3} (hf : Fit cs) : rok (cs.map cj) = rok cs := by
  cases h : rok cs with
  | true => exact rok_cj hf h
  | false =>
    cases h2 : rok (cs.map cj) with
    | false => rfl
    | true =>
      have hf2 : Fit (cs.map cj) := by
        intro c hc
        obtain ⟨d, hd, rfl⟩ := List.mem_map.1 hc
        exact ⟨(hf d hd).1, (hf d hd).2.1, Flt.neg_lt32 (hf d hd).2.2⟩
      have := rok_cj hf2 h2
      rw [cj_cj, h] at this
      cases this
set_option maxHeartbeats 2000000 in
theorem l03Take_any (g o L cap I : Nat) (s t u v : Nat) (w : World) (hI : I + 4 ≤ L) (hLc : L ≤ cap) (hL : L ≤ 1000000000)
    (m0 : w.cell? ⟨g, o + I, none⟩ = some (.float .f32 s)) (m1 : w.cell? ⟨g, o + (I + 1), none⟩ = some (.float .f32 t)) (m2 : w.cell? ⟨g, o + (I + 2), none⟩ = some (.float .f32 u)) (m3 : w.cell? ⟨g, o + (I + 3), none⟩ = some (.float .f32 v)) :
    Calls Tryz.prog 156 #[.slice (some ⟨g, o, none⟩) L cap, .int .i64 (I : Int)] w fun e w' => CellR (DecR s t u v) w e w' := by
  have hA := (Below.refl w.heap.size w).alloc (Nat.le_refl _) (.cells #[.float .f32 0, .complex .f32 0 0] 61)
  have hnew := heap_alloc_new w (.cells #[.float .f32 0, .complex .f32 0 0] 61)
  have k0 := (grown_of hA).cell m0 (by simp)
  have k1 := (grown_of hA).cell m1 (by simp)
  have k2 := (grown_of hA).cell m2 (by simp)
  have k3 := (grown_of hA).cell m3 (by simp)
  have HN := Lib.hid hnew
  have HA := Lib.hid hA
  clear m0 m1 m2 m3 hA
  have c0 : (w.alloc (.cells #[.float .f32 0, .complex .f32 0 0] 61)).cell? ⟨w.heap.size, 0, none⟩ = some (.float .f32 0) := (show ∀ W : World, W.heap[w.heap.size]? = some (.cells #[.float .f32 0, .complex .f32 0 0] 61 (0, 0)) → W.cell? ⟨w.heap.size, 0, none⟩ = some (.float .f32 0) from fun W h => by simp [World.cell?, h]) _ HN.out
  have c1 : (w.alloc (.cells #[.float .f32 0, .complex .f32 0 0] 61)).cell? ⟨w.heap.size, 1, none⟩ = some (.complex .f32 0 0) := (show ∀ W : World, W.heap[w.heap.size]? = some (.cells #[.float .f32 0, .complex .f32 0 0] 61 (0, 0)) → W.cell? ⟨w.heap.size, 1, none⟩ = some (.complex .f32 0 0) from fun W h => by simp [World.cell?, h]) _ HN.out
  have f0 : (w.alloc (.cells #[.float .f32 0, .complex .f32 0 0] 61)).frozen? ⟨w.heap.size, 0, none⟩ = false := (show ∀ W : World, W.heap[w.heap.size]? = some (.cells #[.float .f32 0, .complex .f32 0 0] 61 (0, 0)) → W.frozen? ⟨w.heap.size, 0, none⟩ = false from fun W h => by simp [World.frozen?, h]) _ HN.out
  have f1 : (w.alloc (.cells #[.float .f32 0, .complex .f32 0 0] 61)).frozen? ⟨w.heap.size, 1, none⟩ = false := (show ∀ W : World, W.heap[w.heap.size]? = some (.cells #[.float .f32 0, .complex .f32 0 0] 61 (0, 0)) → W.frozen? ⟨w.heap.size, 1, none⟩ = false from fun W h => by simp [World.frozen?, h]) _ HN.out
  clear hnew
  obtain ⟨r1, n1, e1, R1, B1⟩ := run_res .add (.inl rfl) s t (w.alloc (.cells #[.float .f32 0, .complex .f32 0 0] 61))
  have HR1 := Lib.hid (And.intro R1 B1)
  clear R1 B1
  obtain ⟨r2, n2, e2, R2, B2⟩ := run_res .add (.inl rfl) r1 u ((w.alloc (.cells #[.float .f32 0, .complex .f32 0 0] 61)).drewN (n1))
  rw [drewN_addD] at e2
  have HR2 := Lib.hid (And.intro R2 B2)
  clear R2 B2
  obtain ⟨r3, n3, e3, R3, B3⟩ := run_res .add (.inl rfl) r2 v ((w.alloc (.cells #[.float .f32 0, .complex .f32 0 0] 61)).drewN (n1 + n2))
  rw [drewN_addD] at e3
  have HR3 := Lib.hid (And.intro R3 B3)
  clear R3 B3
  obtain ⟨y, n4, e4, R4, B4⟩ := run_res .quo (.inr (.inr (.inr rfl))) r3 1082130432 ((w.alloc (.cells #[.float .f32 0, .complex .f32 0 0] 61)).drewN (n1 + n2 + n3))
  rw [drewN_addD] at e4
  have HR4 := Lib.hid (And.intro R4 B4)
  clear R4 B4
  obtain ⟨d1, n5, e5, R5, B5⟩ := run_res .sub (.inr (.inl rfl)) s u ((w.alloc (.cells #[.float .f32 0, .complex .f32 0 0] 61)).drewN (n1 + n2 + n3 + n4))
  rw [drewN_addD] at e5
  have HR5 := Lib.hid (And.intro R5 B5)
  clear R5 B5
  obtain ⟨p, n6, e6, R6, B6⟩ := run_res .quo (.inr (.inr (.inr rfl))) d1 1073741824 ((w.alloc (.cells #[.float .f32 0, .complex .f32 0 0] 61)).drewN (n1 + n2 + n3 + n4 + n5))
  rw [drewN_addD] at e6
  have HR6 := Lib.hid (And.intro R6 B6)
  clear R6 B6
  obtain ⟨d2, n7, e7, R7, B7⟩ := run_res .sub (.inr (.inl rfl)) v t ((w.alloc (.cells #[.float .f32 0, .complex .f32 0 0] 61)).drewN (n1 + n2 + n3 + n4 + n5 + n6))
  rw [drewN_addD] at e7
  have HR7 := Lib.hid (And.intro R7 B7)
  clear R7 B7
  obtain ⟨q, n8, e8, R8, B8⟩ := run_res .quo (.inr (.inr (.inr rfl))) d2 1073741824 ((w.alloc (.cells #[.float .f32 0, .complex .f32 0 0] 61)).drewN (n1 + n2 + n3 + n4 + n5 + n6 + n7))
  rw [drewN_addD] at e8
  have HR8 := Lib.hid (And.intro R8 B8)
  clear R8 B8
  have hB2 := heap_put (i := 1) (v := .complex .f32 p q) (heap_put (i := 0) (v := .float .f32 y) (w := (w.alloc (.cells #[.float .f32 0, .complex .f32 0 0] 61)).drewN (n1 + n2 + n3 + n4 + n5 + n6 + n7 + n8)) HN.out)
  have hz := ((belowDN HA.out (n1 + n2 + n3 + n4 + n5 + n6 + n7 + n8)).setCell (p := ⟨w.heap.size, 0, none⟩) (Nat.le_refl _) (.float .f32 y)).setCell (p := ⟨w.heap.size, 1, none⟩) (Nat.le_refl _) (.complex .f32 p q)
  have HB2 := Lib.hid hB2
  have HZ := Lib.hid hz
  clear hB2 hz
  go_enter Tryz.func156, Tryz.ntmps156
  go_wp2
  generalize (((((w.alloc (.cells #[.float .f32 0, .complex .f32 0 0] 61)).drewN (n1 + n2 + n3 + n4 + n5 + n6 + n7 + n8)).setCell ⟨w.heap.size, 0, none⟩ (.float .f32 y)).setCell ⟨w.heap.size, 1, none⟩ (.complex .f32 p q))) = wz at *
  have d0 : wz.cell? ⟨w.heap.size, 0, none⟩ = some (.float .f32 y) := by have := HB2.out; simp [World.cell?, this]
  have d1' : wz.cell? ⟨w.heap.size, 1, none⟩ = some (.complex .f32 p q) := by have := HB2.out; simp [World.cell?, this]
  refine bodyPost_ret (v := .agg #[.float .f32 y, .complex .f32 p q]) ?_ rfl (CellR.mk ⟨⟨r1, r2, r3, HR1.out.1, HR2.out.1, HR3.out.1, HR4.out.1⟩, ⟨d1, HR5.out.1, HR6.out.1⟩, ⟨d2, HR7.out.1, HR8.out.1⟩, HR4.out.2, HR6.out.2, HR8.out.2⟩ HZ.out)
  simp [results, Tryz.results156, go_sem, d0, d1']

theorem rok_long {cs : List C3} (h : 64 < cs.length) : rok cs = false := by
  cases h2 : rok cs with
  | false => rfl
  | true => have := (rok_iff.1 h2).1.2; omega
/-- What stands at the head of a round. -/
structure SD (xs : List Nat) (odd : Bool) (w wr : World) (I gg cc n : Nat) (cs : List C3) : Prop where
  len : I = 4 * cs.length
  num : n = cs.length
  fit : Fit cs
  fours : ∀ i (h : i < cs.length), four xs i cs[i]
  own : OwnC wr w.heap.size (.slice (some ⟨gg, 0, none⟩) n cc) (if odd = true then cs.map cj else cs)
  below : Below w.heap.size w wr
  sz : w.heap.size < wr.heap.size
theorem SD.next {xs : List Nat} {odd : Bool} {w wr w2 : World} {I gg cc n : Nat} {cs : List C3} (h : SD xs odd w wr I gg cc n cs) (hb : Below wr.heap.size wr w2) : SD xs odd w w2 I gg cc n cs :=
  ⟨h.len, h.num, h.fit, h.fours, h.own.kept (grown_of hb) (.inr (by intro e; cases e)), below_trans h.below hb h.below.size, Nat.lt_of_lt_of_le h.sz hb.size⟩
theorem four_of {xs : List Nat} {I k : Nat} {c : C3} (hk : I = 4 * k) (h4 : I + 4 ≤ xs.length) (h : DecR (xs[I]'(by omega)) (xs[I + 1]'(by omega)) (xs[I + 2]'(by omega)) (xs[I + 3]'(by omega)) c) : four xs k c := by
  subst hk
  unfold four
  have e : ∀ j (h : j < xs.length), xs.getD j 0 = xs[j] := fun j h => by simp [List.getD, h]
  rw [e _ (by omega), e _ (by omega), e _ (by omega), e _ (by omega)]
  exact h
theorem SD.snoc {xs : List Nat} {odd : Bool} {w w2 w6 : World} {I gg cc n g6 cap6 : Nat} {cs D : List C3} {c d : C3} (o : Obj) (o' : Obj) (h : SD xs odd w w2 I gg cc n cs) (hD : D = if odd = true then cs.map cj else cs) (hd : d = if odd = true then cj c else c) (hc : four xs cs.length c)
    (ho : OwnC w6 w.heap.size (.slice (some ⟨g6, 0, none⟩) (D.length + [d].length) cap6) (D ++ [d])) (hg : ((w2.alloc o).alloc o').grownBy w6 (Value.slice (some ⟨gg, 0, none⟩) n cc).ownBlock) : SD xs odd w w6 (I + 4) g6 cap6 (cs.length + 1) (cs ++ [c]) := by
  have hDl : D.length = cs.length := by subst hD; split <;> simp
  have hb : Below w.heap.size w ((w2.alloc o).alloc o') := (h.below.alloc h.below.size o).alloc (Nat.le_trans h.below.size (by simp)) o'
  have hs : w.heap.size < ((w2.alloc o).alloc o').heap.size := Nat.lt_of_lt_of_le h.sz (by simp; omega)
  refine ⟨by simp [h.len]; omega, by simp, ?_, ?_, ?_, hb.grown hg (Nat.le_of_lt hs) (fun r hr => (h.own.lt r hr).1), Nat.lt_of_lt_of_le hs hg.size⟩
  · intro q hq
    rcases List.mem_append.1 hq with hq | hq
    · exact h.fit q hq
    · obtain rfl := List.mem_singleton.1 hq; exact hc.2.2.2
  · intro i hi
    by_cases hlt : i < cs.length
    · rw [List.getElem_append_left hlt]; exact h.fours i hlt
    · have e : i = cs.length := by simp at hi; omega
      subst e
      simpa using hc
  · have e : (if odd = true then (cs ++ [c]).map cj else cs ++ [c]) = D ++ [d] := by
      subst hD hd
      cases odd <;> simp
    rw [e]
    rw [hDl] at ho
    exact ho
theorem row_litD (w : World) (o : Obj) (y u v : Nat) : RowV ((w.alloc o).alloc (.cells #[.float .f32 y, .complex .f32 u v] 61)) (.slice (some ⟨w.heap.size + 1, 0, none⟩) 1 1) [(y, u, v)] := by
  have := row_lit (w.alloc o) y u v
  rwa [World.size_alloc] at this
theorem DecPost.mk' {xs : List Nat} {odd t : Bool} {w w' : World} {v : Value} {cs : List C3} (hm : xs.length % 4 = 0) (hd : DecL xs cs) (hf : Fit cs) (ht : rok cs = t) (hr : RNew w' w.heap.size v (if t = true then (if odd = true then cs.map cj else cs) else [])) (hb : Below w.heap.size w w') : DecPost xs odd w (.returned (.tuple #[v, .bool t])) w' := by
  subst ht
  exact ⟨v, cs, fun _ => hd, fun h => absurd hm h, hf, rfl, hr, hb⟩
theorem SD.decL {xs : List Nat} {odd : Bool} {w wr : World} {gg cc n : Nat} {cs : List C3} (h : SD xs odd w wr xs.length gg cc n cs) : DecL xs cs := ⟨h.len.symm, h.fours⟩
theorem SD.rok {xs : List Nat} {odd : Bool} {w wr : World} {I gg cc n : Nat} {cs : List C3} (h : SD xs odd w wr I gg cc n cs) : rok (if odd = true then cs.map cj else cs) = Proofs.YtobpnoiienpipaaGreat.rok cs := by
  cases odd
  · rfl
  · exact rok_cj_eq h.fit
set_option maxHeartbeats 4000000 in
theorem specDecode_any (v : Value) (xs : List Nat) (odd : Bool) (w : World) (h : FRow w v xs) (hl : xs.length ≤ 4000000) :
    Calls Tryz.prog 135 #[v, .bool odd] w fun e w' => DecPost xs odd w e w' := by
  obtain ⟨a, c, rfl, hcell⟩ := h.any
  have hbel := (Below.refl w.heap.size w).alloc (Nat.le_refl _) (.cells #[] 61)
  have HOW := Lib.hid (OwnC.made0 w)
  have hsz : w.heap.size < (w.alloc (.cells #[] 61)).heap.size := by simp
  have HC := Lib.hid hcell
  clear hcell h
  by_cases hm : xs.length % 4 = 0
  · have hmod : ((xs.length : Int) % 4 != 0) = false := by simp; omega
    by_cases h256 : xs.length ≤ 256
    · have HM := Lib.hid hm
      obtain ⟨m, hx⟩ : ∃ m, xs.length = 4 * m := ⟨xs.length / 4, by omega⟩
      have HX := Lib.hid hx
      clear hm hx
      go_enter Tryz.func135, Tryz.ntmps135
      go_wp2
      generalize w.alloc (.cells #[] 61) = w1 at *
      go_loopw [6, 7] (fun out i wr => ∃ (I gg cc n : Nat) (cs : List C3), i = .int .i64 (I : Int) ∧ out = .slice (some ⟨gg, 0, none⟩) n cc ∧ I ≤ xs.length ∧ SD xs odd w wr I gg cc n cs) (fun _ i _ => xs.length - (intOf i).toNat)
      case atStart => exact ⟨0, _, 0, 0, [], rfl, rfl, Nat.zero_le _, ⟨rfl, by cases odd <;> rfl, (by intro c hc; cases hc), (fun i h => absurd h (by simp)), by cases odd <;> exact HOW.out, hbel, hsz⟩⟩
      case round =>
        obtain ⟨I, gg, cc, n, cs, rfl, rfl, hI, hsd⟩ := hrel
        have HS := Lib.hid hsd
        have hn64 : n ≤ 64 := by have h1 := hsd.len; have h2 := hsd.num; omega
        have hszr := hsd.sz
        clear hsd HOW hbel
        by_cases hlt : I < xs.length
        · have hI4 : I + 4 ≤ xs.length := by have h1 := HX.out; have h2 := HS.out.len; omega
          obtain ⟨g, o, rfl, hcap, m0⟩ := HC.out I (by omega)
          obtain ⟨g1, o1, e1, _, m1⟩ := HC.out (I + 1) (by omega)
          obtain ⟨g2, o2, e2, _, m2⟩ := HC.out (I + 2) (by omega)
          obtain ⟨g3, o3, e3, _, m3⟩ := HC.out (I + 3) (by omega)
          cases e1
          cases e2
          cases e3
          have k0 := (grown_of HS.out.below).cell m0 (by simp)
          have k1 := (grown_of HS.out.below).cell m1 (by simp)
          have k2 := (grown_of HS.out.below).cell m2 (by simp)
          have k3 := (grown_of HS.out.below).cell m3 (by simp)
          have HT := Lib.hid (l03Take_any g o xs.length c I _ _ _ _ wr hI4 hcap (by omega) k0 k1 k2 k3)
          clear m0 m1 m2 m3 k0 k1 k2 k3
          go_wp2_with fail
          refine HT.out.mono ?_
          rintro e w2 ⟨⟨y, u, z⟩, rfl, hdec, hb2⟩
          have hs2 := HS.out.next hb2
          have HD := Lib.hid (four_of HS.out.len hI4 hdec)
          have HS2 := Lib.hid hs2
          have hsz2 := hs2.sz
          clear hdec hb2 hs2 HT HS
          cases odd with
          | false =>
            have HL := Lib.hid (row_litD w2 (.cells #[.float .f32 y, .complex .f32 u z] 61) y u z)
            have HO2 := Lib.hid (show OwnC w2 w.heap.size (.slice (some ⟨gg, 0, none⟩) n cc) cs from HS2.out.own)
            have HCL := Lib.hid (show cs.length ≤ 64 from by have h1 := HS2.out.num; omega)
            go_wp2_with (at_builtin; refine own_append rfl (.tmp 34) (.tmp 36) rfl w.heap.size _ cs [(y, u, z)] rfl ((HO2.out.alloc _).alloc _) _ _ _ rfl HL.out (by simp) (by have := HCL.out; simp; omega) (by simp; omega) ?_; intro g6 cap6 w6 ho6 hg6 hor6 hlt6)
            have HN := Lib.hid (HS2.out.snoc _ _ rfl rfl HD.out ho6 hg6)
            clear ho6 hg6 hor6 hlt6
            go_wp2
            go_roundw
            case rel => exact ⟨I + 4, g6, cap6, cs.length + 1, cs ++ [(y, u, z)], by go_num, by simp, hI4, HN.out⟩
            case measure => simp [intOf]; omega
          | true =>
            have HL := Lib.hid (row_litD w2 (.cells #[.float .f32 y, .complex .f32 u (Op.negFloat .f32 z)] 61) y u (Op.negFloat .f32 z))
            have HO2 := Lib.hid (show OwnC w2 w.heap.size (.slice (some ⟨gg, 0, none⟩) n cc) (cs.map cj) from HS2.out.own)
            have HCL := Lib.hid (show (cs.map cj).length ≤ 64 from by have h1 := HS2.out.num; simp; omega)
            go_wp2_with fail
            refine (conjD_any u z _).mono ?_
            rintro e w3 ⟨rfl, rfl⟩
            generalize hnz : Op.negFloat .f32 z = nz at *
            have HNZ := Lib.hid hnz
            clear hnz
            go_wp2_with (at_builtin; refine own_append rfl (.tmp 34) (.tmp 36) rfl w.heap.size _ (cs.map cj) [(y, u, nz)] rfl ((HO2.out.alloc _).alloc _) _ _ _ rfl HL.out (by simp) (by have := HCL.out; simp at *; omega) (by simp; omega) ?_; intro g6 cap6 w6 ho6 hg6 hor6 hlt6)
            have HN := Lib.hid (HS2.out.snoc (c := (y, u, z)) _ _ rfl (by simp [cj, HNZ.out]) HD.out ho6 hg6)
            clear ho6 hg6 hor6 hlt6
            go_wp2
            go_roundw
            case rel => exact ⟨I + 4, g6, cap6, cs.length + 1, cs ++ [(y, u, z)], by go_num, by simp, hI4, HN.out⟩
            case measure => simp [intOf]; omega
        · have hIx : I = xs.length := by omega
          subst hIx
          have HRO := Lib.hid (specRowOk_any _ _ wr HS.out.own.row (by have h1 := HS.out.num; split <;> simp <;> omega))
          rw [HS.out.rok] at HRO
          go_wp2_with fail
          refine HRO.out.mono ?_
          rintro e w2 ⟨rfl, hb2⟩
          have HBZ := Lib.hid (below_trans HS.out.below hb2 HS.out.below.size)
          have HNW := Lib.hid (HS.out.own.rnew.below hb2)
          cases hrk : rok cs with
          | false =>
            have HRK := Lib.hid hrk
            have HM0 := Lib.hid ((OwnC.made0 w2).rnew.mono HBZ.out.size)
            clear hrk hb2
            go_wp2
            go_ret2
            exact DecPost.mk' HM.out HS.out.decL HS.out.fit HRK.out HM0.out (HBZ.out.alloc HBZ.out.size _)
          | true =>
            have HRK := Lib.hid hrk
            clear hrk hb2
            go_wp2
            go_ret2
            exact DecPost.mk' HM.out HS.out.decL HS.out.fit HRK.out HNW.out HBZ.out
    · obtain ⟨cs, e1, e2, e3⟩ := some_dec xs (xs.length / 4)
      have HE := Lib.hid (And.intro e1 (And.intro e2 e3))
      have HRK := Lib.hid (rok_long (cs := cs) (by omega))
      have HN := Lib.hid HOW.out.rnew
      have HM := Lib.hid hm
      clear e1 e2 e3 hm
      go_enter Tryz.func135, Tryz.ntmps135
      go_wp2
      go_ret2
      refine ⟨_, cs, fun _ => ⟨by rw [HE.out.1]; have := HM.out; omega, HE.out.2.2⟩, fun h => absurd HM.out h, HE.out.2.1, by rw [HRK.out]; rfl, ?_, hbel⟩
      rw [HRK.out]
      exact HN.out
  · have hmod : ((xs.length : Int) % 4 != 0) = true := by simp; omega
    have HM := Lib.hid hm
    have HN := Lib.hid HOW.out.rnew
    clear hm
    go_enter Tryz.func135, Tryz.ntmps135
    go_wp2
    go_ret2
    exact ⟨_, [], fun h => absurd h HM.out, fun _ => rfl, (by intro c hc; cases hc), rfl, HN.out, hbel⟩
end Go.Proofs.YtobpnoiienpipaaGreat

/-
  What is proved: the walk of the model's AddSamples.
  Conditions: the lists can be read.
-/
namespace Go.Proofs.YtobpnoiienpipaaGreat
set_option linter.unusedVariables false
open Go.RowKit
attribute [local go_sem] run_store_float run_store_complex unary_negf neg256

end Go.Proofs.YtobpnoiienpipaaGreat
