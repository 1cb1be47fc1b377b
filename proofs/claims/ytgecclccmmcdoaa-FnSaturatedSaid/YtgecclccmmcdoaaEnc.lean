/-
  What is proved: the walk of the program's EncodeCells.
  Conditions: the row can be read; its bits fit.
-/
import Derived.Test.YtgecclccmmcdoaaFRow
import Derived.Test.YtgecclccmmcdoaaPkConj
import Derived.Test.YtgecclccmmcdoaaDrawRow
namespace Go.Proofs.Ytgecclccmmcdoaa
set_option linter.unusedVariables false
open Go.RowKit
attribute [local go_sem] run_store_float run_store_complex unary_negf neg256

def addv (x y : Nat) : Nat := (floatBits .add .f32 x y).getD 0
/-- The samples of a cell. -/
def enc4 (c : C3) : List Nat := [addv c.1 c.2.1, addv c.1 (Op.negFloat .f32 c.2.2), addv c.1 (Op.negFloat .f32 c.2.1), addv c.1 c.2.2]
def enc (cs : List C3) : List Nat := cs.flatMap enc4
theorem enc4_len (c : C3) : (enc4 c).length = 4 := rfl
theorem enc_len (cs : List C3) : (enc cs).length = 4 * cs.length := by
  induction cs with
  | nil => rfl
  | cons c cs ih => simp only [enc, List.flatMap_cons, List.length_append, List.length_cons, enc4_len] at ih ⊢; omega
theorem enc_append (cs ds : List C3) : enc (cs ++ ds) = enc cs ++ enc ds := by simp [enc]
theorem enc_one (c : C3) : enc [c] = enc4 c := by simp [enc]
theorem enc4_get (c : C3) (k : Nat) (h : k < (enc4 c).length) : (enc4 c)[k] = addv c.1 (carriedOf c.2.1 c.2.2 (k : Int)) := by
  have hk : k = 0 ∨ k = 1 ∨ k = 2 ∨ k = 3 := by rw [enc4_len] at h; omega
  rcases hk with rfl | rfl | rfl | rfl <;> rfl
theorem carried_fin {u v : Nat} (hu : u < 2 ^ 32) (hv : v < 2 ^ 32) (fu : Flt.fin u = true) (fv : Flt.fin v = true) (n : Int) : Flt.fin (carriedOf u v n) = true := by
  unfold carriedOf
  repeat' split
  · exact fu
  · exact Flt.fin_neg hv fv
  · exact Flt.fin_neg hu fu
  · exact fv
theorem addv_run {x y : Nat} (hx : Flt.fin x = true) (hy : Flt.fin y = true) : floatBits .add .f32 x y = some (addv x y) := by
  obtain ⟨r, hr, _⟩ := Flt.add_fin hx hy
  unfold addv
  rw [hr]; rfl

/-- Block b is an array of four floats; the first k are those of xs. -/
def ArrF (w : World) (b k : Nat) (xs : List Nat) : Prop :=
  ∃ cur : Array Value, w.heap[b]? = some (.cells cur 133 (0, 0)) ∧ cur.size = 4 ∧ ∀ i (h : i < xs.length), i < k → cur[i]? = some (.float .f32 xs[i])
theorem ArrF.step {w : World} {b k : Nat} {xs : List Nat} (h : ArrF w b k xs) (hn : k < xs.length) (hk : xs.length = 4) : ArrF (w.setCell ⟨b, k, none⟩ (.float .f32 xs[k])) b (k + 1) xs := by
  obtain ⟨cur, h1, h2, h3⟩ := h
  refine ⟨cur.setIfInBounds k (.float .f32 xs[k]), heapF h1, by simpa using h2, fun i hi hik => ?_⟩
  by_cases e : i = k
  · subst e
    rw [Array.getElem?_setIfInBounds, if_pos rfl, if_pos (by omega)]
  · rw [Array.getElem?_setIfInBounds, if_neg (by omega)]
    exact h3 i hi (by omega)
theorem ArrF.kept {w w' : World} {b k : Nat} {xs : List Nat} (h : ArrF w b k xs) (hb : w'.heap[b]? = w.heap[b]?) : ArrF w' b k xs := by
  obtain ⟨cur, h1, h2⟩ := h
  exact ⟨cur, hb.trans h1, h2⟩
theorem ArrF.at {w : World} {b k : Nat} {xs : List Nat} (h : ArrF w b k xs) (i : Nat) (hi : i < 4) : (∃ x, w.cell? ⟨b, i, none⟩ = some x) ∧ w.frozen? ⟨b, i, none⟩ = false := by
  obtain ⟨cur, h1, h2, _⟩ := h
  refine ⟨⟨cur[i]'(by omega), ?_⟩, ?_⟩
  · simp [World.cell?, h1, Array.getElem?_eq_getElem (show i < cur.size by omega)]
  · simp [World.frozen?, h1]
theorem ArrF.get {w : World} {b k : Nat} {xs : List Nat} (h : ArrF w b k xs) (i : Nat) (hi : i < xs.length) (hk : i < k) : w.cell? ⟨b, i, none⟩ = some (.float .f32 xs[i]) := by
  obtain ⟨cur, h1, h2, h3⟩ := h
  simp [World.cell?, h1, h3 i hi hk]
theorem ArrF.start (w : World) (xs : List Nat) : ArrF (w.alloc (.cells #[.float .f32 0, .float .f32 0, .float .f32 0, .float .f32 0] 133)) w.heap.size 0 xs :=
  ⟨_, heap_alloc_new w _, rfl, fun i h hi => by omega⟩
theorem arr_put4 {w : World} {b k : Nat} {xs : List Nat} (h : ArrF w b k xs) (x0 x1 x2 x3 : Value) :
    ((((w.setCell ⟨b, 0, none⟩ x0).setCell ⟨b, 1, none⟩ x1).setCell ⟨b, 2, none⟩ x2).setCell ⟨b, 3, none⟩ x3).cell? ⟨b, 0, none⟩ = some x0 ∧
    ((((w.setCell ⟨b, 0, none⟩ x0).setCell ⟨b, 1, none⟩ x1).setCell ⟨b, 2, none⟩ x2).setCell ⟨b, 3, none⟩ x3).cell? ⟨b, 1, none⟩ = some x1 ∧
    ((((w.setCell ⟨b, 0, none⟩ x0).setCell ⟨b, 1, none⟩ x1).setCell ⟨b, 2, none⟩ x2).setCell ⟨b, 3, none⟩ x3).cell? ⟨b, 2, none⟩ = some x2 ∧
    ((((w.setCell ⟨b, 0, none⟩ x0).setCell ⟨b, 1, none⟩ x1).setCell ⟨b, 2, none⟩ x2).setCell ⟨b, 3, none⟩ x3).cell? ⟨b, 3, none⟩ = some x3 := by
  obtain ⟨cur, h1, h2, _⟩ := h
  have hB := heap_put (i := 3) (v := x3) (heap_put (i := 2) (v := x2) (heap_put (i := 1) (v := x1) (heap_put (i := 0) (v := x0) h1)))
  have hc : ∀ i, i < 4 → ((((cur.setIfInBounds 0 x0).setIfInBounds 1 x1).setIfInBounds 2 x2).setIfInBounds 3 x3)[i]? = some (if i = 0 then x0 else if i = 1 then x1 else if i = 2 then x2 else x3) := by
    intro i hi
    have hi4 : i = 0 ∨ i = 1 ∨ i = 2 ∨ i = 3 := by omega
    rcases hi4 with rfl | rfl | rfl | rfl <;> simp [Array.getElem?_setIfInBounds, h2]
  refine ⟨?_, ?_, ?_, ?_⟩
  · have := hc 0 (by decide); simp only [World.cell?, hB]; exact this
  · have := hc 1 (by decide); simp only [World.cell?, hB]; exact this
  · have := hc 2 (by decide); simp only [World.cell?, hB]; exact this
  · have := hc 3 (by decide); simp only [World.cell?, hB]; exact this
def Arr4 (c : C3) : Value := .agg #[.float .f32 (addv c.1 c.2.1), .float .f32 (addv c.1 (Op.negFloat .f32 c.2.2)), .float .f32 (addv c.1 (Op.negFloat .f32 c.2.1)), .float .f32 (addv c.1 c.2.2)]
set_option maxHeartbeats 2000000 in
theorem encodedCell_any (y u v : Nat) (w : World) (hf : y < 2 ^ 32 ∧ u < 2 ^ 32 ∧ v < 2 ^ 32) (hok : okc y u v = true) :
    Calls Try.prog 132 #[.agg #[.float .f32 y, .complex .f32 u v]] w fun e w' => e = .returned (Arr4 (y, u, v)) ∧ Below w.heap.size w w' := by
  unfold okc at hok
  simp only [Bool.and_eq_true] at hok
  have HADD := Lib.hid (fun (n : Int) W => run_float_arith (P := Try.prog) W .add 26 .f32 y _ _ (addv_run hok.1 (carried_fin hf.2.1 hf.2.2 hok.2.1 hok.2.2 n)))
  have HCR := fun m W => Lib.hid (carried_any u v m W)
  clear hf hok
  have hb1 : Below w.heap.size w (((w.alloc (.cells #[.float .f32 y, .complex .f32 u v] 40)).alloc (.cells #[.float .f32 0, .float .f32 0, .float .f32 0, .float .f32 0] 133)).alloc (.cells #[.float .f32 0, .float .f32 0, .float .f32 0, .float .f32 0] 133)) := (((Below.refl _ _).alloc (Nat.le_refl _) _).alloc (by simp) _).alloc (by simp; omega) _
  have hs1 : (((w.alloc (.cells #[.float .f32 y, .complex .f32 u v] 40)).alloc (.cells #[.float .f32 0, .float .f32 0, .float .f32 0, .float .f32 0] 133)).alloc (.cells #[.float .f32 0, .float .f32 0, .float .f32 0, .float .f32 0] 133)).heap.size = w.heap.size + 3 := by simp
  have hc : (((w.alloc (.cells #[.float .f32 y, .complex .f32 u v] 40)).alloc (.cells #[.float .f32 0, .float .f32 0, .float .f32 0, .float .f32 0] 133)).alloc (.cells #[.float .f32 0, .float .f32 0, .float .f32 0, .float .f32 0] 133)).heap[w.heap.size]? = some (.cells #[.float .f32 y, .complex .f32 u v] 40 (0, 0)) := (Below.heap_alloc _ _ _ (by simp; omega)).trans ((Below.heap_alloc _ _ _ (by simp)).trans (heap_alloc_new w _))
  have har : ArrF (((w.alloc (.cells #[.float .f32 y, .complex .f32 u v] 40)).alloc (.cells #[.float .f32 0, .float .f32 0, .float .f32 0, .float .f32 0] 133)).alloc (.cells #[.float .f32 0, .float .f32 0, .float .f32 0, .float .f32 0] 133)) (w.heap.size + 1) 0 [] := by
    have := ArrF.start (w.alloc (.cells #[.float .f32 y, .complex .f32 u v] 40)) []
    rw [World.size_alloc] at this
    exact this.kept (Below.heap_alloc _ _ _ (by simp))
  have ha := ArrF.start ((w.alloc (.cells #[.float .f32 y, .complex .f32 u v] 40)).alloc (.cells #[.float .f32 0, .float .f32 0, .float .f32 0, .float .f32 0] 133)) (enc4 (y, u, v))
  rw [World.size_alloc, World.size_alloc] at ha
  have HC := Lib.hid hc
  have HA := Lib.hid ha
  have HAR0 := Lib.hid har
  have HB1 := Lib.hid hb1
  have HS1 := Lib.hid hs1
  clear hc ha hb1 hs1 har
  go_enter Try.func132, Try.ntmps132
  go_wp2
  generalize (((w.alloc (.cells #[.float .f32 y, .complex .f32 u v] 40)).alloc (.cells #[.float .f32 0, .float .f32 0, .float .f32 0, .float .f32 0] 133)).alloc (.cells #[.float .f32 0, .float .f32 0, .float .f32 0, .float .f32 0] 133)) = w1 at *
  go_loopw [5] (fun i wr => ∃ k : Nat, k ≤ 4 ∧ i = .int .i64 (k : Int) ∧ w1.grownBy wr (some (w.heap.size + 2)) ∧ ArrF wr (w.heap.size + 2) k (enc4 (y, u, v))) (fun i _ => 4 - (intOf i).toNat)
  case atStart => exact ⟨0, Nat.zero_le _, rfl, World.grownBy.refl _ _, HA.out⟩
  case round =>
    obtain ⟨k, hk, rfl, hg, har⟩ := hrel
    have HAR := Lib.hid har
    have HG := Lib.hid hg
    have hblk := (hg.block w.heap.size (by have := HS1.out; omega) (by intro e; have := Option.some.inj e; omega)).trans HC.out
    have m0 : wr.cell? ⟨w.heap.size, 0, none⟩ = some (.float .f32 y) := by simp [World.cell?, hblk]
    have m1 : wr.cell? ⟨w.heap.size, 1, none⟩ = some (.complex .f32 u v) := by simp [World.cell?, hblk]
    have HRES := Lib.hid (HAR0.out.kept (hg.block (w.heap.size + 1) (by have := HS1.out; omega) (by intro e; have := Option.some.inj e; omega)))
    have hsz := hg.size
    clear hg har HA hblk
    by_cases hlt : k < 4
    · have hadd := fun W => HADD.out (k : Int) W
      have hlm : k < (enc4 (y, u, v)).length := hlt
      obtain ⟨⟨x0, hx0⟩, hf0⟩ := HAR.out.at k hlt
      have HLM := Lib.hid hlm
      have hne : w.heap.size + 2 < wr.heap.size := by have := HS1.out; omega
      clear hlm
      go_wp2
      go_region_with (go_at_call 148; refine (HCR _ _).out.mono ?_; rintro e w2 ⟨rfl, hb2⟩; have hg2 : wr.grownBy w2 none := (grownN (World.grownBy.refl wr none) 1).trans (grown_of hb2); have q0 := hg2.cell m0 (by simp); have q1 := hg2.cell m1 (by simp); have q2 := hg2.cell hx0 (by simp); have hkp := hg2.block (w.heap.size + 2) hne (by simp); have har2 := HAR.out.kept hkp; have q3 := (har2.at k hlt).2)
      all_goals
        have hst := har2.step HLM.out rfl
        rw [enc4_get] at hst
        have HST := Lib.hid hst
        have hg3 := (grown_own HG.out hg2 (by intro r hr; cases hr)).trans (Lib.grownBy_setCell w2 (w.heap.size + 2) k (.float .f32 (addv y (carriedOf u v (k : Int)))))
        clear hst hkp har2 hg2 hb2
        go_wp2
        go_roundw
        case rel => exact ⟨k + 1, by omega, by go_num, hg3, HST.out⟩
        case measure => simp [intOf]; omega
    · have hk4 : k = 4 := by omega
      subst hk4
      have d0 := HAR.out.get 0 (show 0 < 4 by decide) (by decide)
      have d1 := HAR.out.get 1 (show 1 < 4 by decide) (by decide)
      have d2 := HAR.out.get 2 (show 2 < 4 by decide) (by decide)
      have d3 := HAR.out.get 3 (show 3 < 4 by decide) (by decide)
      obtain ⟨⟨x0, r0⟩, f0⟩ := HRES.out.at 0 (by decide)
      obtain ⟨⟨x1, r1⟩, f1⟩ := HRES.out.at 1 (by decide)
      obtain ⟨⟨x2, r2⟩, f2⟩ := HRES.out.at 2 (by decide)
      obtain ⟨⟨x3, r3⟩, f3⟩ := HRES.out.at 3 (by decide)
      have hfin := HB1.out.grown HG.out (by have := HS1.out; omega) (fun r hr => by cases hr; omega)
      have e0 : (enc4 (y, u, v))[0]'(show 0 < 4 by decide) = addv y u := rfl
      have e1 : (enc4 (y, u, v))[1]'(show 1 < 4 by decide) = addv y (Op.negFloat .f32 v) := rfl
      have e2 : (enc4 (y, u, v))[2]'(show 2 < 4 by decide) = addv y (Op.negFloat .f32 u) := rfl
      have e3 : (enc4 (y, u, v))[3]'(show 3 < 4 by decide) = addv y v := rfl
      rw [e0] at d0
      rw [e1] at d1
      rw [e2] at d2
      rw [e3] at d3
      clear e0 e1 e2 e3
      have hput := arr_put4 HRES.out (.float .f32 (addv y u)) (.float .f32 (addv y (Op.negFloat .f32 v))) (.float .f32 (addv y (Op.negFloat .f32 u))) (.float .f32 (addv y v))
      have hbel := (((hfin.setCell (p := ⟨w.heap.size + 1, 0, none⟩) (by simp) (.float .f32 (addv y u))).setCell (p := ⟨w.heap.size + 1, 1, none⟩) (by simp) (.float .f32 (addv y (Op.negFloat .f32 v)))).setCell (p := ⟨w.heap.size + 1, 2, none⟩) (by simp) (.float .f32 (addv y (Op.negFloat .f32 u)))).setCell (p := ⟨w.heap.size + 1, 3, none⟩) (by simp) (.float .f32 (addv y v))
      have HP := Lib.hid hput
      have HBL := Lib.hid hbel
      clear hput hbel
      go_wp2
      generalize ((((wr.setCell ⟨w.heap.size + 1, 0, none⟩ (.float .f32 (addv y u))).setCell ⟨w.heap.size + 1, 1, none⟩ (.float .f32 (addv y (Op.negFloat .f32 v)))).setCell ⟨w.heap.size + 1, 2, none⟩ (.float .f32 (addv y (Op.negFloat .f32 u)))).setCell ⟨w.heap.size + 1, 3, none⟩ (.float .f32 (addv y v))) = wz at *
      obtain ⟨z0, z1, z2, z3⟩ := HP.out
      refine bodyPost_ret (v := Arr4 (y, u, v)) ?_ rfl ⟨rfl, HBL.out⟩
      simp [results, Try.results132, go_sem, z0, z1, z2, z3, Arr4]
end Go.Proofs.Ytgecclccmmcdoaa
