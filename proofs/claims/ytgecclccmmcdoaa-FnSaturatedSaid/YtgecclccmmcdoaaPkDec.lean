/-
  What is proved: the walk of the model's DecodeCells.
  Conditions: the list can be read; at most 4000000 numbers.
-/
import Derived.Test.YtgecclccmmcdoaaPlain
import Derived.Deep.RegionHeld3
import Derived.Test.YtgecclccmmcdoaaPkGEq
import Derived.Deep.AppendLies
import Derived.Test.YtgecclccmmcdoaaPkEq
namespace Go.Proofs.Ytgecclccmmcdoaa
set_option linter.unusedVariables false
open Go.RowKit
attribute [local go_sem] run_store_float run_store_complex unary_negf neg256

theorem conjD_any (u v : Nat) (w : World) :
    Calls Try.prog 88 #[.complex .f32 u v] w fun e w' => e = .returned (.complex .f32 u (Op.negFloat .f32 v)) ∧ w = w' := by
  go_enter Try.func88, Try.ntmps88
  go_wp2
  go_ret
  exact ⟨rfl, rfl⟩
/-- Some list of cells that the samples may tell. -/
theorem some_dec (xs : List Nat) : ∀ m, ∃ cs : List C3, cs.length = m ∧ Fit cs ∧ ∀ i (h : i < cs.length), four xs i cs[i]
  | 0 => ⟨[], rfl, (by intro c hc; cases hc), fun i h => absurd h (by simp)⟩
  | m + 1 => by
    obtain ⟨cs, h1, h2, h3⟩ := some_dec xs m
    obtain ⟨fa, ga, _, HA⟩ := res_fun .add (.inl rfl)
    obtain ⟨fs, gs, _, HS⟩ := res_fun .sub (.inr (.inl rfl))
    obtain ⟨fq, gq, _, HQ⟩ := res_fun .quo (.inr (.inr (.inr rfl)))
    have W : World := default
    have hc : four xs m (fq (fa (fa (fa (xs.getD (4 * m) 0) (xs.getD (4 * m + 1) 0) W) (xs.getD (4 * m + 2) 0) W) (xs.getD (4 * m + 3) 0) W) 1082130432 W, fq (fs (xs.getD (4 * m) 0) (xs.getD (4 * m + 2) 0) W) 1073741824 W, fq (fs (xs.getD (4 * m + 3) 0) (xs.getD (4 * m + 1) 0) W) 1073741824 W) :=
      ⟨⟨_, _, _, (HA _ _ W).1, (HA _ _ W).1, (HA _ _ W).1, (HQ _ _ W).1⟩, ⟨_, (HS _ _ W).1, (HQ _ _ W).1⟩, ⟨_, (HS _ _ W).1, (HQ _ _ W).1⟩, (HQ _ _ W).2, (HQ _ _ W).2, (HQ _ _ W).2⟩
    obtain ⟨c, hc⟩ : ∃ c, four xs m c := ⟨_, hc⟩
    refine ⟨cs ++ [c], by simp [h1], ?_, fun i hi => ?_⟩
    · intro c h
      rcases List.mem_append.1 h with h | h
      · exact h2 c h
      · obtain rfl := List.mem_singleton.1 h; exact hc.2.2.2
    · by_cases hlt : i < cs.length
      · rw [List.getElem_append_left hlt]; exact h3 i hlt
      · have e : i = m := by simp at hi; omega
        subst e
        rw [List.getElem_append_right (by omega)]
        simpa [h1] using hc
theorem rok_cj_eq {cs : List C3} (hf : Fit cs) : rok (cs.map cj) = rok cs := by
  cases h : rok cs with
  | true => exact rok_cj hf h
  | false =>
    cases h2 : rok (cs.map cj) with
    | false => rfl
    | true =>
      have hf2 : Fit (cs.map cj) := by
        intro c hc
        obtain ⟨d, hd, rfl⟩ := List.mem_map.1 hc
        exact ⟨(hf d hd).1, (hf d hd).2.1, Flt.neg_lt32 (hf d hd).2.2⟩
      have := rok_cj hf2 h2
      rw [cj_cj, h] at this
      cases this
set_option maxHeartbeats 2000000 in
theorem l03Take_any (g o L cap I : Nat) (s t u v : Nat) (w : World) (hI : I + 4 ≤ L) (hLc : L ≤ cap) (hL : L ≤ 1000000000)
    (m0 : w.cell? ⟨g, o + I, none⟩ = some (.float .f32 s)) (m1 : w.cell? ⟨g, o + (I + 1), none⟩ = some (.float .f32 t)) (m2 : w.cell? ⟨g, o + (I + 2), none⟩ = some (.float .f32 u)) (m3 : w.cell? ⟨g, o + (I + 3), none⟩ = some (.float .f32 v)) :
    Calls Try.prog 124 #[.slice (some ⟨g, o, none⟩) L cap, .int .i64 (I : Int)] w fun e w' => CellR (DecR s t u v) w e w' := by
  have hA := (Below.refl w.heap.size w).alloc (Nat.le_refl _) (.cells #[.float .f32 0, .complex .f32 0 0] 40)
  have hnew := heap_alloc_new w (.cells #[.float .f32 0, .complex .f32 0 0] 40)
  have k0 := (grown_of hA).cell m0 (by simp)
  have k1 := (grown_of hA).cell m1 (by simp)
  have k2 := (grown_of hA).cell m2 (by simp)
  have k3 := (grown_of hA).cell m3 (by simp)
  have HN := Lib.hid hnew
  have HA := Lib.hid hA
  clear m0 m1 m2 m3 hA
  have c0 : (w.alloc (.cells #[.float .f32 0, .complex .f32 0 0] 40)).cell? ⟨w.heap.size, 0, none⟩ = some (.float .f32 0) := (show ∀ W : World, W.heap[w.heap.size]? = some (.cells #[.float .f32 0, .complex .f32 0 0] 40 (0, 0)) → W.cell? ⟨w.heap.size, 0, none⟩ = some (.float .f32 0) from fun W h => by simp [World.cell?, h]) _ HN.out
  have c1 : (w.alloc (.cells #[.float .f32 0, .complex .f32 0 0] 40)).cell? ⟨w.heap.size, 1, none⟩ = some (.complex .f32 0 0) := (show ∀ W : World, W.heap[w.heap.size]? = some (.cells #[.float .f32 0, .complex .f32 0 0] 40 (0, 0)) → W.cell? ⟨w.heap.size, 1, none⟩ = some (.complex .f32 0 0) from fun W h => by simp [World.cell?, h]) _ HN.out
  have f0 : (w.alloc (.cells #[.float .f32 0, .complex .f32 0 0] 40)).frozen? ⟨w.heap.size, 0, none⟩ = false := (show ∀ W : World, W.heap[w.heap.size]? = some (.cells #[.float .f32 0, .complex .f32 0 0] 40 (0, 0)) → W.frozen? ⟨w.heap.size, 0, none⟩ = false from fun W h => by simp [World.frozen?, h]) _ HN.out
  have f1 : (w.alloc (.cells #[.float .f32 0, .complex .f32 0 0] 40)).frozen? ⟨w.heap.size, 1, none⟩ = false := (show ∀ W : World, W.heap[w.heap.size]? = some (.cells #[.float .f32 0, .complex .f32 0 0] 40 (0, 0)) → W.frozen? ⟨w.heap.size, 1, none⟩ = false from fun W h => by simp [World.frozen?, h]) _ HN.out
  clear hnew
  obtain ⟨r1, n1, e1, R1, B1⟩ := run_res .add (.inl rfl) s t (w.alloc (.cells #[.float .f32 0, .complex .f32 0 0] 40))
  have HR1 := Lib.hid (And.intro R1 B1)
  clear R1 B1
  obtain ⟨r2, n2, e2, R2, B2⟩ := run_res .add (.inl rfl) r1 u ((w.alloc (.cells #[.float .f32 0, .complex .f32 0 0] 40)).drewN (n1))
  rw [drewN_addD] at e2
  have HR2 := Lib.hid (And.intro R2 B2)
  clear R2 B2
  obtain ⟨r3, n3, e3, R3, B3⟩ := run_res .add (.inl rfl) r2 v ((w.alloc (.cells #[.float .f32 0, .complex .f32 0 0] 40)).drewN (n1 + n2))
  rw [drewN_addD] at e3
  have HR3 := Lib.hid (And.intro R3 B3)
  clear R3 B3
  obtain ⟨y, n4, e4, R4, B4⟩ := run_res .quo (.inr (.inr (.inr rfl))) r3 1082130432 ((w.alloc (.cells #[.float .f32 0, .complex .f32 0 0] 40)).drewN (n1 + n2 + n3))
  rw [drewN_addD] at e4
  have HR4 := Lib.hid (And.intro R4 B4)
  clear R4 B4
  obtain ⟨d1, n5, e5, R5, B5⟩ := run_res .sub (.inr (.inl rfl)) s u ((w.alloc (.cells #[.float .f32 0, .complex .f32 0 0] 40)).drewN (n1 + n2 + n3 + n4))
  rw [drewN_addD] at e5
  have HR5 := Lib.hid (And.intro R5 B5)
  clear R5 B5
  obtain ⟨p, n6, e6, R6, B6⟩ := run_res .quo (.inr (.inr (.inr rfl))) d1 1073741824 ((w.alloc (.cells #[.float .f32 0, .complex .f32 0 0] 40)).drewN (n1 + n2 + n3 + n4 + n5))
  rw [drewN_addD] at e6
  have HR6 := Lib.hid (And.intro R6 B6)
  clear R6 B6
  obtain ⟨d2, n7, e7, R7, B7⟩ := run_res .sub (.inr (.inl rfl)) v t ((w.alloc (.cells #[.float .f32 0, .complex .f32 0 0] 40)).drewN (n1 + n2 + n3 + n4 + n5 + n6))
  rw [drewN_addD] at e7
  have HR7 := Lib.hid (And.intro R7 B7)
  clear R7 B7
  obtain ⟨q, n8, e8, R8, B8⟩ := run_res .quo (.inr (.inr (.inr rfl))) d2 1073741824 ((w.alloc (.cells #[.float .f32 0, .complex .f32 0 0] 40)).drewN (n1 + n2 + n3 + n4 + n5 + n6 + n7))
  rw [drewN_addD] at e8
  have HR8 := Lib.hid (And.intro R8 B8)
  clear R8 B8
  have hB2 := heap_put (i := 1) (v := .complex .f32 p q) (heap_put (i := 0) (v := .float .f32 y) (w := (w.alloc (.cells #[.float .f32 0, .complex .f32 0 0] 40)).drewN (n1 + n2 + n3 + n4 + n5 + n6 + n7 + n8)) HN.out)
  have hz := ((belowDN HA.out (n1 + n2 + n3 + n4 + n5 + n6 + n7 + n8)).setCell (p := ⟨w.heap.size, 0, none⟩) (Nat.le_refl _) (.float .f32 y)).setCell (p := ⟨w.heap.size, 1, none⟩) (Nat.le_refl _) (.complex .f32 p q)
  have HB2 := Lib.hid hB2
  have HZ := Lib.hid hz
  clear hB2 hz
  go_enter Try.func124, Try.ntmps124
  go_wp2
  generalize (((((w.alloc (.cells #[.float .f32 0, .complex .f32 0 0] 40)).drewN (n1 + n2 + n3 + n4 + n5 + n6 + n7 + n8)).setCell ⟨w.heap.size, 0, none⟩ (.float .f32 y)).setCell ⟨w.heap.size, 1, none⟩ (.complex .f32 p q))) = wz at *
  have d0 : wz.cell? ⟨w.heap.size, 0, none⟩ = some (.float .f32 y) := by have := HB2.out; simp [World.cell?, this]
  have d1' : wz.cell? ⟨w.heap.size, 1, none⟩ = some (.complex .f32 p q) := by have := HB2.out; simp [World.cell?, this]
  refine bodyPost_ret (v := .agg #[.float .f32 y, .complex .f32 p q]) ?_ rfl (CellR.mk ⟨⟨r1, r2, r3, HR1.out.1, HR2.out.1, HR3.out.1, HR4.out.1⟩, ⟨d1, HR5.out.1, HR6.out.1⟩, ⟨d2, HR7.out.1, HR8.out.1⟩, HR4.out.2, HR6.out.2, HR8.out.2⟩ HZ.out)
  simp [results, Try.results124, go_sem, d0, d1']

def specOkLen (xs : List Nat) : Bool := decide (xs.length % 4 = 0) && decide (xs.length ≤ 256)
theorem rok_long {cs : List C3} (h : 64 < cs.length) : rok cs = false := by
  cases h2 : rok cs with
  | false => rfl
  | true => have := (rok_iff.1 h2).1.2; omega
/-- What stands at the head of a round. -/
structure SD (xs : List Nat) (odd : Bool) (w wr : World) (I gg cc n : Nat) (cs : List C3) : Prop where
  len : I = 4 * cs.length
  num : n = cs.length
  fit : Fit cs
  fours : ∀ i (h : i < cs.length), four xs i cs[i]
  own : OwnC wr w.heap.size (.slice (some ⟨gg, 0, none⟩) n cc) (if odd = true then cs.map cj else cs)
  below : Below w.heap.size w wr
  sz : w.heap.size < wr.heap.size
theorem SD.next {xs : List Nat} {odd : Bool} {w wr w2 : World} {I gg cc n : Nat} {cs : List C3} (h : SD xs odd w wr I gg cc n cs) (hb : Below wr.heap.size wr w2) : SD xs odd w w2 I gg cc n cs :=
  ⟨h.len, h.num, h.fit, h.fours, h.own.kept (grown_of hb) (.inr (by intro e; cases e)), below_trans h.below hb h.below.size, Nat.lt_of_lt_of_le h.sz hb.size⟩
theorem four_of {xs : List Nat} {I k : Nat} {c : C3} (hk : I = 4 * k) (h4 : I + 4 ≤ xs.length) (h : DecR (xs[I]'(by omega)) (xs[I + 1]'(by omega)) (xs[I + 2]'(by omega)) (xs[I + 3]'(by omega)) c) : four xs k c := by
  subst hk
  unfold four
  have e : ∀ j (h : j < xs.length), xs.getD j 0 = xs[j] := fun j h => by simp [List.getD, h]
  rw [e _ (by omega), e _ (by omega), e _ (by omega), e _ (by omega)]
  exact h
theorem SD.snoc {xs : List Nat} {odd : Bool} {w w2 w6 : World} {I gg cc n g6 cap6 : Nat} {cs D : List C3} {c d : C3} (o : Obj) (o' : Obj) (h : SD xs odd w w2 I gg cc n cs) (hD : D = if odd = true then cs.map cj else cs) (hd : d = if odd = true then cj c else c) (hc : four xs cs.length c)
    (ho : OwnC w6 w.heap.size (.slice (some ⟨g6, 0, none⟩) (D.length + [d].length) cap6) (D ++ [d])) (hg : ((w2.alloc o).alloc o').grownBy w6 (Value.slice (some ⟨gg, 0, none⟩) n cc).ownBlock) : SD xs odd w w6 (I + 4) g6 cap6 (cs.length + 1) (cs ++ [c]) := by
  have hDl : D.length = cs.length := by subst hD; split <;> simp
  have hb : Below w.heap.size w ((w2.alloc o).alloc o') := (h.below.alloc h.below.size o).alloc (Nat.le_trans h.below.size (by simp)) o'
  have hs : w.heap.size < ((w2.alloc o).alloc o').heap.size := Nat.lt_of_lt_of_le h.sz (by simp; omega)
  refine ⟨by simp [h.len]; omega, by simp, ?_, ?_, ?_, hb.grown hg (Nat.le_of_lt hs) (fun r hr => (h.own.lt r hr).1), Nat.lt_of_lt_of_le hs hg.size⟩
  · intro q hq
    rcases List.mem_append.1 hq with hq | hq
    · exact h.fit q hq
    · obtain rfl := List.mem_singleton.1 hq; exact hc.2.2.2
  · intro i hi
    by_cases hlt : i < cs.length
    · rw [List.getElem_append_left hlt]; exact h.fours i hlt
    · have e : i = cs.length := by simp at hi; omega
      subst e
      simpa using hc
  · have e : (if odd = true then (cs ++ [c]).map cj else cs ++ [c]) = D ++ [d] := by
      subst hD hd
      cases odd <;> simp
    rw [e]
    rw [hDl] at ho
    exact ho
theorem row_litD (w : World) (o : Obj) (y u v : Nat) : RowV ((w.alloc o).alloc (.cells #[.float .f32 y, .complex .f32 u v] 40)) (.slice (some ⟨w.heap.size + 1, 0, none⟩) 1 1) [(y, u, v)] := by
  have := row_lit (w.alloc o) y u v
  rwa [World.size_alloc] at this
theorem DecPost.mk' {xs : List Nat} {odd t : Bool} {w w' : World} {v : Value} {cs : List C3} (hm : xs.length % 4 = 0) (hd : DecL xs cs) (hf : Fit cs) (ht : rok cs = t) (hr : RNew w' w.heap.size v (if t = true then (if odd = true then cs.map cj else cs) else [])) (hb : Below w.heap.size w w') : DecPost xs odd w (.returned (.tuple #[v, .bool t])) w' := by
  subst ht
  exact ⟨v, cs, fun _ => hd, fun h => absurd hm h, hf, rfl, hr, hb⟩
theorem SD.decL {xs : List Nat} {odd : Bool} {w wr : World} {gg cc n : Nat} {cs : List C3} (h : SD xs odd w wr xs.length gg cc n cs) : DecL xs cs := ⟨h.len.symm, h.fours⟩
theorem SD.rok {xs : List Nat} {odd : Bool} {w wr : World} {I gg cc n : Nat} {cs : List C3} (h : SD xs odd w wr I gg cc n cs) : rok (if odd = true then cs.map cj else cs) = Proofs.Ytgecclccmmcdoaa.rok cs := by
  cases odd
  · rfl
  · exact rok_cj_eq h.fit
set_option maxHeartbeats 4000000 in
theorem specDecode_any (v : Value) (xs : List Nat) (odd : Bool) (w : World) (h : FRow w v xs) (hl : xs.length ≤ 4000000) :
    Calls Try.prog 83 #[v, .bool odd] w fun e w' => DecPost xs odd w e w' := by
  obtain ⟨a, c, rfl, hcell⟩ := h.any
  have hbel := (Below.refl w.heap.size w).alloc (Nat.le_refl _) (.cells #[] 40)
  have HOW := Lib.hid (OwnC.made0 w)
  have hsz : w.heap.size < (w.alloc (.cells #[] 40)).heap.size := by simp
  have HC := Lib.hid hcell
  clear hcell h
  by_cases hm : xs.length % 4 = 0
  · have hmod : ((xs.length : Int) % 4 != 0) = false := by simp; omega
    by_cases h256 : xs.length ≤ 256
    · have HM := Lib.hid hm
      obtain ⟨m, hx⟩ : ∃ m, xs.length = 4 * m := ⟨xs.length / 4, by omega⟩
      have HX := Lib.hid hx
      clear hm hx
      go_enter Try.func83, Try.ntmps83
      go_wp2
      generalize w.alloc (.cells #[] 40) = w1 at *
      go_loopw [6, 7] (fun out i wr => ∃ (I gg cc n : Nat) (cs : List C3), i = .int .i64 (I : Int) ∧ out = .slice (some ⟨gg, 0, none⟩) n cc ∧ I ≤ xs.length ∧ SD xs odd w wr I gg cc n cs) (fun _ i _ => xs.length - (intOf i).toNat)
      case atStart => exact ⟨0, _, 0, 0, [], rfl, rfl, Nat.zero_le _, ⟨rfl, by cases odd <;> rfl, (by intro c hc; cases hc), (fun i h => absurd h (by simp)), by cases odd <;> exact HOW.out, hbel, hsz⟩⟩
      case round =>
        obtain ⟨I, gg, cc, n, cs, rfl, rfl, hI, hsd⟩ := hrel
        have HS := Lib.hid hsd
        have hn64 : n ≤ 64 := by have h1 := hsd.len; have h2 := hsd.num; omega
        have hszr := hsd.sz
        clear hsd HOW hbel
        by_cases hlt : I < xs.length
        · have hI4 : I + 4 ≤ xs.length := by have h1 := HX.out; have h2 := HS.out.len; omega
          obtain ⟨g, o, rfl, hcap, m0⟩ := HC.out I (by omega)
          obtain ⟨g1, o1, e1, _, m1⟩ := HC.out (I + 1) (by omega)
          obtain ⟨g2, o2, e2, _, m2⟩ := HC.out (I + 2) (by omega)
          obtain ⟨g3, o3, e3, _, m3⟩ := HC.out (I + 3) (by omega)
          cases e1
          cases e2
          cases e3
          have k0 := (grown_of HS.out.below).cell m0 (by simp)
          have k1 := (grown_of HS.out.below).cell m1 (by simp)
          have k2 := (grown_of HS.out.below).cell m2 (by simp)
          have k3 := (grown_of HS.out.below).cell m3 (by simp)
          have HT := Lib.hid (l03Take_any g o xs.length c I _ _ _ _ wr hI4 hcap (by omega) k0 k1 k2 k3)
          clear m0 m1 m2 m3 k0 k1 k2 k3
          go_wp2_with fail
          refine HT.out.mono ?_
          rintro e w2 ⟨⟨y, u, z⟩, rfl, hdec, hb2⟩
          have hs2 := HS.out.next hb2
          have HD := Lib.hid (four_of HS.out.len hI4 hdec)
          have HS2 := Lib.hid hs2
          have hsz2 := hs2.sz
          clear hdec hb2 hs2 HT HS
          cases odd with
          | false =>
            have HL := Lib.hid (row_litD w2 (.cells #[.float .f32 y, .complex .f32 u z] 40) y u z)
            have HO2 := Lib.hid (show OwnC w2 w.heap.size (.slice (some ⟨gg, 0, none⟩) n cc) cs from HS2.out.own)
            have HCL := Lib.hid (show cs.length ≤ 64 from by have h1 := HS2.out.num; omega)
            go_wp2_with (at_builtin; refine own_append rfl (.tmp 34) (.tmp 36) rfl w.heap.size _ cs [(y, u, z)] rfl ((HO2.out.alloc _).alloc _) _ _ _ rfl HL.out (by simp) (by have := HCL.out; simp; omega) (by simp; omega) ?_; intro g6 cap6 w6 ho6 hg6 hor6 hlt6)
            have HN := Lib.hid (HS2.out.snoc _ _ rfl rfl HD.out ho6 hg6)
            clear ho6 hg6 hor6 hlt6
            go_wp2
            go_roundw
            case rel => exact ⟨I + 4, g6, cap6, cs.length + 1, cs ++ [(y, u, z)], by go_num, by simp, hI4, HN.out⟩
            case measure => simp [intOf]; omega
          | true =>
            have HL := Lib.hid (row_litD w2 (.cells #[.float .f32 y, .complex .f32 u (Op.negFloat .f32 z)] 40) y u (Op.negFloat .f32 z))
            have HO2 := Lib.hid (show OwnC w2 w.heap.size (.slice (some ⟨gg, 0, none⟩) n cc) (cs.map cj) from HS2.out.own)
            have HCL := Lib.hid (show (cs.map cj).length ≤ 64 from by have h1 := HS2.out.num; simp; omega)
            go_wp2_with fail
            refine (conjD_any u z _).mono ?_
            rintro e w3 ⟨rfl, rfl⟩
            generalize hnz : Op.negFloat .f32 z = nz at *
            have HNZ := Lib.hid hnz
            clear hnz
            go_wp2_with (at_builtin; refine own_append rfl (.tmp 34) (.tmp 36) rfl w.heap.size _ (cs.map cj) [(y, u, nz)] rfl ((HO2.out.alloc _).alloc _) _ _ _ rfl HL.out (by simp) (by have := HCL.out; simp at *; omega) (by simp; omega) ?_; intro g6 cap6 w6 ho6 hg6 hor6 hlt6)
            have HN := Lib.hid (HS2.out.snoc (c := (y, u, z)) _ _ rfl (by simp [cj, HNZ.out]) HD.out ho6 hg6)
            clear ho6 hg6 hor6 hlt6
            go_wp2
            go_roundw
            case rel => exact ⟨I + 4, g6, cap6, cs.length + 1, cs ++ [(y, u, z)], by go_num, by simp, hI4, HN.out⟩
            case measure => simp [intOf]; omega
        · have hIx : I = xs.length := by omega
          subst hIx
          have HRO := Lib.hid (specRowOk_any _ _ wr HS.out.own.row (by have h1 := HS.out.num; split <;> simp <;> omega))
          rw [HS.out.rok] at HRO
          go_wp2_with fail
          refine HRO.out.mono ?_
          rintro e w2 ⟨rfl, hb2⟩
          have HBZ := Lib.hid (below_trans HS.out.below hb2 HS.out.below.size)
          have HNW := Lib.hid (HS.out.own.rnew.below hb2)
          cases hrk : rok cs with
          | false =>
            have HRK := Lib.hid hrk
            have HM0 := Lib.hid ((OwnC.made0 w2).rnew.mono HBZ.out.size)
            clear hrk hb2
            go_wp2
            go_ret2
            exact DecPost.mk' HM.out HS.out.decL HS.out.fit HRK.out HM0.out (HBZ.out.alloc HBZ.out.size _)
          | true =>
            have HRK := Lib.hid hrk
            clear hrk hb2
            go_wp2
            go_ret2
            exact DecPost.mk' HM.out HS.out.decL HS.out.fit HRK.out HNW.out HBZ.out
    · obtain ⟨cs, e1, e2, e3⟩ := some_dec xs (xs.length / 4)
      have HE := Lib.hid (And.intro e1 (And.intro e2 e3))
      have HRK := Lib.hid (rok_long (cs := cs) (by omega))
      have HN := Lib.hid HOW.out.rnew
      have HM := Lib.hid hm
      clear e1 e2 e3 hm
      go_enter Try.func83, Try.ntmps83
      go_wp2
      go_ret2
      refine ⟨_, cs, fun _ => ⟨by rw [HE.out.1]; have := HM.out; omega, HE.out.2.2⟩, fun h => absurd HM.out h, HE.out.2.1, by rw [HRK.out]; rfl, ?_, hbel⟩
      rw [HRK.out]
      exact HN.out
  · have hmod : ((xs.length : Int) % 4 != 0) = true := by simp; omega
    have HM := Lib.hid hm
    have HN := Lib.hid HOW.out.rnew
    clear hm
    go_enter Try.func83, Try.ntmps83
    go_wp2
    go_ret2
    exact ⟨_, [], fun h => absurd h HM.out, fun _ => rfl, (by intro c hc; cases hc), rfl, HN.out, hbel⟩
end Go.Proofs.Ytgecclccmmcdoaa

/-
  What is proved: two answers of DecodeCells to one list are the same but for the NaNs' bits.
  Conditions: none.
-/
namespace Go.Proofs.Ytgecclccmmcdoaa
set_option linter.unusedVariables false
open Go.RowKit

theorem fin_nan {x : Nat} (h : isN x = true) : Flt.fin x = false := by
  unfold isN at h
  unfold Flt.fin Flt.lo Flt.hi Ieee.Format.order
  cases hx : Ieee.single.read x with
  | number s m e => rw [hx] at h; simp [Ieee.Datum.isNaN] at h
  | infinity s => rw [hx] at h; simp [Ieee.Datum.isNaN] at h
  | nan => simp [Ieee.Datum.order]
theorem Sm.fin {x y : Nat} (h : Sm x y) : Flt.fin x = Flt.fin y := by
  rcases h with rfl | ⟨h1, h2⟩
  · rfl
  · rw [fin_nan h1, fin_nan h2]
def CSameL (cs ds : List C3) : Prop := cs.length = ds.length ∧ ∀ i (h : i < cs.length) (h' : i < ds.length), CSame cs[i] ds[i]
theorem CSame.symm {c d : C3} (h : CSame c d) : CSame d c := ⟨h.1.symm, h.2.1.symm, h.2.2.symm⟩
theorem CSameL.symm {cs ds : List C3} (h : CSameL cs ds) : CSameL ds cs := ⟨h.1.symm, fun i hi hi' => (h.2 i hi' hi).symm⟩
theorem DecL.same {xs : List Nat} {cs ds : List C3} (h : DecL xs cs) (h' : DecL xs ds) : CSameL cs ds :=
  ⟨by have h1 := h.1; have h2 := h'.1; omega, fun i hi hi' => DecR.same (h.2 i hi) (h'.2 i hi')⟩
theorem CSameL.rok1 {cs ds : List C3} (h : CSameL cs ds) (hr : rok cs = true) : rok ds = true := by
  obtain ⟨h1, h2⟩ := rok_iff.1 hr
  refine rok_iff.2 ⟨by rw [← h.1]; exact h1, fun d hd => ?_⟩
  obtain ⟨i, hi, rfl⟩ := List.getElem_of_mem hd
  have hi' : i < cs.length := by rw [h.1]; exact hi
  obtain ⟨a, b, c⟩ := h.2 i hi' hi
  obtain ⟨e, f, g⟩ := h2 cs[i] (List.getElem_mem hi')
  exact ⟨a.fin ▸ e, b.fin ▸ f, c.fin ▸ g⟩
theorem CSameL.rok {cs ds : List C3} (h : CSameL cs ds) : rok cs = Proofs.Ytgecclccmmcdoaa.rok ds := by
  cases h1 : Proofs.Ytgecclccmmcdoaa.rok cs with
  | true => exact (h.rok1 h1).symm
  | false =>
    cases h2 : Proofs.Ytgecclccmmcdoaa.rok ds with
    | false => rfl
    | true => rw [h.symm.rok1 h2] at h1; cases h1
theorem dec_same {xs : List Nat} {cs ds : List C3} (h1 : xs.length % 4 = 0 → DecL xs cs) (h2 : xs.length % 4 ≠ 0 → cs = []) (h3 : xs.length % 4 = 0 → DecL xs ds) (h4 : xs.length % 4 ≠ 0 → ds = []) : CSameL cs ds := by
  by_cases h : xs.length % 4 = 0
  · exact (h1 h).same (h3 h)
  · rw [h2 h, h4 h]
    exact ⟨rfl, fun i hi => absurd hi (by simp)⟩
end Go.Proofs.Ytgecclccmmcdoaa

/-
  What is proved: the walks of Brightness and Colouring.
  Conditions: the list can be read; at most 4000000 numbers.
-/
namespace Go.Proofs.Ytgecclccmmcdoaa
set_option linter.unusedVariables false
open Go.RowKit
attribute [local go_sem] run_store_float run_store_complex unary_negf neg256

/-- Each sample replaced by its cell's brightness. -/
def spread (cs : List C3) : List Nat := cs.flatMap fun c => [c.1, c.1, c.1, c.1]
theorem spread_len (cs : List C3) : (spread cs).length = 4 * cs.length := by
  induction cs with
  | nil => rfl
  | cons c cs ih => simp only [spread, List.flatMap_cons, List.length_append, List.length_cons, List.length_nil] at ih ⊢; omega
theorem spread_get : ∀ (cs : List C3) (i : Nat) (h : i < (spread cs).length) (h' : i / 4 < cs.length), (spread cs)[i] = cs[i / 4].1
  | [], i, h, _ => by simp [spread] at h
  | c :: cs, i, h, h' => by
    have e : spread (c :: cs) = c.1 :: c.1 :: c.1 :: c.1 :: spread cs := by simp [spread]
    have h2 := h
    rw [e] at h2
    rw [List.getElem_of_eq e h]
    by_cases h4 : i < 4
    · have : i = 0 ∨ i = 1 ∨ i = 2 ∨ i = 3 := by omega
      rcases this with rfl | rfl | rfl | rfl <;> rfl
    · obtain ⟨j, rfl⟩ : ∃ j, i = j + 4 := ⟨i - 4, by omega⟩
      have hj : j < (spread cs).length := by simp only [List.length_cons] at h2; omega
      have hj' : j / 4 < cs.length := by rw [spread_len] at hj; omega
      have := spread_get cs j hj hj'
      show (spread cs)[j] = _
      rw [this]
      have e4 : (j + 4) / 4 = j / 4 + 1 := by omega
      simp [e4]
/-- What Brightness may answer. -/
def BrightR (xs ys : List Nat) (ok : Bool) : Prop := ∃ cs, (xs.length % 4 = 0 → DecL xs cs) ∧ (xs.length % 4 ≠ 0 → cs = []) ∧ ok = rok cs ∧ ys = if rok cs = true then spread cs else []
def AnsB (R : List Nat → Bool → Prop) (w : World) (e : Ending) (w' : World) : Prop := ∃ v ys ok, e = .returned (.tuple #[v, .bool ok]) ∧ R ys ok ∧ FNew w' w.heap.size v ys ∧ Below w.heap.size w w'
theorem AnsB.mk {R : List Nat → Bool → Prop} {w w' : World} {v : Value} {ys : List Nat} {ok : Bool} (hr : R ys ok) (h : FNew w' w.heap.size v ys) (hb : Below w.heap.size w w') : AnsB R w (.returned (.tuple #[v, .bool ok])) w' := ⟨v, ys, ok, rfl, hr, h, hb⟩
/-- What Colouring may answer. -/
def ColourR (xs ys : List Nat) (ok : Bool) : Prop := ∃ bs, BrightR xs bs ok ∧ if ok = true then ys.length = xs.length ∧ ResL .sub xs bs ys else ys = []
theorem BrightR.len {xs ys : List Nat} (h : BrightR xs ys true) : ys.length = xs.length := by
  obtain ⟨cs, h1, h2, h3, h4⟩ := h
  rw [← h3, if_pos rfl] at h4
  have hm4 : xs.length % 4 = 0 := by
    by_cases h : xs.length % 4 = 0
    · exact h
    · rw [h2 h] at h3; cases h3
  rw [h4, spread_len, (h1 hm4).1]
end Go.Proofs.Ytgecclccmmcdoaa

/-
  What is proved: the walk of the model's AddSamples.
  Conditions: the lists can be read.
-/
namespace Go.Proofs.Ytgecclccmmcdoaa
set_option linter.unusedVariables false
open Go.RowKit
attribute [local go_sem] run_store_float run_store_complex unary_negf neg256

end Go.Proofs.Ytgecclccmmcdoaa

/-
  What is proved: the walks of the model's Brightness and Colouring.
  Conditions: the list can be read; at most 4000000 numbers.
-/
namespace Go.Proofs.Ytgecclccmmcdoaa
set_option linter.unusedVariables false
open Go.RowKit
attribute [local go_sem] run_store_float run_store_complex unary_negf neg256

theorem RNew.lenv {w : World} {base : Nat} {v : Value} {cs : List C3} (h : RNew w base v cs) : ∃ a c, v = .slice a cs.length c := by
  rcases h with ⟨rfl, rfl⟩ | ⟨g, cap, cur, rfl, _⟩
  · exact ⟨none, 0, rfl⟩
  · exact ⟨_, _, rfl⟩
theorem RNew.lenr {w : World} {base : Nat} {v : Value} {cs : List C3} (h : RNew w base v cs) (hne : cs ≠ []) : ∃ g o cap, v = .slice (some ⟨g, o, none⟩) cs.length cap ∧ cs.length ≤ cap ∧ ∀ i (h : i < cs.length), w.cell? ⟨g, o + i * 2, none⟩ = some (.float .f32 cs[i].1) ∧ w.cell? ⟨g, o + i * 2 + 1, none⟩ = some (.complex .f32 cs[i].2.1 cs[i].2.2) := by
  rcases h.row with ⟨_, h1⟩ | h1
  · exact absurd h1 hne
  · exact h1
theorem spread_snoc (cs : List C3) (k : Nat) (h : k < cs.length) : spread (cs.take (k + 1)) = spread (cs.take k) ++ [cs[k].1, cs[k].1, cs[k].1, cs[k].1] := by
  have e : cs.take (k + 1) = cs.take k ++ [cs[k]] := by rw [List.take_add_one, List.getElem?_eq_getElem h]; rfl
  rw [e]
  unfold spread
  rw [List.flatMap_append]
  rfl
theorem spread_take (cs : List C3) (k : Nat) (h : k ≤ cs.length) : (spread (cs.take k)).length = 4 * k := by
  rw [spread_len, List.length_take, Nat.min_eq_left h]
/-- What stands at the head of a round. -/
structure SB (w w1 wr : World) (g o : Nat) (cs : List C3) (gg n cc : Nat) (rs : List Nat) : Prop where
  own : OwnF wr w.heap.size (.slice (some ⟨gg, 0, none⟩) n cc) rs
  num : rs.length = n
  below : Below w.heap.size w wr
  glt : g < wr.heap.size
  ne : gg ≠ g
  cell : ∀ i (h : i < cs.length), wr.cell? ⟨g, o + i * 2, none⟩ = some (.float .f32 cs[i].1)
theorem SB.snoc {w w1 wr w6 : World} {g o gg n cc g6 cap6 z : Nat} {cs : List C3} {rs : List Nat} (x : Obj) (h : SB w w1 wr g o cs gg n cc rs)
    (ho : OwnF w6 w.heap.size (.slice (some ⟨g6, 0, none⟩) (n + 1) cap6) (rs ++ [z])) (hg : (wr.alloc x).grownBy w6 (Value.slice (some ⟨gg, 0, none⟩) n cc).ownBlock) (hor : (Value.slice (some ⟨gg, 0, none⟩) n cc).ownBlock = some g6 ∨ g6 = (wr.alloc x).heap.size) :
    SB w w1 w6 g o cs g6 (n + 1) cap6 (rs ++ [z]) := by
  have hg' : (wr.alloc x).grownBy w6 (some gg) := hg
  refine ⟨ho, by simp [h.num], snoc_below h.below h.own x hg, Nat.lt_of_lt_of_le h.glt (Nat.le_trans (by simp) hg.size), ?_, fun i hi => ?_⟩
  · rcases hor with e | e
    · have e2 : gg = g6 := Option.some.inj e
      rw [← e2]; exact h.ne
    · have := h.glt
      simp at e
      omega
  · have c1 := (World.grownBy_alloc wr x none).cell (h.cell i hi) (by simp)
    exact hg'.cell c1 (by intro e; first | exact h.ne (Option.some.inj e) | exact h.ne (Option.some.inj e).symm)
theorem SB.new {w w1 wr : World} {g o gg n cc : Nat} {cs : List C3} {rs : List Nat} (h : SB w w1 wr g o cs gg n cc rs) (hk : rs = spread cs) : FNew wr w.heap.size (.slice (some ⟨gg, 0, none⟩) n cc) (spread cs) := hk ▸ h.own.new
/-- The same, of Colouring. -/
structure SC (w wr : World) (g : Nat) (xs bs : List Nat) (gg n cc : Nat) (rs : List Nat) : Prop where
  own : OwnF wr w.heap.size (.slice (some ⟨gg, 0, none⟩) n cc) rs
  num : rs.length = n
  below : Below w.heap.size w wr
  glt : g < wr.heap.size
  ne : gg ≠ g
  cell : ∀ i (h : i < bs.length), wr.cell? ⟨g, i, none⟩ = some (.float .f32 bs[i])
  res : ResL .sub xs bs rs
theorem SC.snoc {w wr w6 : World} {g gg n cc g6 cap6 z : Nat} {xs bs rs : List Nat} (x : Obj) (h : SC w wr g xs bs gg n cc rs)
    (ho : OwnF w6 w.heap.size (.slice (some ⟨g6, 0, none⟩) (n + 1) cap6) (rs ++ [z])) (hg : (wr.alloc x).grownBy w6 (Value.slice (some ⟨gg, 0, none⟩) n cc).ownBlock) (hor : (Value.slice (some ⟨gg, 0, none⟩) n cc).ownBlock = some g6 ∨ g6 = (wr.alloc x).heap.size)
    (hlt : n < bs.length) (hlt' : n < xs.length) (hr : Res .sub xs[n] bs[n] z) : SC w w6 g xs bs g6 (n + 1) cap6 (rs ++ [z]) := by
  have hg' : (wr.alloc x).grownBy w6 (some gg) := hg
  refine ⟨ho, by simp [h.num], snoc_below h.below h.own x hg, Nat.lt_of_lt_of_le h.glt (Nat.le_trans (by simp) hg.size), ?_, fun i hi => ?_, h.res.snoc h.num hlt' hlt hr⟩
  · rcases hor with e | e
    · have e2 : gg = g6 := Option.some.inj e
      rw [← e2]; exact h.ne
    · have := h.glt
      simp at e
      omega
  · have c1 := (World.grownBy_alloc wr x none).cell (h.cell i hi) (by simp)
    exact hg'.cell c1 (by intro e; first | exact h.ne (Option.some.inj e) | exact h.ne (Option.some.inj e).symm)
end Go.Proofs.Ytgecclccmmcdoaa

/-
  What is proved: two answers of DecodeCells, of Brightness, of Colouring to one list are the same but for the NaNs' bits.
  Conditions: none.
-/
namespace Go.Proofs.Ytgecclccmmcdoaa
set_option linter.unusedVariables false
open Go.RowKit

theorem spread_same {cs ds : List C3} (h : CSameL cs ds) : SmL (spread cs) (spread ds) := by
  refine ⟨by rw [spread_len, spread_len, h.1], fun i hi hi' => ?_⟩
  have h1 : i / 4 < cs.length := by rw [spread_len] at hi; omega
  have h2 : i / 4 < ds.length := by rw [← h.1]; exact h1
  rw [spread_get cs i hi h1, spread_get ds i hi' h2]
  exact (h.2 _ h1 h2).1
theorem brightR_same {xs ys zs : List Nat} {a b : Bool} (h : BrightR xs ys a) (h' : BrightR xs zs b) : a = b ∧ SmL ys zs := by
  obtain ⟨cs, h1, h2, rfl, rfl⟩ := h
  obtain ⟨ds, h3, h4, rfl, rfl⟩ := h'
  have hs := dec_same h1 h2 h3 h4
  refine ⟨hs.rok, ?_⟩
  rw [hs.rok]
  split
  · exact spread_same hs
  · exact SmL.refl _
theorem brightR_len {xs ys : List Nat} {a : Bool} (h : BrightR xs ys a) : ys.length ≤ xs.length := by
  cases a with
  | true => exact Nat.le_of_eq h.len
  | false =>
    obtain ⟨cs, h1, h2, h3, h4⟩ := h
    rw [← h3] at h4
    rw [h4]
    exact Nat.zero_le _
theorem colourR_same {xs ys zs : List Nat} {a b : Bool} (h : ColourR xs ys a) (h' : ColourR xs zs b) : a = b ∧ SmL ys zs := by
  obtain ⟨bs, h1, h2⟩ := h
  obtain ⟨bs', h3, h4⟩ := h'
  obtain ⟨rfl, hs⟩ := brightR_same h1 h3
  refine ⟨rfl, ?_⟩
  cases a with
  | false => simp at h2 h4; rw [h2, h4]; exact SmL.refl _
  | true =>
    simp only [if_true] at h2 h4
    exact ResL.same h2.2 h4.2 (SmL.refl _) hs (by rw [h2.1, h4.1])
theorem colourR_len {xs ys : List Nat} {a : Bool} (h : ColourR xs ys a) : ys.length ≤ xs.length := by
  obtain ⟨bs, h1, h2⟩ := h
  cases a with
  | false => simp at h2; rw [h2]; exact Nat.zero_le _
  | true => exact Nat.le_of_eq h2.1
end Go.Proofs.Ytgecclccmmcdoaa

/-
  What is proved: the exact laws' comparing, marking of lists of cells.
  Conditions: those that each fact names.
-/
namespace Go.Proofs.Ytgecclccmmcdoaa
set_option linter.unusedVariables false
open Go.RowKit
attribute [local go_sem] run_store_float run_store_complex unary_negf neg256

theorem sameComplex_self (a b : Nat) (w : World) (ha : (Ieee.double.read a).isNaN = false) (hb : (Ieee.double.read b).isNaN = false) :
    Calls Try.prog 126 #[.complex .f64 a b, .complex .f64 a b] w fun e w' => e = .returned (.bool true) ∧ w = w' := by
  have H1 := fun W => Lib.hid (sameFloat_self a W ha)
  have H2 := fun W => Lib.hid (sameFloat_self b W hb)
  clear ha hb
  go_enter Try.func126, Try.ntmps126
  go_wp2_with fail
  refine (H1 _).out.mono ?_
  rintro e w1 ⟨rfl, rfl⟩
  go_wp2_with fail
  refine (H2 _).out.mono ?_
  rintro e w1 ⟨rfl, rfl⟩
  go_wp2
  go_ret
  exact ⟨rfl, rfl⟩
theorem eqCell_self (y u v : Nat) (w : World) (hy : Flt.fin y = true) (hu : Flt.fin u = true) (hv : Flt.fin v = true) :
    Calls Try.prog 85 #[.agg #[.float .f32 y, .complex .f32 u v], .agg #[.float .f32 y, .complex .f32 u v]] w fun e w' => e = .returned (.bool true) ∧ Below w.heap.size w w' := by
  obtain ⟨r, hr, hn⟩ := Flt.conv_fin hy
  obtain ⟨p, hp, hpn⟩ := Flt.conv_fin hu
  obtain ⟨q, hq, hqn⟩ := Flt.conv_fin hv
  have H1 := fun W => Lib.hid (sameFloat_self r W hn)
  have H2 := fun W => Lib.hid (sameComplex_self p q W hpn hqn)
  have hc := fun W => run_convert_float_float (P := Try.prog) W 26 95 .f32 .f64 y r (by kernel_rfl) Try.underlying95 hr
  have hcv := fun W => run_convert_complex (P := Try.prog) W 27 113 .f32 .f64 u v p q (by kernel_rfl) Try.underlying113 (by unfold cConvBits; rw [hp, hq]; rfl)
  clear hr hn hp hpn hq hqn hy hu hv
  go_enter Try.func85, Try.ntmps85
  go_wp2_with fail
  refine (H1 _).out.mono ?_
  rintro e w1 ⟨rfl, rfl⟩
  go_wp2_with fail
  refine (H2 _).out.mono ?_
  rintro e w1 ⟨rfl, rfl⟩
  go_wp2
  go_ret
  exact ⟨rfl, by first | exact Below.refl _ _ | exact ((Below.refl _ _).alloc (Nat.le_refl _) _) | exact ((Below.refl _ _).alloc (Nat.le_refl _) _).alloc (by simp) _⟩
/-- Every number is in range. -/
def FinL (cs : List C3) : Prop := ∀ c ∈ cs, Flt.fin c.1 = true ∧ Flt.fin c.2.1 = true ∧ Flt.fin c.2.2 = true
set_option maxHeartbeats 2000000 in
theorem eqCells_self (v v' : Value) (cs : List C3) (w : World) (h : RowV w v cs) (h' : RowV w v' cs) (hl : cs.length ≤ 1000000) (hf : FinL cs) :
    Calls Try.prog 39 #[v, v'] w fun e w' => e = .returned (.bool true) ∧ Below w.heap.size w w' := by
  rcases h with ⟨rfl, h0⟩ | ⟨g, o, cap, rfl, hcap, hcell⟩
  · subst h0
    obtain ⟨a, c, rfl⟩ : ∃ a c, v' = .slice a 0 c := by
      rcases h' with ⟨rfl, _⟩ | ⟨g, o, cap, rfl, _⟩
      · exact ⟨none, 0, rfl⟩
      · exact ⟨_, _, rfl⟩
    clear h' hf
    go_enter Try.func39, Try.ntmps39
    go_wp2
    go_loop [5] (fun i => i = .int .i64 0) (fun _ => 0)
    case atStart => exact rfl
    case round =>
      obtain rfl := hrel
      go_wp2
      go_ret
      exact ⟨rfl, Below.refl _ _⟩
  · rcases h' with ⟨rfl, h0⟩ | ⟨g', o', cap', rfl, hcap', hcell'⟩
    · subst h0
      clear hcell hf
      go_enter Try.func39, Try.ntmps39
      go_wp2
      go_loop [5] (fun i => i = .int .i64 0) (fun _ => 0)
      case atStart => exact rfl
      case round =>
        obtain rfl := hrel
        go_wp2
        go_ret
        exact ⟨rfl, Below.refl _ _⟩
    · have HC := Lib.hid hcell
      have HC' := Lib.hid hcell'
      have HF := Lib.hid hf
      clear hcell hcell' hf
      go_enter Try.func39, Try.ntmps39
      go_wp2
      go_loopw [5] (fun i wr => ∃ k : Nat, k ≤ cs.length ∧ i = .int .i64 (k : Int) ∧ Below w.heap.size w wr) (fun i _ => cs.length - (intOf i).toNat)
      case atStart => exact ⟨0, Nat.zero_le _, rfl, Below.refl _ _⟩
      case round =>
        obtain ⟨k, hk, rfl, hb⟩ := hrel
        by_cases hlt : k < cs.length
        · obtain ⟨hc0, hc1⟩ := HC.out k hlt
          obtain ⟨hc0', hc1'⟩ := HC'.out k hlt
          have q0 := (grown_of hb).cell hc0 (by simp)
          have q1 := (grown_of hb).cell hc1 (by simp)
          have q2 := (grown_of hb).cell hc0' (by simp)
          have q3 := (grown_of hb).cell hc1' (by simp)
          obtain ⟨f1, f2, f3⟩ := HF.out cs[k] (List.getElem_mem hlt)
          have HE := fun W => Lib.hid (eqCell_self cs[k].1 cs[k].2.1 cs[k].2.2 W f1 f2 f3)
          clear hc0 hc1 hc0' hc1' f1 f2 f3
          generalize cs[k] = c at *
          have hbd : Below w.heap.size w wr.drew := belowDN hb 1
          go_wp2
          go_region_with (go_at_call 85; refine (HE _).out.mono ?_; rintro e w2 ⟨rfl, hb2⟩)
          all_goals
            have hb3 := below_trans hbd hb2 hbd.size
            clear q0 q1 q2 q3
            go_wp2
            go_roundw
            case rel => exact ⟨k + 1, by omega, by go_num, hb3⟩
            case measure => simp [intOf]; omega
        · go_wp2
          go_ret
          exact ⟨rfl, hb⟩
/-- complex64(complex(float64(k), 1)): the first part's bits. -/
def c32 (k : Nat) : Nat := (floatToFloatBits .f64 (floatOfInt .f64 (k : Int)) .f32).getD 0
theorem c32_ok : ∀ k : Nat, k < 140 → cConvBits .f64 (floatOfInt .f64 (k : Int)) 4607182418800017408 .f32 = some (c32 k, 1065353216) ∧ (Ieee.single.read (c32 k)).isNaN = false := by decide +kernel
def cmark (i : Nat) : C3 := (floatOfInt .f32 ((2 * i + 1 : Nat) : Int), c32 (2 * i + 2), 1065353216)
def cmarks (n : Nat) : List C3 := (List.range n).map cmark
theorem cmarks_len (n : Nat) : (cmarks n).length = n := by simp [cmarks]
theorem cmarks_get (n i : Nat) (h : i < (cmarks n).length) : (cmarks n)[i] = cmark i := by simp [cmarks]
theorem c32_run (k : Nat) (h : k < 140) (W : World) : (convert 113 27 (.complex .f64 (floatOfInt .f64 (k : Int)) 4607182418800017408)).run Try.prog W = .ok (.complex .f32 (c32 k) 1065353216) W :=
  run_convert_complex (P := Try.prog) W 113 27 .f64 .f32 _ _ _ _ (by kernel_rfl) Try.underlying27 (c32_ok k h).1
end Go.Proofs.Ytgecclccmmcdoaa

/-
  What is proved: the exact laws' marking of a list of cells, and the look whether the marks still stand.
  Conditions: at most 64 cells.
-/
namespace Go.Proofs.Ytgecclccmmcdoaa
set_option linter.unusedVariables false
open Go.RowKit
attribute [local go_sem] run_store_float run_store_complex unary_negf neg256

/-- Block b has at least n cells; the first k are those of cs. -/
def MadeC (w : World) (b n k : Nat) (cs : List C3) : Prop :=
  ∃ cur : Array Value, w.heap[b]? = some (.cells cur 40 (0, 0)) ∧ n * 2 ≤ cur.size ∧ ∀ i (h : i < cs.length), i < k → cur[i * 2]? = some (.float .f32 cs[i].1) ∧ cur[i * 2 + 1]? = some (.complex .f32 cs[i].2.1 cs[i].2.2)
theorem MadeC.step {w : World} {b n k : Nat} {cs : List C3} (h : MadeC w b n k cs) (hn : k < cs.length) (hk : cs.length ≤ n) :
    MadeC ((w.setCell ⟨b, k * 2, none⟩ (.float .f32 cs[k].1)).setCell ⟨b, k * 2 + 1, none⟩ (.complex .f32 cs[k].2.1 cs[k].2.2)) b n (k + 1) cs := by
  obtain ⟨cur, h1, h2, h3⟩ := h
  refine ⟨(cur.setIfInBounds (k * 2) (.float .f32 cs[k].1)).setIfInBounds (k * 2 + 1) (.complex .f32 cs[k].2.1 cs[k].2.2), heap_put (heap_put h1), by simp [h2], fun i hi hik => ?_⟩
  by_cases e : i = k
  · subst e
    constructor
    · rw [Array.getElem?_setIfInBounds, if_neg (by omega), Array.getElem?_setIfInBounds, if_pos rfl, if_pos (by omega)]
    · rw [Array.getElem?_setIfInBounds, if_pos rfl, if_pos (by simp; omega)]
  · obtain ⟨g1, g2⟩ := h3 i hi (by omega)
    constructor
    · rw [Array.getElem?_setIfInBounds, if_neg (by omega), Array.getElem?_setIfInBounds, if_neg (by omega)]; exact g1
    · rw [Array.getElem?_setIfInBounds, if_neg (by omega), Array.getElem?_setIfInBounds, if_neg (by omega)]; exact g2
theorem MadeC.at {w : World} {b n k : Nat} {cs : List C3} (h : MadeC w b n k cs) (i : Nat) (hi : i < n) (v : Value) : (∃ x, w.cell? ⟨b, i * 2, none⟩ = some x) ∧ w.frozen? ⟨b, i * 2, none⟩ = false ∧ (∃ x, (w.setCell ⟨b, i * 2, none⟩ v).cell? ⟨b, i * 2 + 1, none⟩ = some x) ∧ (w.setCell ⟨b, i * 2, none⟩ v).frozen? ⟨b, i * 2 + 1, none⟩ = false := by
  obtain ⟨cur, h1, h2, _⟩ := h
  have h3 := heap_put (i := i * 2) (v := v) h1
  refine ⟨⟨cur[i * 2]'(by omega), ?_⟩, ?_, ⟨cur[i * 2 + 1]'(by omega), ?_⟩, ?_⟩
  · simp [World.cell?, h1, Array.getElem?_eq_getElem (show i * 2 < cur.size by omega)]
  · simp [World.frozen?, h1]
  · simp [World.cell?, h3, Array.getElem?_setIfInBounds, Array.getElem?_eq_getElem (show i * 2 + 1 < cur.size by omega)]
  · simp [World.frozen?, h3]
def MarkC (base : Nat) (v : Value) (n : Nat) (w : World) (e : Ending) (w' : World) : Prop := e = .returned (.int .i64 ((2 * n + 1 : Nat) : Int)) ∧ RNew w' base v (cmarks n) ∧ w.grownBy w' v.ownBlock
set_option maxHeartbeats 2000000 in
theorem markCells_any (base : Nat) (v : Value) (cs : List C3) (w : World) (h : RNew w base v cs) (hl : cs.length ≤ 64) :
    Calls Try.prog 42 #[v, .int .i64 1] w fun e w' => MarkC base v cs.length w e w' := by
  rcases h with ⟨rfl, rfl⟩ | ⟨g, cap, cur, rfl, hbase, hcap, hheap, hsz, hc⟩
  · go_enter Try.func42, Try.ntmps42
    go_wp2
    go_loop [1, 5] (fun kk i => kk = .int .i64 1 ∧ i = .int .i64 0) (fun _ _ => 0)
    case atStart => exact ⟨rfl, rfl⟩
    case round =>
      obtain ⟨rfl, rfl⟩ := hrel
      go_wp2
      go_ret
      exact ⟨rfl, RNew.nil _ _, World.grownBy.refl _ _⟩
  · have HST := Lib.hid (show MadeC w g cs.length 0 (cmarks cs.length) from ⟨cur, hheap, hsz, fun i _ hi => absurd hi (by omega)⟩)
    clear hheap hc
    go_enter Try.func42, Try.ntmps42
    go_wp2
    go_loopw [1, 5] (fun kk i wr => ∃ k m : Nat, k ≤ cs.length ∧ i = .int .i64 (k : Int) ∧ kk = .int .i64 (m : Int) ∧ m = 2 * k + 1 ∧ w.grownBy wr (some g) ∧ MadeC wr g cs.length k (cmarks cs.length)) (fun _ i _ => cs.length - (intOf i).toNat)
    case atStart => exact ⟨0, 1, Nat.zero_le _, rfl, rfl, rfl, World.grownBy.refl _ _, HST.out⟩
    case round =>
      obtain ⟨k, m, hk, rfl, rfl, hm1, hg, hm⟩ := hrel
      have HM := Lib.hid hm
      have hm64 : m ≤ 129 := by omega
      have HM1 := Lib.hid hm1
      clear hm HST hm1
      by_cases hlt : k < cs.length
      · obtain ⟨⟨x0, hx0⟩, hf0, ⟨x1, hx1⟩, hf1⟩ := HM.out.at k hlt (.float .f32 (floatOfInt .f32 (m : Int)))
        have hcv := c32_run (m + 1) (by omega)
        have hlm : k < (cmarks cs.length).length := by rw [cmarks_len]; exact hlt
        have hm3 := HM.out.step hlm (by rw [cmarks_len]; exact Nat.le_refl _)
        rw [cmarks_get] at hm3
        simp only [cmark, show 2 * k + 2 = m + 1 from by have := HM1.out; omega, show 2 * k + 1 = m from HM1.out.symm] at hm3
        have hg3 := (hg.trans (Lib.grownBy_setCell wr g (k * 2) (.float .f32 (floatOfInt .f32 (m : Int))))).trans (Lib.grownBy_setCell _ g (k * 2 + 1) (.complex .f32 (c32 (m + 1)) 1065353216))
        have HM3 := Lib.hid hm3
        have HG3 := Lib.hid hg3
        rw [show ((m + 1 : Nat) : Int) = (m : Int) + 1 from by omega] at hcv
        clear hm3 hg3
        generalize c32 (m + 1) = c2 at *
        go_wp2
        go_roundw
        case rel => exact ⟨k + 1, m + 2, by omega, by go_num, by go_num, by have := HM1.out; omega, HG3.out, HM3.out⟩
        case measure => simp [intOf]; omega
      · have hkk : k = cs.length := by omega
        subst hkk
        have hmm := HM1.out
        subst hmm
        go_wp2
        go_ret
        obtain ⟨cur', k1, k2, k3⟩ := HM.out
        exact ⟨rfl, .inr ⟨g, cap, cur', by rw [cmarks_len], hbase, by rw [cmarks_len]; exact hcap, k1, by rw [cmarks_len]; exact k2, fun i hi => k3 i hi (by rw [cmarks_len] at hi; exact hi)⟩, hg⟩
/-- Are two complex numbers different? -/
theorem neq_colour (u v u' v' : Nat) (W : World) : (binOp .neq 27 (.complex .f32 u v) (.complex .f32 u' v')).run Try.prog W = .ok (.bool (!(FloatKind.f32.format.order u u' == some .eq && FloatKind.f32.format.order v v' == some .eq))) W := by
  have u2 := Try.underlying27
  simp [binOp, Op.complexOp, Op.Complex.cmp, Op.floatCmp, asBool]
set_option maxHeartbeats 2000000 in
theorem heldCells_any (v : Value) (n : Nat) (w : World) (h : RowV w v (cmarks n)) (hl : n ≤ 64) :
    Calls Try.prog 43 #[v, .int .i64 1] w fun e w' => e = .returned (.int .i64 ((2 * n + 1 : Nat) : Int)) ∧ ∃ q, w' = w.drewN q := by
  obtain ⟨a, c, rfl, hcell⟩ : ∃ a c, v = .slice a n c ∧ ∀ k, k < n → ∃ g o, a = some ⟨g, o, none⟩ ∧ n ≤ c ∧ w.cell? ⟨g, o + k * 2, none⟩ = some (.float .f32 (cmark k).1) ∧ w.cell? ⟨g, o + k * 2 + 1, none⟩ = some (.complex .f32 (cmark k).2.1 (cmark k).2.2) := by
    rcases h with ⟨rfl, h0⟩ | ⟨g, o, cap, rfl, hcap, hcell⟩
    · have e := congrArg List.length h0
      rw [cmarks_len] at e
      subst e
      exact ⟨none, 0, rfl, fun k hk => absurd hk (Nat.not_lt_zero k)⟩
    · rw [cmarks_len] at hcap ⊢
      refine ⟨_, _, rfl, fun k hk => ⟨g, o, rfl, hcap, ?_⟩⟩
      have h1 := hcell k (by rw [cmarks_len]; exact hk)
      rw [cmarks_get] at h1
      exact h1
  have HC := Lib.hid hcell
  clear hcell h
  go_enter Try.func43, Try.ntmps43
  go_wp2
  go_loopw [1, 5] (fun kk i wr => ∃ k m q : Nat, k ≤ n ∧ i = .int .i64 (k : Int) ∧ kk = .int .i64 (m : Int) ∧ m = 2 * k + 1 ∧ wr = w.drewN q) (fun _ i _ => n - (intOf i).toNat)
  case atStart => exact ⟨0, 1, 0, Nat.zero_le _, rfl, rfl, rfl, rfl⟩
  case round =>
    obtain ⟨k, m, q, hk, rfl, rfl, hm1, rfl⟩ := hrel
    have hm64 : m ≤ 129 := by omega
    have HM1 := Lib.hid hm1
    clear hm1
    by_cases hlt : k < n
    · obtain ⟨g, o, rfl, hcap, hc0, hc1⟩ := HC.out k hlt
      simp only [cmark, show 2 * k + 2 = m + 1 from by have := HM1.out; omega, show 2 * k + 1 = m from HM1.out.symm] at hc0 hc1
      have hs : FloatKind.f32.format.order (floatOfInt .f32 (m : Int)) (floatOfInt .f32 (m : Int)) = some .eq := ofInt_self _
      have hs2 : FloatKind.f32.format.order (c32 (m + 1)) (c32 (m + 1)) = some .eq := Flt.order_self (f := Ieee.single) (c32_ok (m + 1) (by omega)).2
      have hs3 : FloatKind.f32.format.order 1065353216 1065353216 = some .eq := by decide +kernel
      have hcv := c32_run (m + 1) (by omega)
      rw [show ((m + 1 : Nat) : Int) = (m : Int) + 1 from by omega] at hcv
      have hnc := fun W => neq_colour (c32 (m + 1)) 1065353216 (c32 (m + 1)) 1065353216 W
      rw [hs2, hs3] at hnc
      generalize c32 (m + 1) = c2 at *
      go_wp2

      go_roundw
      case rel => exact ⟨k + 1, m + 2, _, by omega, by go_num, by go_num, by have := HM1.out; omega, rfl⟩
      case measure => simp [intOf]; omega
    · have hkk : k = n := by omega
      subst hkk
      have hmm := HM1.out
      subst hmm
      go_wp2
      go_ret
      exact ⟨rfl, _, rfl⟩
end Go.Proofs.Ytgecclccmmcdoaa
