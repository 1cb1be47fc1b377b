/-
  What is proved: what the model draws as a row of sixteenths; the decoding of what such a row is encoded to.
  Conditions: the cursor's block holds a cursor.
-/
import Derived.Test.YtgecclccmmcdoaaPkNum
import Derived.Test.YtgecclccmmcdoaaEnc
import Derived.Test.YtgecclccmmcdoaaDecode
import Derived.Test.YtgecclccmmcdoaaDrawRow
namespace Go.Proofs.Ytgecclccmmcdoaa
set_option linter.unusedVariables false
open Go.RowKit
attribute [local go_sem] run_store_float run_store_complex unary_negf neg256

/-- A cell of sixteenths a, b, d. -/
def PC (c : C3) (a b d : Int) : Prop := Flt.Sx c.1 a ∧ Flt.Sx c.2.1 b ∧ Flt.Sx c.2.2 d ∧ a.natAbs ≤ 1024 ∧ b.natAbs ≤ 512 ∧ d.natAbs ≤ 512
def PlainR (cs : List C3) : Prop := ∀ c ∈ cs, ∃ a b d, PC c a b d
theorem PC.fit {c : C3} {a b d : Int} (h : PC c a b d) : c.1 < 2 ^ 32 ∧ c.2.1 < 2 ^ 32 ∧ c.2.2 < 2 ^ 32 := ⟨h.1.1, h.2.1.1, h.2.2.1.1⟩
theorem PC.fins {c : C3} {a b d : Int} (h : PC c a b d) : Flt.fin c.1 = true ∧ Flt.fin c.2.1 = true ∧ Flt.fin c.2.2 = true := by
  obtain ⟨h1, h2, h3, k1, k2, k3⟩ := h
  exact ⟨h1.fin (by omega), h2.fin (by omega), h3.fin (by omega)⟩
theorem PC.cj {c : C3} {a b d : Int} (h : PC c a b d) : PC (cj c) a b (-d) := by
  obtain ⟨h1, h2, h3, k1, k2, k3⟩ := h
  exact ⟨h1, h2, h3.neg, k1, k2, by omega⟩
theorem PlainR.fit {cs : List C3} (h : PlainR cs) : Fit cs := fun c hc => by obtain ⟨a, b, d, k⟩ := h c hc; exact k.fit
theorem PlainR.cj {cs : List C3} (h : PlainR cs) : PlainR (cs.map cj) := by
  intro c hc
  obtain ⟨e, he, rfl⟩ := List.mem_map.1 hc
  obtain ⟨a, b, d, k⟩ := h e he
  exact ⟨_, _, _, k.cj⟩
theorem PlainR.rok {cs : List C3} (h : PlainR cs) (h1 : 1 ≤ cs.length) (h2 : cs.length ≤ 64) : rok cs = true :=
  rok_iff.2 ⟨⟨h1, h2⟩, fun c hc => by obtain ⟨a, b, d, k⟩ := h c hc; exact k.fins⟩
theorem PlainR.snoc {cs : List C3} {c : C3} {a b d : Int} (h : PlainR cs) (hc : PC c a b d) : PlainR (cs ++ [c]) := by
  intro e he
  rcases List.mem_append.1 he with he | he
  · exact h e he
  · obtain rfl := List.mem_singleton.1 he; exact ⟨_, _, _, hc⟩
theorem Res.is {op : BinOp} {x y r r' : Nat} (h : Res op x y r) (e : floatBits op .f32 x y = some r') : r = r' := by
  rcases h with h | ⟨h, _⟩
  · rw [e] at h; exact (Option.some.inj h).symm
  · rw [e] at h; cases h
theorem sx_addv {x y : Nat} {a b : Int} (hx : Flt.Sx x a) (hy : Flt.Sx y b) (h : (a + b).natAbs < 2 ^ 24) : Flt.Sx (addv x y) (a + b) := by
  obtain ⟨r, hr, hs⟩ := hx.add hy h
  unfold addv
  rw [hr]; exact hs
/-- What comes of samples of sixteenths. -/
theorem dec_sx {s t u v : Nat} {ks kt ku kv a b d : Int} {c : C3} (hs : Flt.Sx s ks) (ht : Flt.Sx t kt) (hu : Flt.Sx u ku) (hv : Flt.Sx v kv) (h : DecR s t u v c)
    (b1 : ks.natAbs ≤ 4096 ∧ kt.natAbs ≤ 4096 ∧ ku.natAbs ≤ 4096 ∧ kv.natAbs ≤ 4096) (e1 : ks + kt + ku + kv = 4 * a) (e2 : ks - ku = 2 * b) (e3 : kv - kt = 2 * d) :
    Flt.Sx c.1 a ∧ Flt.Sx c.2.1 b ∧ Flt.Sx c.2.2 d := by
  obtain ⟨⟨r1, r2, r3, h1, h2, h3, h4⟩, ⟨d1, h5, h6⟩, ⟨d2, h7, h8⟩, _⟩ := h
  obtain ⟨q1, g1, x1⟩ := hs.add ht (by omega)
  rw [h1.is g1] at h2
  obtain ⟨q2, g2, x2⟩ := x1.add hu (by omega)
  rw [h2.is g2] at h3
  obtain ⟨q3, g3, x3⟩ := x2.add hv (by omega)
  rw [h3.is g3] at h4
  rw [e1] at x3
  obtain ⟨q4, g4, x4⟩ := Flt.Sx.quo (p := 2) Flt.read_four x3 (by omega)
  obtain ⟨q5, g5, x5⟩ := hs.sub hu (by omega)
  rw [h5.is g5] at h6
  rw [e2] at x5
  obtain ⟨q6, g6, x6⟩ := Flt.Sx.quo (p := 1) Flt.read_two' x5 (by omega)
  obtain ⟨q7, g7, x7⟩ := hv.sub ht (by omega)
  rw [h7.is g7] at h8
  rw [e3] at x7
  obtain ⟨q8, g8, x8⟩ := Flt.Sx.quo (p := 1) Flt.read_two' x7 (by omega)
  rw [h4.is g4, h6.is g6, h8.is g8]
  exact ⟨x4, x6, x8⟩
theorem dec_enc {c c' : C3} {a b d : Int} (h : PC c a b d) (hd : DecR (addv c.1 c.2.1) (addv c.1 (Op.negFloat .f32 c.2.2)) (addv c.1 (Op.negFloat .f32 c.2.1)) (addv c.1 c.2.2) c') : PC c' a b d := by
  obtain ⟨h1, h2, h3, k1, k2, k3⟩ := h
  obtain ⟨x1, x2, x3⟩ := dec_sx (a := a) (b := b) (d := d) (sx_addv h1 h2 (by omega)) (sx_addv h1 h3.neg (by omega)) (sx_addv h1 h2.neg (by omega)) (sx_addv h1 h3 (by omega)) hd (by omega) (by omega) (by omega) (by omega)
  exact ⟨x1, x2, x3, k1, k2, k3⟩
theorem enc_get : ∀ (cs : List C3) (i j : Nat) (h : i < cs.length), j < 4 → (enc cs).getD (4 * i + j) 0 = (enc4 cs[i]).getD j 0
  | c :: cs, 0, j, _, hj => by
    show (enc4 c ++ enc cs).getD (4 * 0 + j) 0 = (enc4 c).getD j 0
    rw [List.getD_eq_getElem?_getD, List.getD_eq_getElem?_getD, List.getElem?_append_left (by rw [enc4_len]; omega), Nat.mul_zero, Nat.zero_add]
  | c :: cs, i + 1, j, h, hj => by
    show (enc4 c ++ enc cs).getD (4 * (i + 1) + j) 0 = _
    rw [List.getD_eq_getElem?_getD, List.getElem?_append_right (by rw [enc4_len]; omega), enc4_len, show 4 * (i + 1) + j - 4 = 4 * i + j by omega, ← List.getD_eq_getElem?_getD, enc_get cs i j (by simpa using h) hj]
    rfl
/-- A row of sixteenths, encoded and decoded, holds the same numbers. -/
theorem decL_enc {cs ds : List C3} (hp : PlainR cs) (h : DecL (enc cs) ds) : ds.length = cs.length ∧ ∀ i (h1 : i < ds.length) (h2 : i < cs.length), ∃ a b d, PC cs[i] a b d ∧ PC ds[i] a b d := by
  obtain ⟨hl, hf⟩ := h
  rw [enc_len] at hl
  refine ⟨by omega, fun i h1 h2 => ?_⟩
  obtain ⟨a, b, d, k⟩ := hp cs[i] (List.getElem_mem h2)
  have h3 := hf i h1
  unfold four at h3
  rw [show 4 * i = 4 * i + 0 from rfl, enc_get cs i 0 h2 (by decide), enc_get cs i 1 h2 (by decide), enc_get cs i 2 h2 (by decide), enc_get cs i 3 h2 (by decide)] at h3
  exact ⟨a, b, d, k, dec_enc k h3⟩

def PlainPost (b : Nat) (w : World) (e : Ending) (w' : World) : Prop :=
  ∃ (y u v : Nat) (p q r : Int), PC (y, u, v) p q r ∧ e = .returned (.agg #[.float .f32 y, .complex .f32 u v]) ∧ Cur w' b ∧ w.grownBy w' (some b)
set_option maxHeartbeats 1000000 in
theorem l02Plain_any (b : Nat) (w : World) (hc : Cur w b) :
    Calls Try.prog 60 #[.pointer (some ⟨b, 0, none⟩)] w fun e w' => PlainPost b w e w' := by
  have hlt := hc.lt
  have hcA := hc.alloc (.cells #[.float .f32 0, .complex .f32 0 0] 40)
  have hgA := World.grownBy_alloc w (.cells #[.float .f32 0, .complex .f32 0 0] 40) (some b)
  have hnew := heap_alloc_new w (.cells #[.float .f32 0, .complex .f32 0 0] 40)
  have hsA : w.heap.size < (w.alloc (.cells #[.float .f32 0, .complex .f32 0 0] 40)).heap.size := by simp
  have HN := Lib.hid hnew
  clear hc hnew
  go_enter Try.func60, Try.ntmps60
  go_wp2_with fail
  generalize w.alloc (.cells #[.float .f32 0, .complex .f32 0 0] 40) = wA at *
  refine (l01Below_any b _ _ hcA (by decide) (by decide)).mono ?_
  rintro e w1 ⟨x1, hx1, _, rfl, hc1, hg1⟩
  have hx1 := hx1 (by decide)
  obtain ⟨y, hy, sy⟩ := Flt.Sx.sixteenth (n := (x1 : Int) - 1024) (by omega)
  have qy := fun W => run_float_arith (P := Try.prog) W .quo 26 .f32 _ _ _ hy
  have HY := Lib.hid sy
  clear hy sy
  go_wp2_with fail
  refine (l01Below_any b _ _ hc1 (by decide) (by decide)).mono ?_
  rintro e w2 ⟨x2, hx2, _, rfl, hc2, hg2⟩
  have hx2 := hx2 (by decide)
  obtain ⟨u, hu, su⟩ := Flt.Sx.sixteenth (n := (x2 : Int) - 512) (by omega)
  have qu := fun W => run_float_arith (P := Try.prog) W .quo 26 .f32 _ _ _ hu
  have HU := Lib.hid su
  clear hu su
  go_wp2_with fail
  refine (l01Below_any b _ _ hc2 (by decide) (by decide)).mono ?_
  rintro e w3 ⟨x3, hx3, _, rfl, hc3, hg3⟩
  have hx3 := hx3 (by decide)
  obtain ⟨v, hv, sv⟩ := Flt.Sx.sixteenth (n := (x3 : Int) - 512) (by omega)
  have qv := fun W => run_float_arith (P := Try.prog) W .quo 26 .f32 _ _ _ hv
  have HV := Lib.hid sv
  clear hv sv
  have hg := (hg1.trans hg2).trans hg3
  have hB : w3.heap[w.heap.size]? = some (.cells #[.float .f32 0, .complex .f32 0 0] 40 (0, 0)) := (hg.block _ hsA (by intro h; cases h; omega)).trans HN.out
  have c0 : w3.cell? ⟨w.heap.size, 0, none⟩ = some (.float .f32 0) := by simp [World.cell?, hB]
  have c1 : w3.cell? ⟨w.heap.size, 1, none⟩ = some (.complex .f32 0 0) := by simp [World.cell?, hB]
  have f0 : w3.frozen? ⟨w.heap.size, 0, none⟩ = false := by simp [World.frozen?, hB]
  have f1 : w3.frozen? ⟨w.heap.size, 1, none⟩ = false := by simp [World.frozen?, hB]
  have hB2 := heap_put (i := 1) (v := .complex .f32 u v) (heap_put (i := 0) (v := .float .f32 y) hB)
  have hgr := grown_set (grown_set (hgA.trans hg) (p := ⟨w.heap.size, 0, none⟩) (Nat.le_refl _) (.float .f32 y)) (p := ⟨w.heap.size, 1, none⟩) (Nat.le_refl _) (.complex .f32 u v)
  have hcr := (hc3.set (p := ⟨w.heap.size, 0, none⟩) hlt (.float .f32 y)).set (p := ⟨w.heap.size, 1, none⟩) hlt (.complex .f32 u v)
  have HPC := Lib.hid (show PC (y, u, v) ((x1 : Int) - 1024) ((x2 : Int) - 512) ((x3 : Int) - 512) from ⟨HY.out, HU.out, HV.out, by omega, by omega, by omega⟩)
  clear hB hc1 hc2 hc3 hg1 hg2 hg3 hg hgA hcA
  have HB := Lib.hid hB2
  clear hB2
  go_wp2
  generalize ((w3.setCell ⟨w.heap.size, 0, none⟩ (.float .f32 y)).setCell ⟨w.heap.size, 1, none⟩ (.complex .f32 u v)) = w4 at *
  have d0 : w4.cell? ⟨w.heap.size, 0, none⟩ = some (.float .f32 y) := by have := HB.out; simp [World.cell?, this]
  have d1 : w4.cell? ⟨w.heap.size, 1, none⟩ = some (.complex .f32 u v) := by have := HB.out; simp [World.cell?, this]
  refine bodyPost_ret (v := .agg #[.float .f32 y, .complex .f32 u v]) ?_ rfl ⟨y, u, v, _, _, _, HPC.out, rfl, hcr, hgr⟩
  simp [results, Try.results60, go_sem, d0, d1]

def PlainDraw (w : World) (e : Ending) (w' : World) : Prop := ∃ v cs, (1 ≤ cs.length ∧ cs.length ≤ 6) ∧ PlainR cs ∧ e = .returned v ∧ RowV w' v cs ∧ Below w.heap.size w w'
theorem PlainDraw.mk {w w' : World} {v : Value} {cs : List C3} (hl : 1 ≤ cs.length ∧ cs.length ≤ 6) (hp : PlainR cs) (hr : RowV w' v cs) (hb : Below w.heap.size w w') : PlainDraw w (.returned v) w' := ⟨v, cs, hl, hp, rfl, hr, hb⟩
set_option maxHeartbeats 2000000 in
theorem drawPlain_any (a : Option Addr) (len cap : Nat) (w : World) (hs : Src w w.heap.size a len cap) :
    Calls Try.prog 19 #[.slice a len cap] w fun e w' => PlainDraw w e w' := by
  have HN := Lib.hid (l01New_any a len cap w hs)
  clear hs
  go_enter Try.func19, Try.ntmps19
  go_wp2_with fail
  refine HN.out.mono ?_
  rintro e w1 ⟨rfl, hc1, hg1⟩
  have hlt := hc1.lt
  have hcA := hc1.alloc (.cells #[] 40)
  have hbA : Below w.heap.size w (w1.alloc (.cells #[] 40)) := ((Below.refl _ _).grown hg1 (Nat.le_refl _) (fun _ h => by cases h)).alloc hg1.size _
  have HOA := Lib.hid (OwnC.made0 w1)
  have hs1 : w.heap.size < w1.heap.size := hlt
  go_wp2_with fail
  generalize w1.alloc (.cells #[] 40) = wA at *
  refine (l01Below_any _ _ _ hcA (by decide) (by decide)).mono ?_
  rintro e w2 ⟨x, hx, _, rfl, hc2, hg2⟩
  have hx := hx (by decide)
  have hne : w1.heap.size ≠ w.heap.size := by omega
  have HO2 := Lib.hid (HOA.out.kept hg2 (.inr (by intro e; exact hne (Option.some.inj e))))
  have hb2 : Below w.heap.size w w2 := hbA.grown hg2 hbA.size (fun r hr => by cases hr; exact Nat.le_refl _)
  have hs2 : w1.heap.size ≤ w2.heap.size := by have h1 := (HO2.out.lt w1.heap.size rfl).2; omega
  clear hc1 hg1 hcA hg2 HOA hbA
  go_wp2
  go_loopw [4, 5] (fun out nn wr => ∃ (m g cap : Nat) (cs : List C3), nn = .int .i64 (m : Int) ∧ out = .slice (some ⟨g, 0, none⟩) cs.length cap ∧ (1 ≤ cs.length + m ∧ cs.length + m ≤ 6) ∧ PlainR cs ∧ Cur wr w.heap.size ∧ Below w.heap.size w wr ∧ w1.heap.size ≤ wr.heap.size ∧ OwnC wr w1.heap.size (.slice (some ⟨g, 0, none⟩) cs.length cap) cs) (fun _ nn _ => (intOf nn).toNat)
  case atStart => exact ⟨1 + x, _, 0, [], by go_num, rfl, by simp; omega, (by intro c hc; cases hc), hc2, hb2, hs2, HO2.out⟩
  case round =>
    obtain ⟨m, g, cap, cs, rfl, rfl, hm, hp, hcr, hb, hsr, hown⟩ := hrel
    have HO := Lib.hid hown
    have HP := Lib.hid hp
    clear hown HO2 hp
    by_cases hm0 : 0 < m
    · go_wp2_with fail
      refine (l02Plain_any _ _ hcr).mono ?_
      rintro e w3 ⟨y, u, v, p, q, r, hpc, rfl, hc3, hg3⟩
      have hgne : g ≠ w.heap.size := by have := (HO.out.lt g rfl).1; omega
      have HO3 := Lib.hid (HO.out.kept hg3 (.inr (by intro e; exact hgne (Option.some.inj e))))
      have hb3 : Below w.heap.size w w3 := hb.grown hg3 hb.size (fun r hr => by cases hr; exact Nat.le_refl _)
      have hs3 : w1.heap.size ≤ w3.heap.size := Nat.le_trans hsr hg3.size
      have HL := Lib.hid (row_lit w3 y u v)
      have HPC := Lib.hid hpc
      clear hg3 hcr hb HO hpc
      go_wp2_with (at_builtin; refine own_append rfl (.tmp 16) (.tmp 19) rfl w1.heap.size _ cs [(y, u, v)] rfl (HO3.out.alloc _) _ _ _ rfl HL.out (by simp) (by simp; omega) (by simp; omega) ?_; intro g6 cap6 w6 ho6 hg6 hor6 hlt6)
      have hc6 : Cur w6 w.heap.size := (hc3.alloc _).grown hg6 (fun r hr => by have := (HO3.out.lt r hr).1; omega)
      have hb6 : Below w.heap.size w w6 := (hb3.alloc hb3.size _).grown hg6 (Nat.le_trans hb3.size (by simp)) (fun r hr => by have := (HO3.out.lt r hr).1; omega)
      have hs6 : w1.heap.size ≤ w6.heap.size := by have := hg6.size; simp at this; omega
      have HO6 := Lib.hid ho6
      clear ho6 hg6 hor6
      go_wp2
      go_roundw
      case rel => exact ⟨m - 1, g6, cap6, cs ++ [(y, u, v)], by go_num, by simp, by simp; omega, HP.out.snoc HPC.out, hc6, hb6, hs6, by simpa using HO6.out⟩
      case measure => simp [intOf]; omega
    · have hm1 : m = 0 := by omega
      subst hm1
      go_wp2
      go_ret
      exact PlainDraw.mk (by omega) HP.out HO.out.row hb

theorem decode_any (v : Value) (xs : List Nat) (odd : Bool) (w : World) (h : FRow w v xs) (hl : xs.length ≤ 4000000) :
    Calls Try.prog 61 #[v, .bool odd] w fun e w' => DecPost xs odd w e w' := by
  obtain ⟨a, c, rfl, hcell⟩ := h.any
  by_cases hm : xs.length % 4 = 0
  · exact callsIn_wide.1 (decode_in a c (xs.length / 4) xs odd w (by omega) hl hcell)
  · have hmod : ((xs.length : Int) % 4 != 0) = true := by simp; omega
    have HM := Lib.hid hm
    clear hcell h hm
    go_enter Try.func61, Try.ntmps61
    go_wp2
    go_ret2
    exact ⟨_, [], fun h => absurd h HM.out, fun _ => rfl, (by intro c hc; cases hc), rfl, RNew.nil _ _, Below.refl _ _⟩
end Go.Proofs.Ytgecclccmmcdoaa
