/-
  What is proved: what the exact laws do with sets: sizing, copying, comparing, marking.
  Conditions: those that each fact names.
-/
import Derived.Test.YtobpnoiienpipaaGreatPz30
import Derived.Test.YtobpnoiienpipaaGreatPz10
import Derived.Test.YtobpnoiienpipaaGreatPz05
import Derived.Test.YtobpnoiienpipaaGreatPz22
import Derived.Deep.RegionHeld3
namespace Go.Proofs.YtobpnoiienpipaaGreat
set_option linter.unusedVariables false
open Go.RowKit
attribute [local go_sem] run_store_float run_store_complex unary_negf neg256

/-- A set: what it holds but for its log. -/
structure SetC where
  c : Int
  r : Int
  s : Nat
  l : Nat
  t : Nat
def SetC.ok (x : SetC) : Prop := I64 x.c ∧ I64 x.r
/-- Its value; v is the log. -/
def SetC.val (x : SetC) (v : Value) : Value := .agg #[.int .i64 x.c, .int .i64 x.r, .float .f32 x.s, .float .f32 x.l, .float .f32 x.t, v]
def SetC.cells (x : SetC) (v : Value) : Array Value := #[.int .i64 x.c, .int .i64 x.r, .float .f32 x.s, .float .f32 x.l, .float .f32 x.t, v]
/-- Widening a single, in any world. -/
theorem conv_fun (x : Nat) : ∃ (R : World → Nat) (n : Nat), (∀ W, (convert 25 80 (.float .f32 x)).run Tryz.prog W = .ok (.float .f64 (R W)) (W.drewN n)) ∧
    ((isN x = false ∧ ∃ r, (Ieee.double.read r).isNaN = false ∧ ∀ W, R W = r) ∨ (isN x = true ∧ ∀ W, (Ieee.double.read (R W)).isNaN = true)) := by
  rcases conv_any x with ⟨r, hn, hx, hc⟩ | ⟨hx, hc⟩
  · exact ⟨fun _ => r, 0, hc, .inl ⟨hx, r, hn, fun _ => rfl⟩⟩
  · exact ⟨fun W => (hc W).choose, 1, fun W => (hc W).choose_spec.2, .inr ⟨hx, fun W => (hc W).choose_spec.1⟩⟩
/-- Two singles that are the same, widened, are the same for the laws. -/
theorem same_conv {x y : Nat} (h : Sm x y) : ∃ (R R' : World → Nat) (n n' : Nat), (∀ W, (convert 25 80 (.float .f32 x)).run Tryz.prog W = .ok (.float .f64 (R W)) (W.drewN n)) ∧
    (∀ W, (convert 25 80 (.float .f32 y)).run Tryz.prog W = .ok (.float .f64 (R' W)) (W.drewN n')) ∧
    ∀ W W' w, Calls Tryz.prog 47 #[.float .f64 (R W), .float .f64 (R' W')] w fun e w' => e = .returned (.bool true) ∧ w = w' := by
  obtain ⟨R, n, hR, h1⟩ := conv_fun x
  obtain ⟨R', n', hR', h2⟩ := conv_fun y
  refine ⟨R, R', n, n', hR, hR', fun W W' w => ?_⟩
  rcases h1 with ⟨hx, r, hr, e1⟩ | ⟨hx, e1⟩
  · have e : x = y := h.elim id fun h => by rw [hx] at h; exact absurd h.1 (by decide)
    subst e
    have hq : R W = R' W' := by
      rcases h2 with ⟨_, r', hr', e2⟩ | ⟨hx', _⟩
      · have a := hR w
        rw [hR' w] at a
        injection a with a1 a2
        injection a1 with a3 a4
        rw [e1, e2, ← e1 w, ← e2 w]
        exact a4.symm
      · rw [hx] at hx'; cases hx'
    rw [← hq, e1]
    exact sameFloat_self r w hr
  · have hy : isN y = true := h.elim (fun e => by rw [← e]; exact hx) fun h => h.2
    rcases h2 with ⟨hy', _⟩ | ⟨_, e2⟩
    · rw [hy] at hy'; cases hy'
    · exact sameFloat_nan _ _ w (e1 W) (e2 W')
set_option maxHeartbeats 1000000 in
theorem szSet_any (x : SetC) (v : Value) (ls : List (List UInt8)) (left : Nat) (w : World) (h : TRow w v ls) (hm : ∀ l ∈ ls, l.length ≤ maxLen) (hl : ls.length ≤ maxLen) (hL : left ≤ 1048576) :
    Calls Tryz.prog 12 #[x.val v, .int .i64 (left : Int)] w fun e w' => e = .returned (.int .i64 (szT ls left)) ∧ Below w.heap.size w w' := by
  have hb : Below w.heap.size w (w.alloc (.cells (x.cells v) 44)) := (Below.refl _ _).alloc (Nat.le_refl _) _
  have HZ := Lib.hid (szStringS_any v ls left _ (h.below hb) hm hl hL)
  have hr : szT ls left = -1 ∨ 0 ≤ szT ls left := by
    unfold szT
    split
    · right; omega
    · left; rfl
  obtain ⟨a, c, rfl⟩ := h.lenv
  obtain ⟨xc, xr, xs, xl, xt⟩ := x
  simp only [SetC.val, SetC.cells] at *
  clear h hm hl
  generalize szT ls left = z at *
  go_enter Tryz.func12, Tryz.ntmps12
  go_wp2_with fail
  refine HZ.out.mono ?_
  rintro e w1 ⟨rfl, rfl⟩
  rcases hr with rfl | hr
  · go_wp2
    go_ret
    exact ⟨rfl, hb⟩
  · go_wp2
    go_ret
    exact ⟨rfl, hb⟩
theorem alloc_keeps (W : World) (o : Obj) {k : Nat} (h : k < W.heap.size) : (W.alloc o).heap[k]? = W.heap[k]? := ((Below.refl W.heap.size W).alloc (Nat.le_refl _) o).block k h
theorem alloc3 (w : World) (o1 o2 o3 : Obj) : (((w.alloc o1).alloc o2).alloc o3).heap[w.heap.size + 1]? = some o2 ∧ (((w.alloc o1).alloc o2).alloc o3).heap[w.heap.size + 2]? = some o3 ∧
    (((w.alloc o1).alloc o2).alloc o3).heap.size = w.heap.size + 3 ∧ Below w.heap.size w (((w.alloc o1).alloc o2).alloc o3) := by
  have h1 : (w.alloc o1).heap.size = w.heap.size + 1 := by simp
  have h2 : ((w.alloc o1).alloc o2).heap.size = w.heap.size + 2 := by simp
  refine ⟨?_, ?_, by simp, ?_⟩
  · rw [alloc_keeps _ _ (by omega), ← h1]
    exact heap_alloc_new _ _
  · rw [← h2]
    exact heap_alloc_new _ _
  · exact (((Below.refl _ _).alloc (Nat.le_refl _) _).alloc (by omega) _).alloc (by omega) _
set_option maxHeartbeats 1000000 in
theorem toSet_any (x : SetC) (v : Value) (ls : List (List UInt8)) (w : World) (h : TRow w v ls) (hl : ls.length ≤ 3000000) :
    Calls Tryz.prog 14 #[x.val v] w fun e w' => ∃ v', e = .returned (x.val v') ∧ OwnS w' w.heap.size v' ls ∧ Below w.heap.size w w' := by
  have HT := fun W hr => Lib.hid (toStringS_any v ls W hr hl)
  have HR := Lib.hid h
  obtain ⟨a, c, rfl⟩ := h.lenv
  obtain ⟨xc, xr, xs, xl, xt⟩ := x
  simp only [SetC.val, SetC.cells] at *
  clear h
  go_enter Tryz.func14, Tryz.ntmps14
  go_wp2_with fail
  obtain ⟨hh1, hh2, hsz, hb3⟩ := alloc3 w (.cells #[.int .i64 xc, .int .i64 xr, .float .f32 xs, .float .f32 xl, .float .f32 xt, .slice a ls.length c] 44) (.cells #[.int .i64 0, .int .i64 0, .float .f32 0, .float .f32 0, .float .f32 0, .slice none 0 0] 37) (.cells #[.int .i64 xc, .int .i64 xr, .float .f32 xs, .float .f32 xl, .float .f32 xt, .slice none 0 0] 37)
  generalize World.alloc (World.alloc (World.alloc w _) _) _ = X at *
  refine (HT X (HR.out.below hb3)).out.mono ?_
  rintro e w1 ⟨v', rfl, ho, hb1⟩
  have k1 := (hb1.block _ (by omega)).trans hh1
  have k2 := (hb1.block _ (by omega)).trans hh2
  have HO := Lib.hid ho
  obtain ⟨a', c', rfl⟩ := ho.row.lenv
  obtain ⟨p0, p1, p2, p3, p4, p5⟩ : (w1.cell? ⟨w.heap.size + 1 + 1, 0, none⟩ = some (.int .i64 xc)) ∧ (w1.cell? ⟨w.heap.size + 1 + 1, 1, none⟩ = some (.int .i64 xr)) ∧ (w1.cell? ⟨w.heap.size + 1 + 1, 2, none⟩ = some (.float .f32 xs)) ∧ (w1.cell? ⟨w.heap.size + 1 + 1, 3, none⟩ = some (.float .f32 xl)) ∧ (w1.cell? ⟨w.heap.size + 1 + 1, 4, none⟩ = some (.float .f32 xt)) ∧ (w1.cell? ⟨w.heap.size + 1 + 1, 5, none⟩ = some (.slice none 0 0)) := by
    refine ⟨?_, ?_, ?_, ?_, ?_, ?_⟩ <;> simp [World.cell?, k2, Nat.add_assoc]
  have q5 : w1.frozen? ⟨w.heap.size + 1 + 1, 5, none⟩ = false := by simp [World.frozen?, k2, Nat.add_assoc]
  obtain ⟨r0, r1, r2, r3, r4, r5⟩ : (w1.cell? ⟨w.heap.size + 1, 0, none⟩ = some (.int .i64 0)) ∧ (w1.cell? ⟨w.heap.size + 1, 1, none⟩ = some (.int .i64 0)) ∧ (w1.cell? ⟨w.heap.size + 1, 2, none⟩ = some (.float .f32 0)) ∧ (w1.cell? ⟨w.heap.size + 1, 3, none⟩ = some (.float .f32 0)) ∧ (w1.cell? ⟨w.heap.size + 1, 4, none⟩ = some (.float .f32 0)) ∧ (w1.cell? ⟨w.heap.size + 1, 5, none⟩ = some (.slice none 0 0)) := by
    refine ⟨?_, ?_, ?_, ?_, ?_, ?_⟩ <;> simp [World.cell?, k1]
  obtain ⟨s0, s1, s2, s3, s4, s5⟩ : w1.frozen? ⟨w.heap.size + 1, 0, none⟩ = false ∧ w1.frozen? ⟨w.heap.size + 1, 1, none⟩ = false ∧ w1.frozen? ⟨w.heap.size + 1, 2, none⟩ = false ∧ w1.frozen? ⟨w.heap.size + 1, 3, none⟩ = false ∧ w1.frozen? ⟨w.heap.size + 1, 4, none⟩ = false ∧ w1.frozen? ⟨w.heap.size + 1, 5, none⟩ = false := by
    refine ⟨?_, ?_, ?_, ?_, ?_, ?_⟩ <;> simp [World.frozen?, k1]
  clear hh1 hh2 ho
  go_wp2
  refine bodyPost_ret (v := .agg #[.int .i64 xc, .int .i64 xr, .float .f32 xs, .float .f32 xl, .float .f32 xt, .slice a' ls.length c']) ?_ rfl ⟨_, rfl, ?_, ?_⟩
  · simp [results, Tryz.results14, go_sem, r0, r1, r2, r3, r4, r5]
  · refine (HO.out.same (fun k hk _ => ?_)).low (by omega)
    have e1 : ¬ w.heap.size + 1 = k := by omega
    have e2 : ¬ w.heap.size + 1 + 1 = k := by omega
    simp [World.setCell, Array.getElem?_modify, e1, e2]
  · have hbw : Below w.heap.size w w1 := below_trans hb3 hb1 hb3.size
    exact (((((((hbw.setCell (p := ⟨_, _, none⟩) (by simp; omega) _).setCell (p := ⟨_, _, none⟩) (by simp) _).setCell (p := ⟨_, _, none⟩) (by simp) _).setCell (p := ⟨_, _, none⟩) (by simp) _).setCell (p := ⟨_, _, none⟩) (by simp) _).setCell (p := ⟨_, _, none⟩) (by simp) _).setCell (p := ⟨_, _, none⟩) (by simp) _)
/-- Two sets are the same, but for their logs. -/
def SetC.Same (x y : SetC) : Prop := x.c = y.c ∧ x.r = y.r ∧ Sm x.s y.s ∧ Sm x.l y.l ∧ Sm x.t y.t
theorem SetC.Same.refl (x : SetC) : x.Same x := ⟨rfl, rfl, Sm.refl _, Sm.refl _, Sm.refl _⟩
theorem belowD {w W : World} (h : Below w.heap.size w W) (n : Nat) : Below w.heap.size w (W.drewN n) := ⟨h.os, h.tape, h.output, h.size, h.block⟩
set_option maxHeartbeats 1000000 in
theorem eqSet_any (x y : SetC) (v v' : Value) (ls : List (List UInt8)) (b b' : Nat) (w : World) (hx : x.Same y) (h : OwnS w b v ls) (h' : OwnS w b' v' ls) (hl : ls.length ≤ 3000000) :
    Calls Tryz.prog 17 #[x.val v, y.val v'] w fun e w' => e = .returned (.bool true) ∧ Below w.heap.size w w' := by
  have HE := fun W (hW : Below w.heap.size w W) => Lib.hid (eqStringS_any v v' ls b b' W (h.below hW) (h'.below hW) hl)
  obtain ⟨xc, xr, xs, xl, xt⟩ := x
  obtain ⟨yc, yr, ys, yl, yt⟩ := y
  obtain ⟨e1, e2, e3, e4, e5⟩ := hx
  simp only at e1 e2 e3 e4 e5
  subst e1 e2
  obtain ⟨R1, R1', n1, n1', c1, c1', s1⟩ := same_conv e3
  obtain ⟨R2, R2', n2, n2', c2, c2', s2⟩ := same_conv e4
  obtain ⟨R3, R3', n3, n3', c3, c3', s3⟩ := same_conv e5
  have S1 := fun a b c => Lib.hid (s1 a b c)
  have S2 := fun a b c => Lib.hid (s2 a b c)
  have S3 := fun a b c => Lib.hid (s3 a b c)
  obtain ⟨a, c, rfl⟩ := h.row.lenv
  obtain ⟨a', c', rfl⟩ := h'.row.lenv
  have hb2 : ∀ o1 o2, Below w.heap.size w ((w.alloc o1).alloc o2) := fun o1 o2 => ((Below.refl _ _).alloc (Nat.le_refl _) _).alloc (by simp) _
  simp only [SetC.val]
  clear s1 s2 s3 e3 e4 e5 h h' hl
  go_enter Tryz.func17, Tryz.ntmps17
  go_wp2_with fail
  refine (S1 _ _ _).out.mono ?_
  rintro e w1 ⟨rfl, rfl⟩
  go_wp2_with fail
  refine (S2 _ _ _).out.mono ?_
  rintro e w1 ⟨rfl, rfl⟩
  go_wp2_with fail
  refine (S3 _ _ _).out.mono ?_
  rintro e w1 ⟨rfl, rfl⟩
  go_wp2_with fail
  have hbb := belowD (hb2 (.cells #[.int .i64 xc, .int .i64 xr, .float .f32 xs, .float .f32 xl, .float .f32 xt, .slice a ls.length c] 37) (.cells #[.int .i64 xc, .int .i64 xr, .float .f32 ys, .float .f32 yl, .float .f32 yt, .slice a' ls.length c'] 37)) (n1 + n1' + n2 + n2' + n3 + n3')
  refine (HE _ hbb).out.mono ?_
  rintro e w1 ⟨rfl, hb1⟩
  have hbz := below_trans hbb hb1 hbb.size
  go_wp2
  go_ret
  exact ⟨rfl, hbz⟩
set_option maxHeartbeats 1000000 in
theorem markSet_any (x : SetC) (k base : Nat) (v : Value) (ls : List (List UInt8)) (w : World) (h : OwnS w base v ls) (h0 : 1 ≤ k) (h1 : k ≤ 3000000) (hl : ls.length ≤ 3000000) :
    Calls Tryz.prog 19 #[x.val v, .int .i64 (k : Int)] w fun e w' => TMarkPost base v k ls.length w e w' := by
  have hA : ∀ o, w.grownBy (w.alloc o) v.ownBlock := fun o => World.grownBy_alloc w o _
  have HM := fun o => Lib.hid (markStringS_any k base v ls (w.alloc o) (h.alloc o) h0 h1 hl)
  obtain ⟨a, c, rfl⟩ := h.row.lenv
  obtain ⟨xc, xr, xs, xl, xt⟩ := x
  simp only [SetC.val]
  clear h
  go_enter Tryz.func19, Tryz.ntmps19
  go_wp2_with fail
  refine (HM _).out.mono ?_
  rintro e w1 ⟨rfl, ho, hg⟩
  have HO := Lib.hid (And.intro ho ((hA _).trans hg))
  clear ho hg hA HM
  go_wp2
  go_ret
  exact ⟨rfl, HO.out⟩
/-- A set lies at the head of block b. -/
abbrev SetAt (W : World) (b : Nat) (x : SetC) (v : Value) : Prop := W.cell? ⟨b, 0, none⟩ = some (.int .i64 x.c) ∧ W.cell? ⟨b, 1, none⟩ = some (.int .i64 x.r) ∧ W.cell? ⟨b, 2, none⟩ = some (.float .f32 x.s) ∧ W.cell? ⟨b, 3, none⟩ = some (.float .f32 x.l) ∧ W.cell? ⟨b, 4, none⟩ = some (.float .f32 x.t) ∧ W.cell? ⟨b, 5, none⟩ = some v
theorem SetAt.of {W : World} {b : Nat} {x : SetC} {v : Value} {t : TypeId} (h : W.heap[b]? = some (.cells (x.cells v) t (0, 0))) : SetAt W b x v := by
  refine ⟨?_, ?_, ?_, ?_, ?_, ?_⟩ <;> simp [World.cell?, h, SetC.cells]
theorem SetAt.new (W : World) (x : SetC) (v : Value) (t : TypeId) : SetAt (W.alloc (.cells (x.cells v) t)) W.heap.size x v := SetAt.of (heap_alloc_new W _)
theorem SetAt.keep {W W' : World} {b n : Nat} {x : SetC} {v : Value} (h : SetAt W b x v) (hb : Below n W W') (hn : b < n) : SetAt W' b x v := by
  obtain ⟨h0, h1, h2, h3, h4, h5⟩ := h
  exact ⟨(hb.cell (p := ⟨b, 0, none⟩) hn).trans h0, (hb.cell (p := ⟨b, 1, none⟩) hn).trans h1, (hb.cell (p := ⟨b, 2, none⟩) hn).trans h2, (hb.cell (p := ⟨b, 3, none⟩) hn).trans h3, (hb.cell (p := ⟨b, 4, none⟩) hn).trans h4, (hb.cell (p := ⟨b, 5, none⟩) hn).trans h5⟩
end Go.Proofs.YtobpnoiienpipaaGreat

/-
  What is proved: the walk of MeanRow.
  Conditions: both rows can be read.
-/
namespace Go.Proofs.YtobpnoiienpipaaGreat
set_option linter.unusedVariables false
open Go.RowKit
attribute [local go_sem] run_store_float run_store_complex unary_negf neg256

def meanOk (a b : List C3) : Bool := rok a && (rok b && decide (a.length = b.length))
def MeanPost (a b : List C3) (w : World) (e : Ending) (w' : World) : Prop := ∃ v', e = .returned (.tuple #[v', .bool (meanOk a b)]) ∧ (meanOk a b = true → RowV w' v' (List.zipWith mid a b)) ∧ Below w.heap.size w w'
theorem MeanPost.no {a b : List C3} {w w' : World} {v' : Value} (h : meanOk a b = false) (hb : Below w.heap.size w w') : MeanPost a b w (.returned (.tuple #[v', .bool false])) w' := ⟨v', by rw [h], (fun e => by rw [h] at e; cases e), hb⟩
theorem MeanPost.yes {a b : List C3} {w w' : World} {v' : Value} (h : meanOk a b = true) (hr : RowV w' v' (List.zipWith mid a b)) (hb : Below w.heap.size w w') : MeanPost a b w (.returned (.tuple #[v', .bool true])) w' := ⟨v', by rw [h], fun _ => hr, hb⟩
theorem RowV.len {w : World} {v : Value} {cs : List C3} (h : RowV w v cs) (hne : cs ≠ []) : ∃ g o cap, v = .slice (some ⟨g, o, none⟩) cs.length cap ∧ cs.length ≤ cap ∧
    ∀ i (h : i < cs.length), w.cell? ⟨g, o + i * 2, none⟩ = some (.float .f32 cs[i].1) ∧ w.cell? ⟨g, o + i * 2 + 1, none⟩ = some (.complex .f32 cs[i].2.1 cs[i].2.2) := by
  rcases h with ⟨_, h⟩ | h
  · exact absurd h hne
  · exact h
theorem RowV.lenv {w : World} {v : Value} {cs : List C3} (h : RowV w v cs) : ∃ a cap, v = .slice a cs.length cap := by
  rcases h with ⟨h, h2⟩ | ⟨g, o, cap, h, _⟩
  · subst h2; exact ⟨none, 0, h⟩
  · exact ⟨_, _, h⟩

/-- What holds all through a round. -/
def Mid (w : World) (B n k : Nat) (zs : List C3) (W : World) : Prop := Below w.heap.size w W ∧ B < W.heap.size ∧ Made W B n k zs
theorem Mid.drew {w W : World} {B n k : Nat} {zs : List C3} (h : Mid w B n k zs W) : Mid w B n k zs W.drew := ⟨h.1.drew, h.2.1, h.2.2⟩
theorem Mid.next {w W W' : World} {B n k : Nat} {zs : List C3} (h : Mid w B n k zs W) (hb : Below W.heap.size W W') : Mid w B n k zs W' :=
  ⟨below_trans h.1 hb h.1.size, Nat.lt_of_lt_of_le h.2.1 hb.size, h.2.2.kept (hb.block _ h.2.1)⟩
theorem Mid.load {w W : World} {B n k : Nat} {zs : List C3} (h : Mid w B n k zs W) {p : Addr} {v : Value} (hc : w.cell? p = some v) : W.cell? p = some v := (grown_of h.1).cell hc (by simp)
theorem Mid.put {w W : World} {B n k : Nat} {zs : List C3} (h : Mid w B n k zs W) (hwB : w.heap.size ≤ B) (hn : k < zs.length) (hk : zs.length ≤ n) :
    Mid w B n (k + 1) zs ((W.setCell ⟨B, k * 2, none⟩ (.float .f32 zs[k].1)).setCell ⟨B, k * 2 + 1, none⟩ (.complex .f32 zs[k].2.1 zs[k].2.2)) :=
  ⟨(h.1.setCell (p := ⟨B, k * 2, none⟩) hwB _).setCell (p := ⟨B, k * 2 + 1, none⟩) hwB _, by simpa [World.setCell] using h.2.1, h.2.2.step hn hk⟩
end Go.Proofs.YtobpnoiienpipaaGreat

/-
  What is proved: the walk of isRowCount.
  Conditions: the number is a 64-bit one.
-/
namespace Go.Proofs.YtobpnoiienpipaaGreat
set_option linter.unusedVariables false
open Go.RowKit

/-- Is it a number of rows? -/
def rowCnt (n : Int) : Bool := decide (n % 4 = 0) && (decide (4 ≤ n) && decide (n ≤ 64))
theorem isRowCount_any (n : Int) (h0 : -9223372036854775808 ≤ n) (h1 : n ≤ 9223372036854775807) (w : World) :
    Calls Tryz.prog 55 #[.int .i64 n] w fun e w' => e = .returned (.bool (rowCnt n)) ∧ w = w' := by
  rcases Int.lt_or_le n 4 with h | h
  · have hr : rowCnt n = false := by unfold rowCnt; simp; omega
    have HR := Lib.hid hr
    clear hr
    go_enter Tryz.func55, Tryz.ntmps55
    go_wp2
    all_goals
      go_ret
      exact ⟨by rw [HR.out]; first | rfl | simp, rfl⟩
  · have hm : rowCnt n = (n % 4 == 0 && decide (n ≤ 64)) := by
      by_cases hm : n % 4 = 0 <;> simp [rowCnt, h, hm]
    have HR := Lib.hid hm
    clear hm
    go_enter Tryz.func55, Tryz.ntmps55
    go_wp2
    all_goals
      go_ret
      refine ⟨?_, rfl⟩
      rw [HR.out]
      simp_all
end Go.Proofs.YtobpnoiienpipaaGreat
