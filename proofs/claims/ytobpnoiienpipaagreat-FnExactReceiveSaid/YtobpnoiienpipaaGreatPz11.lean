/-
  What is proved: what the model draws for chapter 5: channels, complex numbers, echoes.
  Conditions: the cursor's block holds a cursor; the bytes can be read.
-/
import Derived.Test.YtobpnoiienpipaaGreatPz10
import Derived.OwnWalk
import Derived.Test.YtobpnoiienpipaaGreatPz07
import Derived.Test.YtobpnoiienpipaaGreatPz04
import Derived.Test.YtobpnoiienpipaaGreatPz05
namespace Go.Proofs.YtobpnoiienpipaaGreat
set_option linter.unusedVariables false
open Go.RowKit
open Flt (Q)
attribute [local go_sem] run_store_float run_store_complex unary_negf neg256

theorem PlainC.fit {h : Chn} (hp : PlainC h) : h.X < 2 ^ 32 ∧ h.Y < 2 ^ 32 := by
  obtain ⟨α, ω, ξ, η, ⟨⟨_, _, h1, h2⟩, _⟩, _⟩ := hp
  exact ⟨h1.1, h2.1⟩
/-- A channel lies in a block. -/
def HoldC (w : World) (x A O X Y : Nat) : Prop := (X < 2 ^ 32 ∧ Y < 2 ^ 32) ∧ w.heap[x]? = some (.cells #[.float .f32 A, .float .f32 O, .complex .f32 X Y] 28 (0, 0))
theorem HoldC.c0 {w : World} {x A O X Y : Nat} (h : HoldC w x A O X Y) : w.cell? ⟨x, 0, none⟩ = some (.float .f32 A) := by simp [World.cell?, h.2]
theorem HoldC.c1 {w : World} {x A O X Y : Nat} (h : HoldC w x A O X Y) : w.cell? ⟨x, 1, none⟩ = some (.float .f32 O) := by simp [World.cell?, h.2]
theorem HoldC.c2 {w : World} {x A O X Y : Nat} (h : HoldC w x A O X Y) : w.cell? ⟨x, 2, none⟩ = some (.complex .f32 X Y) := by simp [World.cell?, h.2]
theorem HoldC.f0 {w : World} {x A O X Y : Nat} (h : HoldC w x A O X Y) : w.frozen? ⟨x, 0, none⟩ = false := by simp [World.frozen?, h.2]
theorem HoldC.f1 {w : World} {x A O X Y : Nat} (h : HoldC w x A O X Y) : w.frozen? ⟨x, 1, none⟩ = false := by simp [World.frozen?, h.2]
theorem HoldC.f2 {w : World} {x A O X Y : Nat} (h : HoldC w x A O X Y) : w.frozen? ⟨x, 2, none⟩ = false := by simp [World.frozen?, h.2]
theorem HoldC.kept {w w' : World} {x A O X Y : Nat} {row : Option Nat} (h : HoldC w x A O X Y) (hg : w.grownBy w' row) (hne : some x ≠ row) : HoldC w' x A O X Y :=
  ⟨h.1, (hg.block x (Array.getElem?_eq_some_iff.1 h.2).1 hne).trans h.2⟩
theorem HoldC.new (w : World) {A O X Y : Nat} (h : X < 2 ^ 32 ∧ Y < 2 ^ 32) : HoldC (w.alloc (.cells #[.float .f32 A, .float .f32 O, .complex .f32 X Y] 28)) w.heap.size A O X Y := ⟨h, heap_alloc_new w _⟩
theorem HoldC.set0 {w : World} {x A O X Y : Nat} (h : HoldC w x A O X Y) (A' : Nat) : HoldC (w.setCell ⟨x, 0, none⟩ (.float .f32 A')) x A' O X Y := ⟨h.1, heap_put (i := 0) h.2⟩
theorem HoldC.set1 {w : World} {x A O X Y : Nat} (h : HoldC w x A O X Y) (O' : Nat) : HoldC (w.setCell ⟨x, 1, none⟩ (.float .f32 O')) x A O' X Y := ⟨h.1, heap_put (i := 1) h.2⟩
theorem HoldC.set2 {w : World} {x A O X Y X' Y' : Nat} (h : HoldC w x A O X Y) (h' : X' < 2 ^ 32 ∧ Y' < 2 ^ 32) : HoldC (w.setCell ⟨x, 2, none⟩ (.complex .f32 X' Y')) x A O X' Y' := ⟨h', heap_put (i := 2) h.2⟩
theorem HoldC.drewN {w : World} {x A O X Y : Nat} (h : HoldC w x A O X Y) (n : Nat) : HoldC (w.drewN n) x A O X Y := h
theorem HoldC.all {w : World} {x A O X Y : Nat} (h : HoldC w x A O X Y) : w.cell? ⟨x, 0, none⟩ = some (.float .f32 A) ∧ w.cell? ⟨x, 1, none⟩ = some (.float .f32 O) ∧ w.cell? ⟨x, 2, none⟩ = some (.complex .f32 X Y) ∧ w.frozen? ⟨x, 0, none⟩ = false ∧ w.frozen? ⟨x, 1, none⟩ = false ∧ w.frozen? ⟨x, 2, none⟩ = false := ⟨h.c0, h.c1, h.c2, h.f0, h.f1, h.f2⟩
/-- All three fields written. -/
def putC (w : World) (x A O X Y : Nat) : World := ((w.setCell ⟨x, 0, none⟩ (.float .f32 A)).setCell ⟨x, 1, none⟩ (.float .f32 O)).setCell ⟨x, 2, none⟩ (.complex .f32 X Y)
theorem HoldC.put {w : World} {x A O X Y A' O' X' Y' : Nat} (h : HoldC w x A O X Y) (h' : X' < 2 ^ 32 ∧ Y' < 2 ^ 32) : HoldC (putC w x A' O' X' Y') x A' O' X' Y' := ((h.set0 A').set1 O').set2 h'
theorem putC.grown {w : World} (x A O X Y : Nat) : w.grownBy (putC w x A O X Y) (some x) := ((Lib.grownBy_setCell w x 0 _).trans (Lib.grownBy_setCell _ x 1 _)).trans (Lib.grownBy_setCell _ x 2 _)
theorem putC.cur {w : World} {x A O X Y b : Nat} (h : Cur w b) (hb : b < x) : Cur (putC w x A O X Y) b := h.grown (putC.grown x A O X Y) (fun r e => by cases e; exact hb)
theorem putC.below {a w : World} {x A O X Y b : Nat} (h : a.grownBy w (some b)) (hx : a.heap.size ≤ x) : a.grownBy (putC w x A O X Y) (some b) := grown_set (grown_set (grown_set h (p := ⟨x, 0, none⟩) hx _) (p := ⟨x, 1, none⟩) hx _) (p := ⟨x, 2, none⟩) hx _
/-- What stands ahead of the return: the channel, and the place of the answer. -/
structure AtEnd (w wz : World) (b x A O X Y : Nat) : Prop where
  ch : HoldC wz x A O X Y
  res : HoldC wz w.heap.size 0 0 0 0
  cur : Cur wz b
  grown : w.grownBy wz (some b)
theorem AtEnd.set0 {w wz : World} {b x A O X Y : Nat} (h : AtEnd w wz b x A O X Y) (hb : b < w.heap.size) (hx : w.heap.size < x) (A' : Nat) : AtEnd w (wz.setCell ⟨x, 0, none⟩ (.float .f32 A')) b x A' O X Y :=
  ⟨h.ch.set0 A', h.res.kept (Lib.grownBy_setCell wz x 0 _) (by intro e; cases e; omega), h.cur.set (p := ⟨x, 0, none⟩) (by show b < x; omega) _, grown_set h.grown (p := ⟨x, 0, none⟩) (by show _ ≤ x; omega) _⟩
theorem AtEnd.set1 {w wz : World} {b x A O X Y : Nat} (h : AtEnd w wz b x A O X Y) (hb : b < w.heap.size) (hx : w.heap.size < x) (O' : Nat) : AtEnd w (wz.setCell ⟨x, 1, none⟩ (.float .f32 O')) b x A O' X Y :=
  ⟨h.ch.set1 O', h.res.kept (Lib.grownBy_setCell wz x 1 _) (by intro e; cases e; omega), h.cur.set (p := ⟨x, 1, none⟩) (by show b < x; omega) _, grown_set h.grown (p := ⟨x, 1, none⟩) (by show _ ≤ x; omega) _⟩
theorem AtEnd.set2 {w wz : World} {b x A O X Y X' Y' : Nat} (h : AtEnd w wz b x A O X Y) (hb : b < w.heap.size) (hx : w.heap.size < x) (hf : X' < 2 ^ 32 ∧ Y' < 2 ^ 32) : AtEnd w (wz.setCell ⟨x, 2, none⟩ (.complex .f32 X' Y')) b x A O X' Y' :=
  ⟨h.ch.set2 hf, h.res.kept (Lib.grownBy_setCell wz x 2 _) (by intro e; cases e; omega), h.cur.set (p := ⟨x, 2, none⟩) (by show b < x; omega) _, grown_set h.grown (p := ⟨x, 2, none⟩) (by show _ ≤ x; omega) _⟩
theorem AtEnd.next {w wz w' : World} {b x A O X Y : Nat} (h : AtEnd w wz b x A O X Y) (hb : b < w.heap.size) (hx : w.heap.size < x) (hc : Cur w' b) (hg : wz.grownBy w' (some b)) (n : Nat) : AtEnd w (w'.drewN n) b x A O X Y :=
  ⟨(h.ch.kept hg (by intro e; cases e; omega)).drewN n, (h.res.kept hg (by intro e; cases e; omega)).drewN n, hc.drewN n, grownN (h.grown.trans hg) n⟩
/-- What the return leaves. -/
theorem AtEnd.done {w wz : World} {b x A O X Y : Nat} (h : AtEnd w wz b x A O X Y) (hb : b < w.heap.size) : HoldC (putC wz w.heap.size A O X Y) w.heap.size A O X Y ∧ Cur (putC wz w.heap.size A O X Y) b ∧ w.grownBy (putC wz w.heap.size A O X Y) (some b) :=
  ⟨h.res.put h.ch.1, putC.cur h.cur hb, putC.below h.grown (Nat.le_refl _)⟩
theorem Src.below {w w' : World} {b b' : Nat} {a : Option Addr} {len cap : Nat} (h : Src w b a len cap) (hb : Below w.heap.size w w') (hle : b ≤ b') : Src w' b' a len cap := by
  refine ⟨h.1, fun i hi => ?_⟩
  obtain ⟨g, off, z, h1, h2, h3, h4⟩ := h.2 i hi
  exact ⟨g, off, z, h1, by omega, h3, (grown_of hb).cell h4 (by simp)⟩
def DrawEc (w : World) (e : Ending) (w' : World) : Prop := ∃ v xs n k, (xs.length ≤ 5000 ∧ I64 n ∧ k < 2 ^ 32) ∧ e = .returned (.tuple #[v, .int .i64 n, .float .f32 k]) ∧ FRow w' v xs ∧ Below w.heap.size w w'
theorem DrawEc.mk {w w' : World} {v : Value} {xs : List Nat} {n : Int} {k : Nat} (h : xs.length ≤ 5000 ∧ I64 n ∧ k < 2 ^ 32) (hr : FRow w' v xs) (hb : Below w.heap.size w w') : DrawEc w (.returned (.tuple #[v, .int .i64 n, .float .f32 k])) w' := ⟨v, xs, n, k, h, rfl, hr, hb⟩
end Go.Proofs.YtobpnoiienpipaaGreat

/-
  What is proved: the walks of the program's Times and Power.
  Conditions: none.
-/
namespace Go.Proofs.YtobpnoiienpipaaGreat
set_option linter.unusedVariables false
open Go.RowKit
attribute [local go_sem] run_store_float run_store_complex unary_negf neg256

end Go.Proofs.YtobpnoiienpipaaGreat

/-
  What is proved: the walks of the program's ChannelOk, Undo and Chain at channels that are valid.
  Conditions: the channels are valid.
-/
namespace Go.Proofs.YtobpnoiienpipaaGreat
set_option linter.unusedVariables false
open Go.RowKit
open Flt (Q Num sg sumv subv mulv quov)
attribute [local go_sem] run_store_float run_store_complex unary_negf neg256

/-- Is a number at most another one? -/
def leb (x y : Nat) : Bool := Ieee.single.order x y == some .lt || Ieee.single.order x y == some .eq
theorem leb_fold (x y : Nat) : (FloatKind.f32.format.order x y == some .lt || FloatKind.f32.format.order x y == some .eq) = leb x y := rfl
attribute [local go_sem] leb_fold
theorem neg16 : Op.negFloat .f32 1098907648 = 3246391296 := by decide
theorem neg64 : Op.negFloat .f32 1115684864 = 3263168512 := by decide
attribute [local go_sem] neg16 neg64
/-- A channel lies in a block. -/
def LieC (w : World) (x A O X Y : Nat) : Prop := w.heap[x]? = some (.cells #[.float .f32 A, .float .f32 O, .complex .f32 X Y] 28 (0, 0))
theorem LieC.all {w : World} {x A O X Y : Nat} (h : LieC w x A O X Y) : w.cell? ⟨x, 0, none⟩ = some (.float .f32 A) ∧ w.cell? ⟨x, 1, none⟩ = some (.float .f32 O) ∧ w.cell? ⟨x, 2, none⟩ = some (.complex .f32 X Y) ∧ w.frozen? ⟨x, 0, none⟩ = false ∧ w.frozen? ⟨x, 1, none⟩ = false ∧ w.frozen? ⟨x, 2, none⟩ = false := by
  unfold LieC at h
  refine ⟨?_, ?_, ?_, ?_, ?_, ?_⟩ <;> simp [World.cell?, World.frozen?, h]
theorem LieC.kept {w w' : World} {x A O X Y : Nat} {row : Option Nat} (h : LieC w x A O X Y) (hg : w.grownBy w' row) (hne : some x ≠ row) : LieC w' x A O X Y :=
  (hg.block x (Array.getElem?_eq_some_iff.1 h).1 hne).trans h
theorem LieC.below {w w' : World} {x A O X Y : Nat} (h : LieC w x A O X Y) (hb : Below w.heap.size w w') : LieC w' x A O X Y := h.kept (grown_of hb) (by simp)
theorem LieC.new (w : World) (A O X Y : Nat) : LieC (w.alloc (.cells #[.float .f32 A, .float .f32 O, .complex .f32 X Y] 28)) w.heap.size A O X Y := heap_alloc_new w _
theorem LieC.put {w : World} {x A O X Y : Nat} (h : LieC w x A O X Y) (A' O' X' Y' : Nat) : LieC (putC w x A' O' X' Y') x A' O' X' Y' := heap_put (i := 2) (heap_put (i := 1) (heap_put (i := 0) h))
end Go.Proofs.YtobpnoiienpipaaGreat

/-
  What is proved: the walk of the model's Lows.
  Conditions: the stream can be read.
-/
namespace Go.Proofs.YtobpnoiienpipaaGreat
set_option linter.unusedVariables false
open Go.RowKit
attribute [local go_sem] run_store_float run_store_complex unary_negf neg256

/-- Whether there is a low sample at place k. -/
def low (xs : List Nat) (s k : Nat) : Bool := decide (k < xs.length) && leb (xs.getD k 0) s
def cutRun (rs : List R2) (i n : Nat) : List R2 := if 5 ≤ n then rs ++ [(i - n, n)] else rs
/-- The runs that are at an end ahead of place k, and how many low samples there are just ahead of it. -/
def lowsK (xs : List Nat) (s : Nat) : Nat → List R2 × Nat
  | 0 => ([], 0)
  | k + 1 => if low xs s k = true then ((lowsK xs s k).1, (lowsK xs s k).2 + 1) else (cutRun (lowsK xs s k).1 k (lowsK xs s k).2, 0)
def lows (xs : List Nat) (s : Nat) : List R2 := if xs.length ≤ 20000 then (lowsK xs s (xs.length + 1)).1 else []
theorem cutRun_len (rs : List R2) (i n : Nat) : (cutRun rs i n).length ≤ rs.length + 1 := by
  unfold cutRun; split <;> simp
theorem lowsK_le (xs : List Nat) (s : Nat) : ∀ k, (lowsK xs s k).2 ≤ k ∧ (lowsK xs s k).1.length ≤ k
  | 0 => ⟨Nat.le_refl _, Nat.le_refl _⟩
  | k + 1 => by
    have h := lowsK_le xs s k
    have h2 := cutRun_len (lowsK xs s k).1 k (lowsK xs s k).2
    unfold lowsK
    split
    · exact ⟨by show _ + 1 ≤ _; omega, by show (lowsK xs s k).1.length ≤ _; omega⟩
    · exact ⟨Nat.zero_le _, by show (cutRun _ _ _).length ≤ _; omega⟩
theorem lowsK_low {xs : List Nat} {s k : Nat} (h : low xs s k = true) : lowsK xs s (k + 1) = ((lowsK xs s k).1, (lowsK xs s k).2 + 1) := by
  rw [lowsK, if_pos h]
theorem lowsK_cut {xs : List Nat} {s k : Nat} (h : low xs s k = false) (h5 : 5 ≤ (lowsK xs s k).2) : lowsK xs s (k + 1) = ((lowsK xs s k).1 ++ [(k - (lowsK xs s k).2, (lowsK xs s k).2)], 0) := by
  rw [lowsK, if_neg (by rw [h]; decide), cutRun, if_pos h5]
theorem lowsK_none {xs : List Nat} {s k : Nat} (h : low xs s k = false) (h5 : ¬ 5 ≤ (lowsK xs s k).2) : lowsK xs s (k + 1) = ((lowsK xs s k).1, 0) := by
  rw [lowsK, if_neg (by rw [h]; decide), cutRun, if_neg h5]
theorem lows_len (xs : List Nat) (s : Nat) : (lows xs s).length ≤ 20001 := by
  unfold lows
  split
  · have := (lowsK_le xs s (xs.length + 1)).2; omega
  · simp
theorem lr_lit {k n : Nat} (h : n ≤ k) (W : World) (j : Nat) (u : Value) (hu : (LR.enc (k - n, n))[j]? = some u) : (W.alloc (.cells #[.int .i64 ((k : Int) - (n : Int)), .int .i64 (n : Int)] 106)).cell? ⟨W.heap.size, 0 + j, none⟩ = some u := by
  refine lit_cells W [.int .i64 ((k : Int) - (n : Int)), .int .i64 (n : Int)] _ j u ?_
  rw [← hu]
  show _ = [Value.int .i64 ((k - n : Nat) : Int), Value.int .i64 ((n : Nat) : Int)][j]?
  rw [Int.ofNat_sub h]
set_option maxHeartbeats 4000000 in
theorem specLows_any (v : Value) (xs : List Nat) (s : Nat) (w : World) (h : FRow w v xs) (hl : xs.length ≤ 4000000) :
    Calls Tryz.prog 70 #[v, .float .f32 s] w fun e w' => LR.Got (lows xs s) w e w' := by
  have HOW := Lib.hid (show LR.Own (w.alloc (.cells #[] 106)) w.heap.size (.slice (some ⟨w.heap.size, 0, none⟩) 0 0) [] from LR.own0 w)
  have HB := Lib.hid ((Below.refl w.heap.size w).alloc (Nat.le_refl _) (.cells #[] 106))
  obtain ⟨av, cv, rfl, hcell⟩ := h.any
  have HC := Lib.hid hcell
  clear h hcell
  by_cases hbig : 20000 < xs.length
  · have HN := Lib.hid (show lows xs s = [] by unfold lows; rw [if_neg (by omega)])
    go_enter Tryz.func70, Tryz.ntmps70
    go_wp2
    go_ret
    rw [HN.out]
    exact Lay.Got.mk HOW.out HB.out
  · have HN := Lib.hid (show lows xs s = (lowsK xs s (xs.length + 1)).1 by unfold lows; rw [if_pos (by omega)])
    go_enter Tryz.func70, Tryz.ntmps70
    go_wp2
    generalize w.alloc (.cells #[] 106) = w1 at *
    go_loopw [5, 6, 7] (fun out n i wr => ∃ k g cap : Nat, k ≤ xs.length + 1 ∧ i = .int .i64 (k : Int) ∧ n = .int .i64 ((lowsK xs s k).2 : Int) ∧ out = .slice (some ⟨g, 0, none⟩) (lowsK xs s k).1.length cap ∧ Below w.heap.size w wr ∧ LR.Own wr w.heap.size (.slice (some ⟨g, 0, none⟩) (lowsK xs s k).1.length cap) (lowsK xs s k).1) (fun _ _ i _ => xs.length + 1 - (intOf i).toNat)
    case atStart => exact ⟨0, _, 0, Nat.zero_le _, rfl, rfl, rfl, HB.out, HOW.out⟩
    case round =>
      obtain ⟨k, g, cap, hk, rfl, rfl, rfl, hb, ho⟩ := hrel
      have hle := lowsK_le xs s k
      have HOK := Lib.hid ho
      have HLOW := Lib.hid (lowsK_low (xs := xs) (s := s) (k := k))
      have HCUT := Lib.hid (lowsK_cut (xs := xs) (s := s) (k := k))
      have HNON := Lib.hid (lowsK_none (xs := xs) (s := s) (k := k))
      have HSZ := Lib.hid hb.size
      clear ho
      by_cases hend : k ≤ xs.length
      · by_cases hlt : k < xs.length
        · obtain ⟨g0, o0, rfl, hcap0, hc0⟩ := HC.out k hlt
          have hc1 := (grown_of hb).cell hc0 (by simp)
          have hge : xs.getD k 0 = xs[k] := by rw [List.getD_eq_getElem?_getD, List.getElem?_eq_getElem hlt]; rfl
          have HLK := Lib.hid (show low xs s k = leb xs[k] s by unfold low; rw [hge]; simp [hlt])
          clear hc0 hge
          generalize xs[k] = z at *
          cases hq : leb z s with
          | true =>
            have hq' : (FloatKind.f32.format.order z s == some .lt || FloatKind.f32.format.order z s == some .eq) = true := hq
            have HE := Lib.hid (HLOW.out (HLK.out.trans hq))
            clear hq
            generalize lowsK xs s k = st at *
            go_wp2
            go_roundw
            case rel => exact ⟨k + 1, g, cap, by omega, by go_num, by rw [HE.out]; go_num, by rw [HE.out], hb, by rw [HE.out]; exact HOK.out⟩
            case measure => simp [intOf]; omega
          | false =>
            have hq' : (FloatKind.f32.format.order z s == some .lt || FloatKind.f32.format.order z s == some .eq) = false := hq
            have HL := Lib.hid (HLK.out.trans hq)
            clear hq
            by_cases h5 : 5 ≤ (lowsK xs s k).2
            · have HE := Lib.hid (HCUT.out HL.out h5)
              generalize lowsK xs s k = st at *
              obtain ⟨rs, n⟩ := st
              simp only at *
              have HLIT := Lib.hid (fun W => lr_lit (k := k) hle.1 W)
              go_wp2_with (at_builtin; refine LR_ok.snoc rfl (.tmp 35) (.tmp 41) rfl w.heap.size _ rs _ rfl (HOK.out.alloc _) rfl _ rfl (k - n, n) (HLIT.out _) (by omega) (by have := HSZ.out; simp; omega) ?_; intro g2 cap2 w6 ho6 hg6 hor6 hlt6)
              have hb6 := Lay.Own.snoc_below hb HOK.out _ hg6
              have HO6 := Lib.hid ho6
              clear ho6 hg6 hor6
              go_wp2
              go_roundw
              case rel => exact ⟨k + 1, g2, cap2, by omega, by go_num, by rw [HE.out]; rfl, by rw [HE.out]; simp, hb6, by rw [HE.out]; simpa using HO6.out⟩
              case measure => simp [intOf]; omega
            · have HE := Lib.hid (HNON.out HL.out h5)
              generalize lowsK xs s k = st at *
              go_wp2
              go_roundw
              case rel => exact ⟨k + 1, g, cap, by omega, by go_num, by rw [HE.out]; rfl, by rw [HE.out], hb, by rw [HE.out]; exact HOK.out⟩
              case measure => simp [intOf]; omega
        · have hkk : k = xs.length := by omega
          have HL := Lib.hid (show low xs s k = false by unfold low; simp [hkk])
          clear hkk
          by_cases h5 : 5 ≤ (lowsK xs s k).2
          · have HE := Lib.hid (HCUT.out HL.out h5)
            generalize lowsK xs s k = st at *
            obtain ⟨rs, n⟩ := st
            simp only at *
            have HLIT := Lib.hid (fun W => lr_lit (k := k) hle.1 W)
            go_wp2_with (at_builtin; refine LR_ok.snoc rfl (.tmp 35) (.tmp 41) rfl w.heap.size _ rs _ rfl (HOK.out.alloc _) rfl _ rfl (k - n, n) (HLIT.out _) (by omega) (by have := HSZ.out; simp; omega) ?_; intro g2 cap2 w6 ho6 hg6 hor6 hlt6)
            have hb6 := Lay.Own.snoc_below hb HOK.out _ hg6
            have HO6 := Lib.hid ho6
            clear ho6 hg6 hor6
            go_wp2
            go_roundw
            case rel => exact ⟨k + 1, g2, cap2, by omega, by go_num, by rw [HE.out]; rfl, by rw [HE.out]; simp, hb6, by rw [HE.out]; simpa using HO6.out⟩
            case measure => simp [intOf]; omega
          · have HE := Lib.hid (HNON.out HL.out h5)
            generalize lowsK xs s k = st at *
            go_wp2
            go_roundw
            case rel => exact ⟨k + 1, g, cap, by omega, by go_num, by rw [HE.out]; rfl, by rw [HE.out], hb, by rw [HE.out]; exact HOK.out⟩
            case measure => simp [intOf]; omega
      · have hkk : k = xs.length + 1 := by omega
        subst hkk
        go_wp2
        go_ret
        rw [HN.out]
        exact Lay.Got.mk HOK.out hb
end Go.Proofs.YtobpnoiienpipaaGreat
