/-
  What is proved: the walk of the program's Echo.
  Conditions: the samples can be read.
-/
import Derived.Test.YtnedmhhodmmddaaGated
import Derived.Test.YtnedmhhodmmddaaFl
import Derived.Test.YtnedmhhodmmddaaFSame
import Derived.Test.YtnedmhhodmmddaaFEq
namespace Go.Proofs.Ytnedmhhodmmddaa
set_option linter.unusedVariables false
open Go.RowKit
attribute [local go_sem] run_store_float run_store_complex unary_negf neg256

/-- What a sample x may be with a late one d added, k times as great. -/
def AddK (k x d r : Nat) : Prop := ∃ m, Res .mul k d m ∧ Res .add x m r
set_option maxHeartbeats 1000000 in
theorem added_any (n : Int) (k x d : Nat) (w : World) :
    Calls Try.prog 99 #[.agg #[.int .i64 n, .float .f32 k], .float .f32 x, .float .f32 d] w fun e w' => ∃ r, e = .returned (.float .f32 r) ∧ AddK k x d r ∧ Below w.heap.size w w' := by
  have hb0 := (Below.refl w.heap.size w).alloc (Nat.le_refl _) (.cells #[.int .i64 n, .float .f32 k] 80)
  obtain ⟨m, n1, e1, R1, B1⟩ := run_res .mul (.inr (.inr (.inl rfl))) k d (w.alloc (.cells #[.int .i64 n, .float .f32 k] 80))
  obtain ⟨r, n2, e2, R2, B2⟩ := run_res .add (.inl rfl) x m ((w.alloc (.cells #[.int .i64 n, .float .f32 k] 80)).drewN n1)
  rw [drewN_addD] at e2
  have HR := Lib.hid (show AddK k x d r from ⟨m, R1, R2⟩)
  clear R1 R2 B1 B2
  go_enter Try.func99, Try.ntmps99
  go_wp2
  go_ret
  exact ⟨r, rfl, HR.out, belowDN hb0 _⟩
theorem MadeF.snoc5 {w : World} {b n k : Nat} {xs : List Nat} (h : MadeF w b n k xs) (hx : xs.length = k) (hk : k < n) (r : Nat) : MadeF (w.setCell ⟨b, k, none⟩ (.float .f32 r)) b n (k + 1) (xs ++ [r]) := by
  obtain ⟨cur, h1, h2, h3⟩ := h
  refine ⟨cur.setIfInBounds k (.float .f32 r), heapF h1, by simpa using h2, fun i hi hik => ?_⟩
  by_cases e : i = k
  · subst e
    rw [Array.getElem?_setIfInBounds, if_pos rfl, if_pos (by omega)]
    rw [List.getElem_append_right (by omega)]
    simp [hx]
  · rw [Array.getElem?_setIfInBounds, if_neg (by omega)]
    rw [List.getElem_append_left (by omega)]
    exact h3 i (by omega) (by omega)
/-- What may come of samples and late ones, place for place. -/
def EchoL (k : Nat) (xs ds rs : List Nat) : Prop := rs.length ≤ xs.length ∧ rs.length ≤ ds.length ∧ ∀ i (h : i < rs.length) (h1 : i < xs.length) (h2 : i < ds.length), AddK k xs[i] ds[i] rs[i]
theorem EchoL.nil (k : Nat) (xs ds : List Nat) : EchoL k xs ds [] := ⟨Nat.zero_le _, Nat.zero_le _, fun i h => absurd h (by simp)⟩
theorem EchoL.snoc {k : Nat} {xs ds rs : List Nat} {r j : Nat} (h : EchoL k xs ds rs) (hj : rs.length = j) (h1 : j < xs.length) (h2 : j < ds.length) (hr : AddK k xs[j] ds[j] r) : EchoL k xs ds (rs ++ [r]) := by
  obtain ⟨a, b, c⟩ := h
  refine ⟨by simp; omega, by simp; omega, fun i hi h1' h2' => ?_⟩
  simp at hi
  by_cases e : i = j
  · subst e
    rw [List.getElem_append_right (by omega)]
    simpa [hj] using hr
  · rw [List.getElem_append_left (by omega)]
    exact c i (by omega) h1' h2'
theorem AddK.same {k x d r r' : Nat} (h : AddK k x d r) (h' : AddK k x d r') : Sm r r' := by
  obtain ⟨m, h1, h2⟩ := h
  obtain ⟨m', g1, g2⟩ := h'
  exact Res.same (Sm.refl _) (Res.same (Sm.refl _) (Sm.refl _) h1 g1) h2 g2
theorem EchoL.same {k : Nat} {xs ds rs rs' : List Nat} (h : EchoL k xs ds rs) (h' : EchoL k xs ds rs') (hl : rs.length = rs'.length) : SmL rs rs' := by
  obtain ⟨a, b, c⟩ := h
  obtain ⟨a', b', c'⟩ := h'
  exact ⟨hl, fun i h1 h2 => (c i h1 (by omega) (by omega)).same (c' i h2 (by omega) (by omega))⟩
def JoinE (k : Nat) (xs ds : List Nat) (w : World) (e : Ending) (w' : World) : Prop := ∃ v rs, e = .returned v ∧ rs.length = xs.length ∧ EchoL k xs ds rs ∧ FNew w' w.heap.size v rs ∧ Below w.heap.size w w'
set_option maxHeartbeats 2000000 in
theorem joinedEcho_any (n : Int) (m : Nat) (v v' : Value) (xs ys : List Nat) (w : World) (h : FRow w v xs) (h' : FRow w v' ys)
    (hl : xs.length ≤ 100000000) (hy : ys.length = xs.length) :
    Calls Try.prog 102 #[v, v', .func (.func 99) #[.agg #[.int .i64 n, .float .f32 m]] #[]] w fun e w' => JoinE m xs ys w e w' := by
  obtain ⟨a, c, rfl, hcell⟩ := h.any
  obtain ⟨a', c', rfl, hcell'⟩ := h'.any
  have HC := Lib.hid hcell
  have HC' := Lib.hid hcell'
  have HY := Lib.hid hy
  have hmk := make_floats xs.length (by omega)
  have hst := MadeF.start w xs.length []
  have HST := Lib.hid hst
  have hbel : Below w.heap.size w (w.alloc (.cells (madeCells #[.float .f32 0] xs.length) 30)) := (Below.refl _ _).alloc (Nat.le_refl _) _
  have hsz : w.heap.size < (w.alloc (.cells (madeCells #[.float .f32 0] xs.length) 30)).heap.size := by simp
  rw [hy]
  clear hcell hcell' h h' hst hy
  go_enter Try.func102, Try.ntmps102
  go_wp2
  clear hmk
  generalize w.alloc (.cells (madeCells #[.float .f32 0] xs.length) 30) = w1 at *
  go_loopw [14] (fun i wr => ∃ (k : Nat) (rs : List Nat), k ≤ xs.length ∧ i = .int .i64 (k : Int) ∧ Below w.heap.size w wr ∧ w.heap.size < wr.heap.size ∧ rs.length = k ∧ EchoL m xs ys rs ∧ MadeF wr w.heap.size xs.length k rs) (fun i _ => xs.length - (intOf i).toNat)
  case atStart => exact ⟨0, [], Nat.zero_le _, rfl, hbel, hsz, rfl, EchoL.nil _ _ _, HST.out⟩
  case round =>
    obtain ⟨k, rs, hk, rfl, hb, hs, hrl, hrr, hm⟩ := hrel
    have HM := Lib.hid hm
    have HR := Lib.hid (And.intro hrl hrr)
    clear hm HST hrl hrr
    by_cases hlt : k < xs.length
    · obtain ⟨g, o, rfl, hcap, hcc⟩ := HC.out k hlt
      obtain ⟨g', o', rfl, hcap', hcc'⟩ := HC'.out k (by have := HY.out; omega)
      rw [HY.out] at hcap'
      have hc0 := (grown_of hb).cell hcc (by simp)
      have hc0' := (grown_of hb).cell hcc' (by simp)
      obtain ⟨⟨x0, hx0⟩, hf0⟩ := HM.out.at k hlt
      obtain ⟨x, hx⟩ : ∃ x, xs[k] = x := ⟨_, rfl⟩
      obtain ⟨y, hy⟩ : ∃ y, ys[k]'(by have := HY.out; omega) = y := ⟨_, rfl⟩
      rw [hx] at hc0
      rw [hy] at hc0'
      have HXY := Lib.hid (And.intro hx hy)
      clear hcc hcc' hx hy
      go_wp2
      go_region_with (go_at_call 99; refine (added_any n m x y _).mono ?_; rintro e w2 ⟨r, rfl, hr, hb2⟩; have hm2 := HM.out.kept (w' := w2) ((grown_of hb2).block _ hs (by simp)); obtain ⟨⟨x2, hx2⟩, hf2⟩ := hm2.at k hlt)
      all_goals
        have hb02 : Below w.heap.size w w2 := below_trans (belowDN hb 1) hb2 hb.size
        have hs2 : w.heap.size < w2.heap.size := Nat.lt_of_lt_of_le hs hb2.size
        have hm3 := hm2.snoc5 HR.out.1 hlt r
        have hr3 := HR.out.2.snoc HR.out.1 hlt (by have := HY.out; omega) (by rw [HXY.out.1, HXY.out.2]; exact hr)
        have HM3 := Lib.hid hm3
        have HR3 := Lib.hid hr3
        clear hm3 hr3 hr hm2 hb2
        go_wp2
        go_roundw
        case rel => exact ⟨k + 1, rs ++ [r], by omega, by go_num, hb02.setCell (Nat.le_refl _) _, by simpa [World.setCell, World.drewN, World.drew] using hs2, by simp [HR.out.1], HR3.out, HM3.out.kept (by simp [World.setCell, World.drewN, World.drew])⟩
        case measure => simp [intOf]; omega
    · have hkk : k = xs.length := by omega
      subst hkk
      go_wp2
      go_ret
      exact ⟨_, rs, rfl, HR.out.1, HR.out.2, HM.out.new HR.out.1 (Nat.le_refl _), hb⟩
/-- What the echo may answer, unchecked. -/
def EchoR (xs : List Nat) (n : Int) (k : Nat) (ys : List Nat) (ok : Bool) : Prop := (delayOk n = true ∧ ok = true ∧ ys.length = xs.length ∧ EchoL k xs (delayed xs n.toNat) ys) ∨ (delayOk n = false ∧ ok = false ∧ ys = [])
theorem EchoR.no {k : Nat} {n : Int} (xs : List Nat) (h : delayOk n = false) : EchoR xs n k [] false := .inr ⟨h, rfl, rfl⟩
theorem EchoR.yes {k : Nat} {n : Int} {xs rs : List Nat} (h : delayOk n = true) (hl : rs.length = xs.length) (he : EchoL k xs (delayed xs n.toNat) rs) : EchoR xs n k rs true := .inl ⟨h, rfl, hl, he⟩
theorem EchoR.len {k : Nat} {n : Int} {xs ys : List Nat} {ok : Bool} (h : EchoR xs n k ys ok) : ys.length ≤ xs.length := by
  rcases h with ⟨_, _, h, _⟩ | ⟨_, _, rfl⟩
  · omega
  · exact Nat.zero_le _
set_option maxHeartbeats 1000000 in
set_option maxRecDepth 100000 in
theorem echoOn_any (n : Int) (k : Nat) (v : Value) (xs : List Nat) (w : World) (h : FRow w v xs) (hn : I64 n) (hl : xs.length ≤ 4000000) :
    Calls Try.prog 100 #[.agg #[.int .i64 n, .float .f32 k], v] w fun e w' => OnB (EchoR xs n k) w e w' := by
  have hmf : ∀ (fn : Fn) (first cap : Array Value) (w : World), (Instr.makeFunc fn first cap).run Try.prog w = .ok (.func fn first cap) w := fun _ _ _ _ => rfl
  have hb0 := (Below.refl w.heap.size w).alloc (Nat.le_refl _) (.cells #[.int .i64 n, .float .f32 k] 80)
  have hE := heap_alloc_new w (.cells #[.int .i64 n, .float .f32 k] 80)
  have c0 : (w.alloc (.cells #[.int .i64 n, .float .f32 k] 80)).cell? ⟨w.heap.size, 0, none⟩ = some (.int .i64 n) := (cell_of_row _ _ 0 _ _ _ hE).trans rfl
  have c1 : (w.alloc (.cells #[.int .i64 n, .float .f32 k] 80)).cell? ⟨w.heap.size, 1, none⟩ = some (.float .f32 k) := (cell_of_row _ _ 1 _ _ _ hE).trans rfl
  have HD := fun W hr => Lib.hid (delay_any v xs n W hr hn (by omega))
  have HR := Lib.hid (h.below hb0)
  clear h hE
  go_enter Try.func100, Try.ntmps100
  go_wp2_with fail
  generalize w.alloc (.cells #[.int .i64 n, .float .f32 k] 80) = wA at *
  refine (HD _ HR.out).out.mono ?_
  rintro e w1 ⟨v1, ds, rfl, hd, hnd, hb1⟩
  have e0 := (grown_of hb1).cell c0 (by simp)
  have e1 := (grown_of hb1).cell c1 (by simp)
  clear c0 c1
  cases hok : delayOk n with
  | false =>
    have HQ := Lib.hid (EchoR.no (k := k) xs hok)
    have hb01 := below_trans hb0 hb1 hb0.size
    clear hok hd hnd HD
    go_wp2
    go_ret2
    exact ⟨_, [], false, rfl, HQ.out, FNew.nil _ _, hb01⟩
  | true =>
    have hds : ds = delayed xs n.toNat := by rw [show ds = _ from hd, if_pos hok]
    subst hds
    have HJ := Lib.hid (joinedEcho_any n k v v1 xs (delayed xs n.toNat) w1 (HR.out.below hb1) hnd.row (by omega) (delayed_len _ _))
    have hb01 := below_trans hb0 hb1 hb0.size
    have HOK := Lib.hid hok
    clear hok hd hnd HD HR
    go_wp2_with fail
    refine HJ.out.mono ?_
    rintro e w2 ⟨v2, rs, rfl, hrl, he, hn2, hb2⟩
    have HN := Lib.hid (hn2.mono hb01.size)
    have HQ := Lib.hid (EchoR.yes HOK.out hrl he)
    have hb02 := below_trans hb01 hb2 hb01.size
    clear he hn2 HJ hrl
    go_wp2
    go_ret2
    exact ⟨v2, rs, true, rfl, HQ.out, HN.out, hb02⟩
theorem echo_any (n : Int) (k : Nat) (v : Value) (xs : List Nat) (w : World) (h : FRow w v xs) (hn : I64 n) (hl : xs.length ≤ 4000000) :
    Calls Try.prog 24 #[v, .int .i64 n, .float .f32 k] w fun e w' => OnB (OutR (InR (EchoR xs n k) xs)) w e w' :=
  echoBy_any (EchoR xs n k) n k v xs w h hl (fun ys ok h => Nat.le_trans h.len hl) (fun W hr => Lib.hid (echoOn_any n k v xs W hr hn hl))
end Go.Proofs.Ytnedmhhodmmddaa
