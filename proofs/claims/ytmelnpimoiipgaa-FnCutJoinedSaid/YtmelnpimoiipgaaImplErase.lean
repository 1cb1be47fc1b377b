/-
  What is proved: the walk of the program's Erase.
  Conditions: the stream can be read.
-/
import Derived.Lib.SliceRun
import Derived.Lib.MinMax
import Derived.Test.YtmelnpimoiipgaaSpecErase
namespace Go.Proofs.Ytmelnpimoiipgaa
set_option linter.unusedVariables false
open Go.RowKit
attribute [local go_sem] run_store_float run_store_complex unary_negf neg256

theorem zero_f32 : ∀ w, (zeroValue 25).run Try.prog w = .ok (.float .f32 0) w := by
  intro w
  have h := info_f32
  cases hq : Try.prog.info? 25 with
  | none => simp [hq] at h
  | some i =>
    simp [hq] at h
    simp [zeroValue, typeInfo, hq, h.1]
/-- A row whose places from lo to hi are 0. -/
def wiped (xs : List Nat) (lo hi : Nat) : List Nat := (List.range xs.length).map fun i => if lo ≤ i ∧ i < hi then 0 else xs.getD i 0
theorem wiped_len (xs : List Nat) (lo hi : Nat) : (wiped xs lo hi).length = xs.length := by simp [wiped]
theorem wiped_get (xs : List Nat) (lo hi i : Nat) (h : i < (wiped xs lo hi).length) (h' : i < xs.length) : (wiped xs lo hi)[i] = if lo ≤ i ∧ i < hi then 0 else xs[i] := by
  simp [wiped, List.getElem?_eq_getElem h']
theorem wiped_none (xs : List Nat) (lo : Nat) : wiped xs lo lo = xs := by
  refine List.ext_getElem (wiped_len _ _ _) fun i h1 h2 => ?_
  rw [wiped_get xs lo lo i h1 h2, if_neg (by omega)]
theorem clear_made {w : World} {g N lo hi : Nat} {xs : List Nat} (h : MadeF w g N N xs) (hx : xs.length = N) (hlo : lo ≤ hi) (hhi : hi ≤ N) (cap : Nat) :
    ∃ w', (∀ ty, (Builtin.clear_ #[24] ty #[.slice (some ⟨g, lo, none⟩) (hi - lo) cap]).run Try.prog w = .ok (.tuple #[]) w') ∧ MadeF w' g N N (wiped xs lo hi) ∧ w.grownBy w' (some g) := by
  obtain ⟨cur, hg, hsz, hc⟩ := h
  by_cases h0 : hi - lo = 0
  · refine ⟨w, fun ty => ?_, ⟨cur, hg, hsz, fun i hi' hk => ?_⟩, World.grownBy.refl w _⟩
    · rw [h0]
      simp [Builtin.clear_, run_underlying Try.underlying24]
    · rw [wiped_len] at hi'
      rw [wiped_get xs lo hi i _ hi', if_neg (by omega)]
      exact hc i hi' hk
  · have hst := run_storeCells_at Try.prog g lo 25 (List.replicate (hi - lo) (.float .f32 0)) 0 cur w hg (by simp; omega) (by intro v hv; rw [List.eq_of_mem_replicate hv]; rfl)
    refine ⟨w.setRow g (cur.toList.take lo ++ List.replicate (hi - lo) (Value.float .f32 0) ++ cur.toList.drop (lo + (hi - lo))).toArray, fun ty => ?_, ⟨_, setRow_heap w g _ _ 25 _ hg, ?_, fun i hi' hk => ?_⟩, ⟨rfl, rfl, rfl, by simp [World.setRow], fun k hk hne => setRow_other w g k _ (fun e => hne (by rw [e]))⟩⟩
    · have hin : ∀ k, k < hi - lo → ∃ u, cur[lo + k]? = some u := fun k hk => ⟨_, Array.getElem?_eq_getElem (by omega)⟩
      have hcs := run_storeCells_cells (P := Try.prog) g lo (List.replicate (hi - lo) (.float .f32 0)) 0 w (fun k hk => by obtain ⟨u, hu⟩ := hin k (by simpa using hk); simp [World.cell?, hg, hu]) (fun k hk => by simp [World.frozen?, hg]) (by intro v hv; rw [List.eq_of_mem_replicate hv]; rfl)
      rw [hst] at hcs
      have hww := (Result.ok.inj hcs).2
      simp only [Nat.add_zero, List.length_replicate] at hww
      rw [hww]
      exact Lib.run_clear_slice w 24 25 ty (.float .f32 0) Try.underlying24 zero_f32 rfl rfl g lo (hi - lo) cap (by omega) (fun k hk => by obtain ⟨u, hu⟩ := hin k hk; simp [World.cell?, hg, hu]) (fun k hk => by simp [World.frozen?, hg])
    · simp
      omega
    · rw [wiped_len] at hi'
      rw [wiped_get xs lo hi i _ hi']
      have hs := splice_get cur.toList (List.replicate (hi - lo) (Value.float .f32 0)) lo i (by simp; omega)
      simp only [splice, List.length_replicate, ← List.append_assoc] at hs
      rw [List.getElem?_toArray, hs]
      by_cases h1 : i < lo
      · rw [if_pos h1, if_neg (by omega)]
        simpa using hc i hi' hk
      · rw [if_neg h1]
        by_cases h2 : i < lo + (hi - lo)
        · rw [if_pos h2, if_pos (by omega), List.getElem?_replicate, if_pos (by omega)]
        · rw [if_neg h2, if_neg (by omega)]
          simpa using hc i hi' hk
set_option maxHeartbeats 1000000 in
theorem cloneE_any (v : Value) (xs : List Nat) (w : World) (h : FRow w v xs) (hl : xs.length ≤ 4000000) :
    Calls Try.prog 67 #[v] w fun e w' => GotF xs w e w' := by
  by_cases h0 : 0 < xs.length
  · exact clone_any v xs w h h0 hl
  · obtain ⟨a, c, rfl⟩ := h.lenv
    obtain rfl : xs = [] := List.length_eq_zero_iff.1 (by omega)
    clear h h0 hl
    cases a with
    | none =>
      have hnil : ∀ W, (binOp .eql 24 (.slice none 0 c) (.slice none 0 0)).run Try.prog W = .ok (.bool true) W := fun W => eql_nil W none 0 c
      go_enter Try.func67, Try.ntmps67
      go_wp2
      go_ret
      exact GotF.mk (FNew.nil _ _) (Below.refl _ _)
    | some ad =>
      have hnil : ∀ W, (binOp .eql 24 (.slice (some ad) 0 c) (.slice none 0 0)).run Try.prog W = .ok (.bool false) W := fun W => eql_nil W (some ad) 0 c
      have HO := Lib.hid (OwnF.made0 w)
      have HB := Lib.hid ((Below.refl w.heap.size w).alloc (Nat.le_refl _) (.cells #[] 25))
      go_enter Try.func67, Try.ntmps67
      go_wp2_with (at_builtin; refine ownF_row rfl (.tmp 5) (.tmp 6) rfl w.heap.size _ _ _ [] [] rfl rfl HO.out _ rfl (.inl ⟨⟨_, _, rfl⟩, rfl⟩) 0 rfl (by omega) (by simp) ?_; intro g6 cap6 w6 ho6 hg6 hor6 hlt6)
      have HO6 := Lib.hid (show OwnF w6 w.heap.size (.slice (some ⟨g6, 0, none⟩) 0 cap6) [] by simpa using ho6)
      have HB6 := Lib.hid (HB.out.grown hg6 HB.out.size (fun k hk => (HO.out.lt k hk).1))
      clear ho6 hg6 hor6
      go_wp2
      go_ret
      exact GotF.own rfl HO6.out HB6.out
theorem wiped_gone {xs : List Nat} {p n b c d : Int} {lo hi : Nat} (hn : eraseOk n = true) (hb : b = min p (xs.length : Int)) (hc : c = b + n) (hd : d = min c (xs.length : Int)) (hlo : (lo : Int) = max 0 b) (hhi : (hi : Int) = max 0 d) : wiped xs lo hi = erased xs p n := by
  have h0 : 0 ≤ n := by unfold eraseOk at hn; simp at hn; exact hn.1
  refine List.ext_getElem (by rw [wiped_len, erased_len]) fun i h1 h2 => ?_
  have hi' : i < xs.length := by rw [wiped_len] at h1; exact h1
  rw [wiped_get xs lo hi i h1 hi', erased_get xs p n i h2 hi']
  unfold gone
  rw [hn]
  by_cases h : lo ≤ i ∧ i < hi
  · rw [if_pos h, if_pos (by simp; omega)]
  · rw [if_neg h, if_neg (by simp; omega)]
set_option maxHeartbeats 2000000 in
set_option maxRecDepth 100000 in
theorem erase_any (v : Value) (xs : List Nat) (p n : Int) (w : World) (h : FRow w v xs) (hp : I64 p) (hn : I64 n) (hl : xs.length ≤ 4000000) :
    Calls Try.prog 20 #[v, .int .i64 p, .int .i64 n] w fun e w' => GotF (erased xs p n) w e w' := by
  have HCL := Lib.hid (cloneE_any v xs w h hl)
  obtain ⟨av, cv, hv⟩ := h.lenv
  subst hv
  clear h
  cases he : eraseOk n with
  | false =>
    have HE := Lib.hid (erased_none (xs := xs) (p := p) he)
    by_cases h0 : 0 ≤ n
    · have h1 : ¬ n ≤ 280 := by unfold eraseOk at he; simpa [h0] using he
      clear he
      go_enter Try.func20, Try.ntmps20
      go_wp2_with fail
      refine HCL.out.mono ?_
      rintro e w1 ⟨v', rfl, hn1, hb1⟩
      have HN := Lib.hid hn1
      clear hn1
      go_wp2
      go_ret
      exact GotF.mk (by rw [HE.out]; exact HN.out) hb1
    · clear he
      go_enter Try.func20, Try.ntmps20
      go_wp2_with fail
      refine HCL.out.mono ?_
      rintro e w1 ⟨v', rfl, hn1, hb1⟩
      have HN := Lib.hid hn1
      clear hn1
      go_wp2
      go_ret
      exact GotF.mk (by rw [HE.out]; exact HN.out) hb1
  | true =>
    have hn0 : 0 ≤ n ∧ n ≤ 280 := by unfold eraseOk at he; simpa using he
    have hp0 : -9223372036854775808 ≤ p ∧ p ≤ 9223372036854775807 := by unfold I64 at hp; omega
    obtain ⟨b, hb⟩ : ∃ b : Int, b = min p (xs.length : Int) := ⟨_, rfl⟩
    obtain ⟨c, hc⟩ : ∃ c : Int, c = b + n := ⟨_, rfl⟩
    obtain ⟨d, hd⟩ : ∃ d : Int, d = min c (xs.length : Int) := ⟨_, rfl⟩
    obtain ⟨lo, hlo⟩ : ∃ lo : Nat, (lo : Int) = max 0 b := ⟨(max 0 b).toNat, by omega⟩
    obtain ⟨hi, hhi⟩ : ∃ hi : Nat, (hi : Int) = max 0 d := ⟨(max 0 d).toNat, by omega⟩
    have HWG := Lib.hid (wiped_gone (xs := xs) he hb hc hd hlo hhi)
    have hm1 := hb.symm
    have hm2 := hd.symm
    have hm3 := hlo.symm
    have hm4 := hhi.symm
    have hwr : IntKind.i64.wrap (b + n) = c := by rw [IntWalk.i64_in _ (by omega)]; exact hc.symm
    have hlohi : lo ≤ hi := by omega
    have hhin : hi ≤ xs.length := by omega
    have hwr2 : wrap64 (b + n) = c := by rw [← IntWalk.i64_left]; exact hwr
    clear he hb hc hd hlo hhi hp hp0
    obtain ⟨m, hm⟩ : ∃ m, m = xs.length := ⟨_, rfl⟩
    rw [← hm] at hm1 hm2 hhin hl HCL ⊢
    have HM0 := Lib.hid hm
    clear hm
    go_enter Try.func20, Try.ntmps20
    go_wp2_with fail
    refine HCL.out.mono ?_
    rintro e w1 ⟨v', rfl, hn1, hb1⟩
    rcases hn1 with ⟨rfl, hx0⟩ | ⟨g, cap, rfl, hg, hcap, hmade⟩
    · subst hx0
      have hm0 : m = 0 := by simpa using HM0.out
      obtain ⟨rfl, rfl⟩ : lo = 0 ∧ hi = 0 := by omega
      clear hm0
      have hcl : ∀ ty c, (Builtin.clear_ #[24] ty #[.slice none 0 c]).run Try.prog w1 = .ok (.tuple #[]) w1 := fun ty c => by simp [Builtin.clear_, run_underlying Try.underlying24]
      go_wp2
      go_ret
      rw [← HWG.out]
      exact GotF.mk (FNew.nil _ _) hb1
    · by_cases hlh : hi = lo
      · subst hlh
        rw [← HM0.out] at hcap
        have HM := Lib.hid hmade
        have HB1 := Lib.hid hb1
        have HCAP := Lib.hid hcap
        have HG := Lib.hid hg
        have hcl : ∀ ty a c, (Builtin.clear_ #[24] ty #[.slice a 0 c]).run Try.prog w1 = .ok (.tuple #[]) w1 := fun ty a c => by cases a <;> simp [Builtin.clear_, run_underlying Try.underlying24]
        rw [← HM0.out]
        clear hmade
        go_wp2
        all_goals
          go_ret
          refine GotF.mk ?_ HB1.out
          rw [← HWG.out, wiped_none]
          exact .inr ⟨g, _, by rw [← HM0.out]; rfl, HG.out, by rw [← HM0.out]; have := HCAP.out; omega, HM.out⟩
      · have hlt : lo < hi := by omega
        obtain ⟨w2, hrun, hm2', hg2⟩ := clear_made (by rw [← HM0.out] at hmade; exact hmade) HM0.out.symm hlohi hhin (cap - lo)
        rw [← HM0.out] at hcap
        have HM := Lib.hid hm2'
        have HB2 := Lib.hid (hb1.grown hg2 hb1.size (fun k hk => by cases hk; exact hg))
        have HCAP := Lib.hid hcap
        have HG := Lib.hid hg
        have hne : cap ≠ lo := by omega
        have hlc : lo < cap := by omega
        rw [← HM0.out]
        clear hm2' hmade hg2 hlh
        go_wp2
        go_ret
        refine GotF.mk ?_ HB2.out
        rw [← HWG.out]
        exact .inr ⟨g, cap, by rw [wiped_len, ← HM0.out]; rfl, HG.out, by rw [wiped_len, ← HM0.out]; exact HCAP.out, by rw [wiped_len, ← HM0.out]; exact HM.out⟩
end Go.Proofs.Ytmelnpimoiipgaa
