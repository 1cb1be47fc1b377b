/-
  What is proved: the walk of the model's Erase.
  Conditions: the stream can be read.
-/
import Derived.Test.YtmelnpimoiipgaaPkGen
import Derived.Test.YtmelnpimoiipgaaPkLine
namespace Go.Proofs.Ytmelnpimoiipgaa
set_option linter.unusedVariables false
open Go.RowKit
attribute [local go_sem] run_store_float run_store_complex unary_negf neg256

/-- How many samples may be erased. -/
def eraseOk (n : Int) : Bool := decide (0 ≤ n) && decide (n ≤ 280)
/-- Whether the place i is erased. -/
def gone (p n : Int) (i : Nat) : Bool := eraseOk n && (decide (p ≤ (i : Int)) && decide ((i : Int) - n < p))
/-- The stream with what is erased. -/
def erased (xs : List Nat) (p n : Int) : List Nat := (List.range xs.length).map fun i => if gone p n i = true then 0 else xs.getD i 0
theorem erased_len (xs : List Nat) (p n : Int) : (erased xs p n).length = xs.length := by simp [erased]
theorem erased_get (xs : List Nat) (p n : Int) (i : Nat) (h : i < (erased xs p n).length) (h' : i < xs.length) : (erased xs p n)[i] = if gone p n i = true then 0 else xs[i] := by
  simp [erased, List.getElem?_eq_getElem h']
/-- The first k places are done. -/
def erasedK (xs : List Nat) (p n : Int) (k : Nat) : List Nat := (erased xs p n).take k ++ xs.drop k
theorem erasedK_len {xs : List Nat} {p n : Int} {k : Nat} (h : k ≤ xs.length) : (erasedK xs p n k).length = xs.length := by
  unfold erasedK
  rw [List.length_append, List.length_take, List.length_drop, erased_len]
  omega
theorem erasedK_zero (xs : List Nat) (p n : Int) : erasedK xs p n 0 = xs := by simp [erasedK]
theorem erasedK_all (xs : List Nat) (p n : Int) : erasedK xs p n xs.length = erased xs p n := by
  unfold erasedK
  rw [List.drop_length, List.append_nil, List.take_of_length_le (by rw [erased_len]; exact Nat.le_refl _)]
theorem erasedK_next {xs : List Nat} {p n : Int} {k : Nat} (h : k < xs.length) : erasedK xs p n (k + 1) = (erasedK xs p n k).set k (if gone p n k = true then 0 else xs[k]) := by
  have hl : k < (erased xs p n).length := by rw [erased_len]; exact h
  unfold erasedK
  rw [List.take_succ_eq_append_getElem hl, erased_get xs p n k hl h, List.set_append_right _ _ (by rw [List.length_take]; omega), List.length_take, Nat.min_eq_left (by omega), Nat.sub_self, List.append_assoc]
  conv => rhs; rw [List.drop_eq_getElem_cons h]
  rfl
theorem erasedK_at {xs : List Nat} {p n : Int} {k : Nat} (h : k < xs.length) (h' : k < (erasedK xs p n k).length) : (erasedK xs p n k)[k] = xs[k] := by
  have e : (erasedK xs p n k)[k]? = some xs[k] := by
    unfold erasedK
    rw [List.getElem?_append_right (by rw [List.length_take]; omega), List.length_take, erased_len, Nat.min_eq_left (Nat.le_of_lt h), Nat.sub_self, List.getElem?_drop, Nat.add_zero, List.getElem?_eq_getElem h]
  exact Option.some.inj ((List.getElem?_eq_getElem h').symm.trans e)
theorem erasedK_stay {xs : List Nat} {p n : Int} {k : Nat} (h : k < xs.length) (hg : gone p n k = false) : erasedK xs p n (k + 1) = erasedK xs p n k := by
  have h' : k < (erasedK xs p n k).length := by rw [erasedK_len (by omega)]; exact h
  rw [erasedK_next h, if_neg (by rw [hg]; decide)]
  conv => lhs; rw [← erasedK_at h h']
  exact List.set_getElem_self h'
theorem erased_none {xs : List Nat} {p n : Int} (h : eraseOk n = false) : erased xs p n = xs := by
  refine List.ext_getElem (erased_len _ _ _) fun i h1 h2 => ?_
  rw [erased_get xs p n i h1 h2, if_neg (by unfold gone; rw [h]; simp)]
/-- An answer that is a list which may be appended to. -/
def GotO (ys : List Nat) (w : World) (e : Ending) (w' : World) : Prop := ∃ g cap, e = .returned (.slice (some ⟨g, 0, none⟩) ys.length cap) ∧ OwnF w' w.heap.size (.slice (some ⟨g, 0, none⟩) ys.length cap) ys ∧ Below w.heap.size w w'
theorem GotO.mk {ys : List Nat} {w w' : World} {g n cap : Nat} (hn : ys.length = n) (h : OwnF w' w.heap.size (.slice (some ⟨g, 0, none⟩) n cap) ys) (hb : Below w.heap.size w w') : GotO ys w (.returned (.slice (some ⟨g, 0, none⟩) n cap)) w' := by
  subst hn; exact ⟨g, cap, rfl, h, hb⟩
theorem GotO.got {ys : List Nat} {w w' : World} {e : Ending} (h : GotO ys w e w') : GotF ys w e w' := by
  obtain ⟨g, cap, rfl, ho, hb⟩ := h
  exact GotF.own rfl ho hb
set_option maxHeartbeats 4000000 in
theorem specEraseO_any (v : Value) (xs : List Nat) (p n : Int) (w : World) (h : FRow w v xs) (hp : I64 p) (hn : I64 n) (hl : xs.length ≤ 4000000) :
    Calls Try.prog 46 #[v, .int .i64 p, .int .i64 n] w fun e w' => GotO (erased xs p n) w e w' := by
  have HI := fun W => Lib.hid (l01In_any n 0 280 W hn)
  have HOW := Lib.hid (OwnF.made0 w)
  have HB := Lib.hid ((Below.refl w.heap.size w).alloc (Nat.le_refl _) (.cells #[] 25))
  have HR := Lib.hid (h.below HB.out)
  have HSZ := Lib.hid (show w.heap.size < (w.alloc (.cells #[] 25)).heap.size by simp)
  obtain ⟨av, cv, hv⟩ := h.lenv
  subst hv
  clear h
  go_enter Try.func46, Try.ntmps46
  go_wp2_with (at_builtin; refine ownF_row rfl (.tmp 9) (.tmp 10) rfl w.heap.size _ _ _ [] xs rfl rfl HOW.out _ rfl HR.out xs.length rfl (by omega) (by have := HSZ.out; omega) ?_; intro g6 cap6 w6 ho6 hg6 hor6 hlt6)
  have HO6 := Lib.hid (show OwnF w6 w.heap.size (.slice (some ⟨g6, 0, none⟩) xs.length cap6) xs by simpa using ho6)
  have HB6 := Lib.hid (HB.out.grown hg6 HB.out.size (fun k hk => (HOW.out.lt k hk).1))
  clear ho6 hg6 hor6 HR
  cases he : eraseOk n with
  | false =>
    have he' : (decide (0 ≤ n) && decide (n ≤ 280)) = false := he
    rw [he'] at HI
    have HE := Lib.hid (erased_none (xs := xs) (p := p) he)
    clear he he' hn hp
    by_cases h0 : 0 < xs.length
    · go_loopw [8] (fun i wr => i = .int .i64 0 ∧ wr = w6) (fun _ _ => 0)
      case atStart => exact ⟨rfl, rfl⟩
      case round =>
        obtain ⟨rfl, rfl⟩ := hrel
        go_wp2_with fail
        refine (HI _).out.mono ?_
        rintro e w7 ⟨rfl, rfl⟩
        go_wp2
        go_ret
        rw [HE.out]
        exact GotO.mk rfl HO6.out HB6.out
    · have hz : xs.length = 0 := by omega
      rw [hz] at HO6 ⊢
      go_loopw [8] (fun i wr => i = .int .i64 0 ∧ wr = w6) (fun _ _ => 0)
      case atStart => exact ⟨rfl, rfl⟩
      case round =>
        obtain ⟨rfl, rfl⟩ := hrel
        go_wp2
        go_ret
        rw [HE.out]
        exact GotO.mk hz HO6.out HB6.out
  | true =>
    have he' : (decide (0 ≤ n) && decide (n ≤ 280)) = true := he
    rw [he'] at HI
    have hn0 : 0 ≤ n ∧ n ≤ 280 := by simpa using he'
    have HE := Lib.hid he
    have hge : w.heap.size ≤ g6 := (HO6.out.lt g6 rfl).1
    clear he he' hn
    go_loopw [8] (fun i wr => ∃ k : Nat, k ≤ xs.length ∧ i = .int .i64 (k : Int) ∧ OwnF wr w.heap.size (.slice (some ⟨g6, 0, none⟩) xs.length cap6) (erasedK xs p n k) ∧ Below w.heap.size w wr) (fun i _ => xs.length - (intOf i).toNat)
    case atStart => exact ⟨0, Nat.zero_le _, rfl, by rw [erasedK_zero]; exact HO6.out, HB6.out⟩
    case round =>
      obtain ⟨k, hk, rfl, ho, hb⟩ := hrel
      by_cases hlt : k < xs.length
      · have hkl : k < (erasedK xs p n k).length := by rw [erasedK_len hk]; exact hlt
        obtain ⟨hc, hf⟩ := ho.read hkl
        have HPUT := Lib.hid (ho.put hkl 0)
        have HN := Lib.hid (erasedK_next (p := p) (n := n) hlt)
        have HST := Lib.hid (erasedK_stay (p := p) (n := n) hlt)
        have HOK := Lib.hid ho
        have hbs := hb.setCell (p := ⟨g6, k, none⟩) hge (.float .f32 0)
        generalize (erasedK xs p n k)[k]'hkl = z at hc
        clear ho hkl
        by_cases h1 : p ≤ (k : Int)
        · by_cases h2 : (k : Int) - n < p
          · have HG := Lib.hid (show gone p n k = true by unfold gone; rw [HE.out]; simp [h1, h2])
            go_wp2_with fail
            refine (HI _).out.mono ?_
            rintro e w7 ⟨rfl, rfl⟩
            go_wp2
            go_roundw
            case rel => exact ⟨k + 1, by omega, by go_num, by rw [HN.out, if_pos HG.out]; exact HPUT.out, hbs⟩
            case measure => simp [intOf]; omega
          · have HG := Lib.hid (show gone p n k = false by unfold gone; simp [h1, h2])
            go_wp2_with fail
            refine (HI _).out.mono ?_
            rintro e w7 ⟨rfl, rfl⟩
            go_wp2
            go_roundw
            case rel => exact ⟨k + 1, by omega, by go_num, by rw [HST.out HG.out]; exact HOK.out, hb⟩
            case measure => simp [intOf]; omega
        · have HG := Lib.hid (show gone p n k = false by unfold gone; simp [h1])
          go_wp2_with fail
          refine (HI _).out.mono ?_
          rintro e w7 ⟨rfl, rfl⟩
          go_wp2
          go_roundw
          case rel => exact ⟨k + 1, by omega, by go_num, by rw [HST.out HG.out]; exact HOK.out, hb⟩
          case measure => simp [intOf]; omega
      · have hkk : k = xs.length := by omega
        subst hkk
        have HOK := Lib.hid ho
        clear ho
        go_wp2
        go_ret
        exact GotO.mk (erased_len _ _ _) (by rw [← erasedK_all]; exact HOK.out) hb
theorem specErase_any (v : Value) (xs : List Nat) (p n : Int) (w : World) (h : FRow w v xs) (hp : I64 p) (hn : I64 n) (hl : xs.length ≤ 4000000) :
    Calls Try.prog 46 #[v, .int .i64 p, .int .i64 n] w fun e w' => GotF (erased xs p n) w e w' :=
  (specEraseO_any v xs p n w h hp hn hl).mono fun _ _ h => h.got
end Go.Proofs.Ytmelnpimoiipgaa
