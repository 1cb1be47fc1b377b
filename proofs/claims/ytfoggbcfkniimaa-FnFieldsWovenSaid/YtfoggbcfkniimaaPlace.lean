/-
  What is proved: the walk of DrawFieldOf.
  Conditions: the code can be read.
-/
import Derived.Test.YtfoggbcfkniimaaPicFar
namespace Go.Proofs.Ytfoggbcfkniimaa
set_option linter.unusedVariables false
open Go.RowKit
attribute [local go_sem] run_store_float run_store_complex unary_negf neg256

set_option maxHeartbeats 1000000 in
theorem l01Place_any (b : Nat) (w : World) (hc : Cur w b) :
    Calls Try.prog 37 #[.pointer (some ⟨b, 0, none⟩), .int .i64 2] w fun e w' => NumPost I64 b w e w' := by
  go_enter Try.func37, Try.ntmps37
  go_wp2_with fail
  refine (l01Once_any b _ _ hc (by decide) (by decide)).mono ?_
  rintro e w2 ⟨t, rfl, hc2, hg2⟩
  cases t
  · go_wp2_with fail
    refine (l01Below_any b _ _ hc2 (by decide) (by decide)).mono ?_
    rintro e w3 ⟨x, hx, _, rfl, hc3, hg3⟩
    have HX := Lib.hid (show I64 (x : Int) from ⟨by omega, by have := hx (by decide); omega⟩)
    clear hx
    go_wp2
    go_ret
    exact NumPost.mk HX.out hc3 (hg2.trans hg3)
  · have HN := Lib.hid (Nums.lit (P := I64) w2 3 [-1, 2, 3, 9223372036854775807, -9223372036854775808] (by unfold I64; decide))
    go_wp2_with fail
    refine (l01PickInt_any I64 b _ 5 5 _ (hc2.alloc _) (by decide) (by decide) (by have := hc2.lt; omega) (by decide) HN.out).mono ?_
    rintro e w3 ⟨z, hz, rfl, hc3, hg3⟩
    have HZ := Lib.hid hz
    clear hz
    go_wp2
    go_ret
    exact NumPost.mk HZ.out hc3 (hg2.trans ((World.grownBy_alloc w2 _ _).trans hg3))
theorem RowV.cur {w w' : World} {b : Nat} {v : Value} {cs : List C3} (h : RowV w v cs) (hc : Cur w b) (hg : w.grownBy w' (some b)) : RowV w' v cs := by
  rcases h with h | ⟨g, o, cap, h1, h2, h3⟩
  · exact .inl h
  · obtain ⟨a, len, cp, i, hh, _, _, _, _, hb⟩ := hc
    have hne : ∀ j, j < cs.length → g ≠ b := by
      intro j hj e
      subst e
      have c0 := (h3 j hj).1
      have c1 : (#[Value.slice a len cp, .int .i64 (i : Int), .int .i64 hh] : Array Value)[o + j * 2]? = some (.float .f32 cs[j].1) := by simpa [World.cell?, hb] using c0
      rcases (by omega : o + j * 2 = 0 ∨ o + j * 2 = 1 ∨ o + j * 2 = 2 ∨ 3 ≤ o + j * 2) with e | e | e | e
      · rw [e] at c1; simp at c1
      · rw [e] at c1; simp at c1
      · rw [e] at c1; simp at c1
      · rw [Array.getElem?_eq_none (by simpa using e)] at c1; cases c1
    exact .inr ⟨g, o, cap, h1, h2, fun j hj => ⟨hg.cell (h3 j hj).1 (by have := hne j hj; simpa using this), hg.cell (h3 j hj).2 (by have := hne j hj; simpa using this)⟩⟩
theorem PicV.cur {w w' : World} {b : Nat} {v : Value} {rs : List (List C3)} (h : PicV w v rs) (hn : ∀ g o n c, v = .slice (some ⟨g, o, none⟩) n c → g ≠ b) (hc : Cur w b) (hg : w.grownBy w' (some b)) : PicV w' v rs := by
  rcases h with h | ⟨g, o, cap, h1, h2, h3⟩
  · exact .inl h
  · have hgb := hn _ _ _ _ h1
    refine .inr ⟨g, o, cap, h1, h2, fun i hi => ?_⟩
    obtain ⟨rv, e1, e2⟩ := h3 i hi
    exact ⟨rv, hg.cell e1 (by simpa using hgb), e2.cur hc hg⟩
def FieldDraw (w : World) (e : Ending) (w' : World) : Prop := ∃ v rs, ∃ z : Int, (Thin rs ∧ rs.length ≤ 1000) ∧ e = .returned (.tuple #[v, .int .i64 z]) ∧ PicV w' v rs ∧ Below w.heap.size w w'
theorem FieldDraw.mk {w w' : World} {v : Value} {z : Int} {rs : List (List C3)} (ht : Thin rs ∧ rs.length ≤ 1000) (hp : PicV w' v rs) (hb : Below w.heap.size w w') : FieldDraw w (.returned (.tuple #[v, .int .i64 z])) w' := ⟨v, rs, z, ht, rfl, hp, hb⟩
theorem drawFieldOf_any (a : Option Addr) (len cap : Nat) (w : World) (hs : Src w w.heap.size a len cap) :
    Calls Try.prog 17 #[.slice a len cap] w fun e w' => FieldDraw w e w' := by
  have HN := Lib.hid (l01New_any a len cap w hs)
  clear hs
  go_enter Try.func17, Try.ntmps17
  go_wp2_with fail
  refine HN.out.mono ?_
  rintro e w1 ⟨rfl, hc1, hg1⟩
  go_wp2_with fail
  refine (Far.l02Picture_any _ _ hc1).mono ?_
  rintro e w2 ⟨v, rs, ht, rfl, ⟨hp, hne⟩, hc2, hg2⟩
  have HH := Lib.hid (And.intro ht (And.intro hp hne))
  have HC2 := Lib.hid hc2
  clear ht hp hne
  go_wp2_with fail
  refine (l01Place_any _ _ hc2).mono ?_
  rintro e w3 ⟨z, _, rfl, hc3, hg3⟩
  have HG := Lib.hid hg3
  clear hg3
  go_wp2
  go_ret2
  exact FieldDraw.mk HH.out.1 (HH.out.2.1.cur HH.out.2.2 HC2.out HG.out) (drawn hg1 (hg2.trans HG.out))
end Go.Proofs.Ytfoggbcfkniimaa
