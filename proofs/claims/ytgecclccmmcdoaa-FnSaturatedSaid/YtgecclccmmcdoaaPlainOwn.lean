/-
  What is proved: the plain rows that the model draws may be written by who gets them.
  Conditions: the bytes can be read.
-/
import Derived.Test.YtgecclccmmcdoaaPlain
import Derived.Test.YtgecclccmmcdoaaPkGen
namespace Go.Proofs.Ytgecclccmmcdoaa
set_option linter.unusedVariables false
open Go.RowKit
attribute [local go_sem] run_store_float run_store_complex unary_negf neg256

/-- Cells, as lists of elements. -/
def LC : Lay C3 := ⟨36, 40, 2, 12, fun c => [.float .f32 c.1, .complex .f32 c.2.1 c.2.2]⟩
theorem LC_ok : LC.Ok := by
  refine ⟨fun _ => rfl, fun x u hu => ?_, by decide, Try.underlying36, ?_, by decide⟩
  · rcases List.mem_cons.1 hu with rfl | hu
    · rfl
    · obtain rfl := List.mem_singleton.1 hu; rfl
  · obtain ⟨i, h1, h2, h3, h4⟩ := info_parts info_cell
    exact ⟨i, _, h1, h2, h3, h4, rfl⟩
theorem OwnC.lower {w : World} {base base' : Nat} {v : Value} {cs : List C3} (h : OwnC w base v cs) (hb : base' ≤ base) : OwnC w base' v cs := Lay.Own.mono (L := LC) h hb
theorem at_yC {w : World} {base g n cap k : Nat} {cs : List C3} (h : OwnC w base (.slice (some ⟨g, 0, none⟩) n cap) cs) (hk : k < cs.length) : w.cell? ⟨g, k * 2, none⟩ = some (.float .f32 cs[k].1) ∧ w.frozen? ⟨g, k * 2, none⟩ = false := by
  refine ⟨?_, (Lay.Own.at LC_ok (L := LC) h hk (show 0 < LC.size by decide) (show k * 2 = k * LC.size + 0 from rfl)).2⟩
  rcases h.row with ⟨h1, _⟩ | ⟨g', o', cap', h1, _, hc⟩
  · cases h1
  · injection h1 with e1 e2 e3
    injection e1 with e1
    injection e1 with e1 e4
    subst e1 e4
    have := (hc k hk).1
    rwa [Nat.zero_add] at this
theorem at_cC {w : World} {base g n cap k : Nat} {cs : List C3} (h : OwnC w base (.slice (some ⟨g, 0, none⟩) n cap) cs) (hk : k < cs.length) : w.cell? ⟨g, k * 2 + 1, none⟩ = some (.complex .f32 cs[k].2.1 cs[k].2.2) ∧ w.frozen? ⟨g, k * 2 + 1, none⟩ = false := by
  refine ⟨?_, (Lay.Own.at LC_ok (L := LC) h hk (show 1 < LC.size by decide) (show k * 2 + 1 = k * LC.size + 1 from rfl)).2⟩
  rcases h.row with ⟨h1, _⟩ | ⟨g', o', cap', h1, _, hc⟩
  · cases h1
  · injection h1 with e1 e2 e3
    injection e1 with e1
    injection e1 with e1 e4
    subst e1 e4
    have := (hc k hk).2
    rwa [Nat.zero_add] at this
def PlainDrawO (w : World) (e : Ending) (w' : World) : Prop := ∃ g cap cs, (1 ≤ cs.length ∧ cs.length ≤ 6) ∧ PlainR cs ∧ e = .returned (.slice (some ⟨g, 0, none⟩) cs.length cap) ∧ OwnC w' w.heap.size (.slice (some ⟨g, 0, none⟩) cs.length cap) cs ∧ Below w.heap.size w w'
theorem PlainDrawO.mk {w w' : World} {g cap : Nat} {cs : List C3} (hl : 1 ≤ cs.length ∧ cs.length ≤ 6) (hp : PlainR cs) (hr : OwnC w' w.heap.size (.slice (some ⟨g, 0, none⟩) cs.length cap) cs) (hb : Below w.heap.size w w') : PlainDrawO w (.returned (.slice (some ⟨g, 0, none⟩) cs.length cap)) w' := ⟨g, cap, cs, hl, hp, rfl, hr, hb⟩
set_option maxHeartbeats 2000000 in
theorem drawPlainO_any (a : Option Addr) (len cap : Nat) (w : World) (hs : Src w w.heap.size a len cap) :
    Calls Try.prog 19 #[.slice a len cap] w fun e w' => PlainDrawO w e w' := by
  have HN := Lib.hid (l01New_any a len cap w hs)
  clear hs
  go_enter Try.func19, Try.ntmps19
  go_wp2_with fail
  refine HN.out.mono ?_
  rintro e w1 ⟨rfl, hc1, hg1⟩
  have hlt := hc1.lt
  have hcA := hc1.alloc (.cells #[] 40)
  have hbA : Below w.heap.size w (w1.alloc (.cells #[] 40)) := ((Below.refl _ _).grown hg1 (Nat.le_refl _) (fun _ h => by cases h)).alloc hg1.size _
  have HOA := Lib.hid (OwnC.made0 w1)
  have hs1 : w.heap.size < w1.heap.size := hlt
  go_wp2_with fail
  generalize w1.alloc (.cells #[] 40) = wA at *
  refine (l01Below_any _ _ _ hcA (by decide) (by decide)).mono ?_
  rintro e w2 ⟨x, hx, _, rfl, hc2, hg2⟩
  have hx := hx (by decide)
  have hne : w1.heap.size ≠ w.heap.size := by omega
  have HO2 := Lib.hid (HOA.out.kept hg2 (.inr (by intro e; exact hne (Option.some.inj e))))
  have hb2 : Below w.heap.size w w2 := hbA.grown hg2 hbA.size (fun r hr => by cases hr; exact Nat.le_refl _)
  have hs2 : w1.heap.size ≤ w2.heap.size := by have h1 := (HO2.out.lt w1.heap.size rfl).2; omega
  clear hc1 hg1 hcA hg2 HOA hbA
  go_wp2
  go_loopw [4, 5] (fun out nn wr => ∃ (m g cap : Nat) (cs : List C3), nn = .int .i64 (m : Int) ∧ out = .slice (some ⟨g, 0, none⟩) cs.length cap ∧ (1 ≤ cs.length + m ∧ cs.length + m ≤ 6) ∧ PlainR cs ∧ Cur wr w.heap.size ∧ Below w.heap.size w wr ∧ w1.heap.size ≤ wr.heap.size ∧ OwnC wr w1.heap.size (.slice (some ⟨g, 0, none⟩) cs.length cap) cs) (fun _ nn _ => (intOf nn).toNat)
  case atStart => exact ⟨1 + x, _, 0, [], by go_num, rfl, by simp; omega, (by intro c hc; cases hc), hc2, hb2, hs2, HO2.out⟩
  case round =>
    obtain ⟨m, g, cap, cs, rfl, rfl, hm, hp, hcr, hb, hsr, hown⟩ := hrel
    have HO := Lib.hid hown
    have HP := Lib.hid hp
    clear hown HO2 hp
    by_cases hm0 : 0 < m
    · go_wp2_with fail
      refine (l02Plain_any _ _ hcr).mono ?_
      rintro e w3 ⟨y, u, v, p, q, r, hpc, rfl, hc3, hg3⟩
      have hgne : g ≠ w.heap.size := by have := (HO.out.lt g rfl).1; omega
      have HO3 := Lib.hid (HO.out.kept hg3 (.inr (by intro e; exact hgne (Option.some.inj e))))
      have hb3 : Below w.heap.size w w3 := hb.grown hg3 hb.size (fun r hr => by cases hr; exact Nat.le_refl _)
      have hs3 : w1.heap.size ≤ w3.heap.size := Nat.le_trans hsr hg3.size
      have HL := Lib.hid (row_lit w3 y u v)
      have HPC := Lib.hid hpc
      clear hg3 hcr hb HO hpc
      go_wp2_with (at_builtin; refine own_append rfl (.tmp 16) (.tmp 19) rfl w1.heap.size _ cs [(y, u, v)] rfl (HO3.out.alloc _) _ _ _ rfl HL.out (by simp) (by simp; omega) (by simp; omega) ?_; intro g6 cap6 w6 ho6 hg6 hor6 hlt6)
      have hc6 : Cur w6 w.heap.size := (hc3.alloc _).grown hg6 (fun r hr => by have := (HO3.out.lt r hr).1; omega)
      have hb6 : Below w.heap.size w w6 := (hb3.alloc hb3.size _).grown hg6 (Nat.le_trans hb3.size (by simp)) (fun r hr => by have := (HO3.out.lt r hr).1; omega)
      have hs6 : w1.heap.size ≤ w6.heap.size := by have := hg6.size; simp at this; omega
      have HO6 := Lib.hid ho6
      clear ho6 hg6 hor6
      go_wp2
      go_roundw
      case rel => exact ⟨m - 1, g6, cap6, cs ++ [(y, u, v)], by go_num, by simp, by simp; omega, HP.out.snoc HPC.out, hc6, hb6, hs6, by simpa using HO6.out⟩
      case measure => simp [intOf]; omega
    · have hm1 : m = 0 := by omega
      subst hm1
      go_wp2
      go_ret
      exact PlainDrawO.mk (by omega) HP.out (HO.out.lower (Nat.le_of_lt hs1)) hb
end Go.Proofs.Ytgecclccmmcdoaa
