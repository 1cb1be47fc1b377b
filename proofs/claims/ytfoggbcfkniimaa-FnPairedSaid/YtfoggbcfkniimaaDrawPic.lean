/-
  What is proved: what the functions that draw pictures of chapter 2 answer.
  Conditions: the cursor's block holds a cursor; the bytes that they draw from can be read.
-/
import Derived.Test.YtfoggbcfkniimaaDrawRow
import Derived.Test.YtfoggbcfkniimaaFieldOf
namespace Go.Proofs.Ytfoggbcfkniimaa
set_option linter.unusedVariables false
open Go.RowKit
attribute [local go_sem] run_store_float run_store_complex unary_negf neg256

set_option maxHeartbeats 1000000 in
theorem l02PlainD_any (b : Nat) (w : World) (hc : Cur w b) :
    Calls Try.prog 59 #[.pointer (some ⟨b, 0, none⟩)] w fun e w' => CellPost b w e w' := by
  have hlt := hc.lt
  have hcA := hc.alloc (.cells #[.float .f32 0, .complex .f32 0 0] 50)
  have hgA := World.grownBy_alloc w (.cells #[.float .f32 0, .complex .f32 0 0] 50) (some b)
  have hnew := heap_alloc_new w (.cells #[.float .f32 0, .complex .f32 0 0] 50)
  have hsA : w.heap.size < (w.alloc (.cells #[.float .f32 0, .complex .f32 0 0] 50)).heap.size := by simp
  have HN := Lib.hid hnew
  clear hc hnew
  go_enter Try.func59, Try.ntmps59
  go_wp2_with fail
  generalize w.alloc (.cells #[.float .f32 0, .complex .f32 0 0] 50) = wA at *
  refine (l01Below_any b _ _ hcA (by decide) (by decide)).mono ?_
  rintro e w1 ⟨x1, hx1, _, rfl, hc1, hg1⟩
  have hx1 := hx1 (by decide)
  obtain ⟨y, hy, hy2⟩ := foi16 ((x1 : Int) - 1024)
  have q1 := fun W => run_float_arith (P := Try.prog) W .quo 22 .f32 _ _ _ hy
  go_wp2_with fail
  refine (l01Below_any b _ _ hc1 (by decide) (by decide)).mono ?_
  rintro e w2 ⟨x2, hx2, _, rfl, hc2, hg2⟩
  have hx2 := hx2 (by decide)
  obtain ⟨u, hu, hu2⟩ := foi16 ((x2 : Int) - 512)
  have q2 := fun W => run_float_arith (P := Try.prog) W .quo 22 .f32 _ _ _ hu
  go_wp2_with fail
  refine (l01Below_any b _ _ hc2 (by decide) (by decide)).mono ?_
  rintro e w3 ⟨x3, hx3, _, rfl, hc3, hg3⟩
  have hx3 := hx3 (by decide)
  obtain ⟨v, hv, hv2⟩ := foi16 ((x3 : Int) - 512)
  have q3 := fun W => run_float_arith (P := Try.prog) W .quo 22 .f32 _ _ _ hv
  have HV := Lib.hid (And.intro hy2 (And.intro hu2 hv2))
  clear hy hu hv hy2 hu2 hv2 q1 q2
  have hg := (hg1.trans hg2).trans hg3
  have hB : w3.heap[w.heap.size]? = some (.cells #[.float .f32 0, .complex .f32 0 0] 50 (0, 0)) := (hg.block _ hsA (by intro h; cases h; omega)).trans HN.out
  have c0 : w3.cell? ⟨w.heap.size, 0, none⟩ = some (.float .f32 0) := by simp [World.cell?, hB]
  have c1 : w3.cell? ⟨w.heap.size, 1, none⟩ = some (.complex .f32 0 0) := by simp [World.cell?, hB]
  have f0 : w3.frozen? ⟨w.heap.size, 0, none⟩ = false := by simp [World.frozen?, hB]
  have f1 : w3.frozen? ⟨w.heap.size, 1, none⟩ = false := by simp [World.frozen?, hB]
  have hB2 := heap_put (i := 1) (v := .complex .f32 u v) (heap_put (i := 0) (v := .float .f32 y) hB)
  have hgr := grown_set (grown_set (hgA.trans hg) (p := ⟨w.heap.size, 0, none⟩) (Nat.le_refl _) (.float .f32 y)) (p := ⟨w.heap.size, 1, none⟩) (Nat.le_refl _) (.complex .f32 u v)
  have hcr := (hc3.set (p := ⟨w.heap.size, 0, none⟩) hlt (.float .f32 y)).set (p := ⟨w.heap.size, 1, none⟩) hlt (.complex .f32 u v)
  clear hB hc1 hc2 hc3 hg1 hg2 hg3 hg hgA hcA
  have HB := Lib.hid hB2
  clear hB2
  go_wp2
  generalize ((w3.setCell ⟨w.heap.size, 0, none⟩ (.float .f32 y)).setCell ⟨w.heap.size, 1, none⟩ (.complex .f32 u v)) = w4 at *
  have d0 : w4.cell? ⟨w.heap.size, 0, none⟩ = some (.float .f32 y) := by have := HB.out; simp [World.cell?, this]
  have d1 : w4.cell? ⟨w.heap.size, 1, none⟩ = some (.complex .f32 u v) := by have := HB.out; simp [World.cell?, this]
  refine bodyPost_ret (v := .agg #[.float .f32 y, .complex .f32 u v]) ?_ rfl ⟨y, u, v, HV.out, rfl, hcr, hgr⟩
  simp [results, Try.results59, go_sem, d0, d1]

theorem Cur.cells {w : World} {b : Nat} (h : Cur w b) : ∃ cur t fz, w.heap[b]? = some (.cells cur t fz) ∧ t ≠ 50 := by
  obtain ⟨_, _, _, _, _, _, _, _, _, hb⟩ := h
  exact ⟨_, _, _, hb, by decide⟩
/-- The rows of a picture that is being drawn. -/
def Rows (base : Nat) (w : World) (W : Nat) (vals : List Value) (rs : List (List C3)) : Prop := ∀ i (h : i < rs.length), ∃ rv, vals[i]? = some rv ∧ RowK w rv rs[i] ∧ (rs[i].length = W ∧ ∀ g o n c, rv = .slice (some ⟨g, o, none⟩) n c → base ≤ g)
structure PRnd (w wr : World) (b W g cap : Nat) (rs : List (List C3)) : Prop where
  own : ∃ vals, wr.ownsRow w.heap.size 46 1 (.slice (some ⟨g, 0, none⟩) rs.length cap) rs.length vals ∧ Rows w.heap.size wr W vals rs
  cur : Cur wr b
  grown : w.grownBy wr (some b)
/-- A row that is being drawn. -/
structure IRnd (ws wi : World) (b : Nat) (v : Value) (cs : List C3) : Prop where
  own : OwnC wi ws.heap.size v cs
  cur : Cur wi b
  grown : ws.grownBy wi (some b)
theorem Rows.far {base : Nat} {w w' : World} {W : Nat} {vals : List Value} {rs : List (List C3)} {row : Option Nat} (h : Rows base w W vals rs) (hg : w.grownBy w' row) (hr : ∀ r, row = some r → ∃ cur t fz, w.heap[r]? = some (.cells cur t fz) ∧ t ≠ 50) : Rows base w' W vals rs := by
  intro i hi
  obtain ⟨rv, h1, h2, h3⟩ := h i hi
  exact ⟨rv, h1, h2.far hg hr, h3⟩
theorem PRnd.start (w : World) (b W : Nat) (hc : Cur w b) : PRnd w (w.alloc (.cells #[] 46)) b W w.heap.size 0 [] :=
  ⟨⟨[], World.ownsRow_made w #[] 0 (Nat.le_refl _) (by unfold maxLen; omega) rfl, fun i h => by simp at h⟩, hc.alloc _, World.grownBy_alloc _ _ _⟩
theorem PRnd.next {w wr w' : World} {b W g cap : Nat} {rs : List (List C3)} (h : PRnd w wr b W g cap rs) (hb : b < w.heap.size) (hc : Cur w' b) (hg : wr.grownBy w' (some b)) : PRnd w w' b W g cap rs := by
  obtain ⟨vals, h1, h2⟩ := h.own
  refine ⟨⟨vals, h1.kept hg (.inr ?_), h2.far hg (fun r e => by have e' : b = r := Option.some.inj e; subst e'; exact h.cur.cells)⟩, hc, h.grown.trans hg⟩
  intro e
  have e' : g = b := Option.some.inj e
  have := (h1.lt g rfl).1
  omega
theorem IRnd.next {ws wi w' : World} {b : Nat} {v : Value} {cs : List C3} (h : IRnd ws wi b v cs) (hb : b < ws.heap.size) (hc : Cur w' b) (hg : wi.grownBy w' (some b)) : IRnd ws w' b v cs := by
  refine ⟨h.own.kept hg ?_, hc, h.grown.trans hg⟩
  cases hv : v.ownBlock with
  | none => exact .inl rfl
  | some k => exact .inr (fun e => by cases e; have := (h.own.lt b hv).1; omega)
theorem IRnd.app {ws wi w' : World} {b g cap : Nat} {v : Value} {cs : List C3} {c : C3} (h : IRnd ws wi b v cs) (hb : b < ws.heap.size) (o : Obj)
    (hown : OwnC w' ws.heap.size (.slice (some ⟨g, 0, none⟩) (cs.length + [c].length) cap) (cs ++ [c])) (hg : (wi.alloc o).grownBy w' v.ownBlock) :
    IRnd ws w' b (.slice (some ⟨g, 0, none⟩) (cs.length + [c].length) cap) (cs ++ [c]) := by
  refine ⟨hown, ?_, ?_⟩
  · exact (h.cur.alloc o).grown hg (fun r hr => Nat.lt_of_lt_of_le hb (h.own.lt r hr).1)
  · exact grown_own (grown_alloc h.grown o) hg (fun r hr => (h.own.lt r hr).1)
/-- The drawn row joins the picture. -/
theorem PRnd.app {w wr wi w' : World} {b W g cap g2 cap2 : Nat} {rs : List (List C3)} {v : Value} {cs : List C3} {vals : List Value} (hb : b < w.heap.size) (hi : IRnd wr wi b v cs) (hcs : cs.length = W) (o : Obj) (hwr : w.heap.size ≤ wr.heap.size) (hgr : w.grownBy wi (some b))
    (hO : wi.ownsRow w.heap.size 46 1 (.slice (some ⟨g, 0, none⟩) rs.length cap) rs.length vals) (hR : Rows w.heap.size wi W vals rs)
    (hown : w'.ownsRow w.heap.size 46 1 (.slice (some ⟨g2, 0, none⟩) (rs.length + 1) cap2) (rs.length + 1) (vals ++ [v])) (hg : (wi.alloc o).grownBy w' (some g)) :
    PRnd w w' b W g2 cap2 (rs ++ [cs]) := by
  have hvl : vals.length = rs.length := by have := hO.1; omega
  have hgl := (hO.lt g rfl).1
  have hrow : ∀ {rv : Value} {ds : List C3}, RowK wi rv ds → RowK w' rv ds := by
    intro rv ds hk
    have h1 := hk.far (World.grownBy_alloc wi o none) (fun r e => by cases e)
    refine h1.far hg (fun r e => ?_)
    have e' : g = r := Option.some.inj e
    subst e'
    rcases (hO.alloc o).2 with ⟨h0, _⟩ | ⟨g', cp, cur, h0, _, hgg, _⟩
    · cases h0
    · simp only [Value.slice.injEq, Option.some.injEq, Addr.mk.injEq] at h0
      obtain ⟨⟨rfl, _⟩, _⟩ := h0
      exact ⟨cur, _, _, hgg, by decide⟩
  refine ⟨⟨vals ++ [v], by rw [List.length_append]; exact hown, fun i hi2 => ?_⟩, ?_, ?_⟩
  · by_cases hlt : i < rs.length
    · obtain ⟨rv, e1, e2, e3⟩ := hR i hlt
      refine ⟨rv, by rw [List.getElem?_append_left (by omega)]; exact e1, ?_⟩
      rw [List.getElem_append_left hlt]
      exact ⟨hrow e2, e3⟩
    · have hi3 : i = rs.length := by simp at hi2; omega
      subst hi3
      refine ⟨v, by rw [List.getElem?_append_right (by omega), hvl]; simp, ?_⟩
      rw [List.getElem_append_right (Nat.le_refl _)]
      refine ⟨by simpa using hrow hi.own.rowK, by simpa using hcs, fun g' o' n c e => ?_⟩
      have := (hi.own.lt g' (by rw [e]; rfl)).1
      omega
  · exact (hi.cur.alloc o).grown hg (fun r hr => by cases hr; omega)
  · exact grown_own (grown_alloc hgr o) hg (fun r hr => by cases hr; exact hgl)

/-- A row's header, appended to a picture. -/
theorem rows_append {ops : Array Oper} {rest : List Oper} {o : Oper} {a : Act} {w : World} {Q : Exit → Act → World → Prop} (hgd : o.guard = none) (s x : Operand)
    (ho : o.op = .call { callee := .builtin .append, args := #[s, x], argTypes := #[38, 38] })
    (base : Nat) (v : Value) (n : Nat) (vals news : List Value) (hs : a.eval s = v) (hown : w.ownsRow base 46 1 v n vals) (ad : Addr) (m c : Nat) (hx : a.eval x = .slice (some ad) m c) (hl : news.length = m) (hnews : ∀ j u, news[j]? = some u → w.cell? (ad.add j) = some u) (h1 : ∀ u ∈ news, u.oneCell' = true)
    (hm : 0 < m) (hlen : n + m ≤ 1000000) (hbase : base ≤ w.heap.size)
    (h : ∀ g cap w', w'.ownsRow base 46 1 (.slice (some ⟨g, 0, none⟩) (n + m) cap) (n + m) (vals ++ news) → w.grownBy w' v.ownBlock → g < w'.heap.size → wpList Try.prog ops Q rest (a.put o.dst (.slice (some ⟨g, 0, none⟩) (n + m) cap)) w') :
    wpList Try.prog ops Q (o :: rest) a w := by
  obtain ⟨i0, hi, hz0, hz1, hz2⟩ := info_parts info_row
  refine wpList_append_lies w hgd s x 38 ho base 46 i0 _ 1 24 Try.underlying38 hi hz0 hz1 hz2 rfl (by decide) v n _ hs hown ad m c news hx (by omega) hnews h1 hm (by unfold maxLen; omega) (by omega) hbase w.heap.size rfl ?_
  intro g cap w' h2 h3 _ h5
  exact h g cap w' h2 h3 h5
theorem cell_lit (w : World) (x : Value) (t : TypeId) : ∀ j u, [x][j]? = some u → (w.alloc (.cells #[x] t)).cell? ((⟨w.heap.size, 0, none⟩ : Addr).add j) = some u := by
  intro j u hu
  cases j with
  | zero =>
    have e : x = u := by simpa using hu
    subst e
    have hadd : (⟨w.heap.size, 0, none⟩ : Addr).add 0 = ⟨w.heap.size, 0, none⟩ := by unfold Addr.add; split <;> simp_all
    rw [hadd]
    exact (cell_of_row _ _ 0 _ _ _ (heap_alloc_new w _)).trans rfl
  | succ j => simp at hu

theorem RowV.at {w : World} {v : Value} {cs : List C3} (h : RowV w v cs) (i : Nat) (hi : i < cs.length) : ∃ g o c u z, v = .slice (some ⟨g, o, none⟩) cs.length c ∧ w.cell? ⟨g, o + i * 2 + 1, none⟩ = some (.complex .f32 u z) := by
  rcases h with ⟨_, h⟩ | ⟨g, o, c, h1, _, h3⟩
  · subst h; simp at hi
  · exact ⟨g, o, c, _, _, h1, (h3 i hi).2⟩
theorem cell_own {w : World} {base g n cap : Nat} {e : TypeId} {vals : List Value} (h : w.ownsRow base e 1 (.slice (some ⟨g, 0, none⟩) n cap) n vals) {i : Nat} {x : Value} (hx : vals[i]? = some x) : w.cell? ⟨g, i, none⟩ = some x := by
  have hc := World.ownsRow.cells h (g := g) rfl i x hx
  have hadd : (⟨g, 0, none⟩ : Addr).add i = ⟨g, i, none⟩ := by unfold Addr.add; split <;> simp_all
  rwa [hadd] at hc
theorem row_lit2 (w : World) (o : Obj) (y u v : Nat) : RowV ((w.alloc o).alloc (.cells #[.float .f32 y, .complex .f32 u v] 50)) (.slice (some ⟨w.heap.size + 1, 0, none⟩) 1 1) [(y, u, v)] := by
  have := row_lit (w.alloc o) y u v
  rwa [World.size_alloc] at this
def PairedPost (b : Nat) (w : World) (e : Ending) (w' : World) : Prop := ∃ W g cap rs, (1 ≤ W ∧ W ≤ 4) ∧ (4 ≤ rs.length ∧ rs.length ≤ 8) ∧ e = .returned (.slice (some ⟨g, 0, none⟩) rs.length cap) ∧ PRnd w w' b W g cap rs
theorem PairedPost.mk {b W g cap : Nat} {w w' : World} {rs : List (List C3)} (h1 : 1 ≤ W ∧ W ≤ 4) (h2 : 4 ≤ rs.length ∧ rs.length ≤ 8) (h : PRnd w w' b W g cap rs) : PairedPost b w (.returned (.slice (some ⟨g, 0, none⟩) rs.length cap)) w' := ⟨W, g, cap, rs, h1, h2, rfl, h⟩
set_option maxRecDepth 100000 in
set_option maxHeartbeats 8000000 in
theorem l02Paired_any (b : Nat) (w : World) (hc : Cur w b) :
    Calls Try.prog 48 #[.pointer (some ⟨b, 0, none⟩)] w fun e w' => PairedPost b w e w' := by
  have hlt := hc.lt
  have HS := Lib.hid (fun W => PRnd.start w b W hc)
  clear hc
  go_enter Try.func48, Try.ntmps48
  go_wp2_with fail
  refine (l01Below_any b _ _ (HS.out 0).cur (by decide) (by decide)).mono ?_
  rintro e w1 ⟨x, hx, _, rfl, hc1, hg1⟩
  have hx := hx (by decide)
  have HS1 := Lib.hid (fun W => (HS.out W).next hlt hc1 hg1)
  clear HS hc1 hg1
  go_wp2_with fail
  refine (l01Below_any b _ _ (HS1.out 0).cur (by decide) (by decide)).mono ?_
  rintro e w2 ⟨y, hy, _, rfl, hc2, hg2⟩
  have hy := hy (by decide)
  have HS2 := Lib.hid (fun W => (HS1.out W).next hlt hc2 hg2)
  clear HS1 hc2 hg2
  go_wp2
  obtain ⟨W, hW⟩ : ∃ W : Nat, W = 1 + x := ⟨_, rfl⟩
  have hW1 : (1 : Int) + (x : Int) = (W : Int) := by omega
  have hWr : 1 ≤ W ∧ W ≤ 4 := by omega
  obtain ⟨H, hH⟩ : ∃ H : Nat, H = 4 * (1 + y) := ⟨_, rfl⟩
  have hH1 : (4 : Int) * (1 + (y : Int)) = (H : Int) := by omega
  have hHr : 4 ≤ H ∧ H ≤ 8 := by omega
  have HP := Lib.hid (HS2.out W)
  clear HS2
  try simp only [hW1, hH1]
  clear hW1 hH1 hW hH hx hy
  go_loopw [3, 6] (fun out r wr => ∃ (g cap : Nat) (rs : List (List C3)), rs.length ≤ H ∧ out = .slice (some ⟨g, 0, none⟩) rs.length cap ∧ r = .int .i64 (rs.length : Int) ∧ PRnd w wr b W g cap rs) (fun _ r _ => H - (intOf r).toNat)
  case atStart => exact ⟨_, 0, [], Nat.zero_le _, rfl, rfl, HP.out⟩
  case round =>
    obtain ⟨g, cap, rs, hrl, rfl, rfl, hr⟩ := hrel
    have HR := Lib.hid hr
    clear hr HP
    by_cases hlr : rs.length < H
    · obtain ⟨ws, rfl⟩ : ∃ ws, ws = wr := ⟨_, rfl⟩
      have hs0 := HR.out.grown.size
      have hltr : b < ws.heap.size := by omega
      have HI := Lib.hid (show IRnd ws (ws.alloc (.cells #[] 50)) b (.slice (some ⟨ws.heap.size, 0, none⟩) 0 0) [] from ⟨OwnC.made0 ws, HR.out.cur.alloc _, World.grownBy_alloc ws _ _⟩)
      go_wp2
      go_loopw [7, 8] (fun row i wi => ∃ (ig icap : Nat) (cs : List C3), cs.length ≤ W ∧ row = .slice (some ⟨ig, 0, none⟩) cs.length icap ∧ i = .int .i64 (cs.length : Int) ∧ IRnd ws wi b (.slice (some ⟨ig, 0, none⟩) cs.length icap) cs) (fun _ i _ => W - (intOf i).toNat)
      case atStart => exact ⟨_, 0, [], Nat.zero_le _, rfl, rfl, HI.out⟩
      case round =>
        obtain ⟨ig, icap, cs, hcl, rfl, rfl, hir⟩ := hrel
        have HIR := Lib.hid hir
        clear hir HI
        by_cases hlc : cs.length < W
        · go_wp2_with fail
          refine (l02PlainD_any b _ HIR.out.cur).mono ?_
          rintro e w3 ⟨py, pu, pz, hf, rfl, hc3, hg3⟩
          have hi3 := HIR.out.next hltr hc3 hg3
          have HI3 := Lib.hid (fun o => show IRnd ws (w3.alloc o) b _ cs from ⟨hi3.own.alloc o, hi3.cur.alloc o, grown_alloc hi3.grown o⟩)
          have hbase := hi3.grown.size
          by_cases hr4 : rs.length % 4 < 2
          · have hd : decide (2 ≤ (rs.length : Int) % 4) = false := by simp; omega
            have HL := Lib.hid (row_lit2 w3 (.cells #[.float .f32 py, .complex .f32 pu pz] 50) py pu pz)
            clear hi3 hc3 hg3 hf HIR hr4
            go_wp2_with (at_builtin; refine own_append rfl (.tmp 44) (.tmp 46) rfl ws.heap.size _ cs [(py, pu, pz)] rfl ((HI3.out _).own.alloc _) _ _ _ rfl HL.out (by simp) (by simp; omega) (by simp; omega) ?_; intro g6 cap6 w6 ho6 hg6 hor6 hlt6)
            have hfin := (HI3.out _).app hltr _ ho6 hg6
            have HF := Lib.hid hfin
            clear hfin ho6 hg6 hor6 hlt6 hd
            go_roundw
            case rel => exact ⟨g6, cap6, cs ++ [(py, pu, pz)], by simp; omega, by simp, by simp, by simpa using HF.out⟩
            case measure => simp [intOf]; omega
          · have hd : decide (2 ≤ (rs.length : Int) % 4) = true := by simp; omega
            have hp3 := HR.out.next hlt hi3.cur hi3.grown
            obtain ⟨vals, hO, hR⟩ := hp3.own
            obtain ⟨rv, e1, e2, e3⟩ := hR (rs.length - 2) (by omega)
            obtain ⟨rg, ro, rc, cu, cz, rfl, k1⟩ := e2.1.at cs.length (by have := e3.1; omega)
            have k0 := cell_own hO e1
            rw [e3.1] at k0
            have hbA := (Below.refl w3.heap.size w3).alloc (Nat.le_refl _) (.cells #[.float .f32 py, .complex .f32 pu pz] 50)
            have m0 := (grown_of hbA).cell k0 (by simp)
            have m1 := (grown_of hbA).cell k1 (by simp)
            have hs1 : ((rs.length : Int) - 2) = ((rs.length - 2 : Nat) : Int) := by omega
            have hs2 : rs.length - 2 < rs.length := by omega
            have HL := Lib.hid (row_lit2 w3 (.cells #[.float .f32 py, .complex .f32 cu cz] 50) py cu cz)
            clear hi3 hc3 hg3 hf HIR hr4 k0 k1 e1 e2 e3 hO hR hp3 hbA
            go_wp2_with (at_builtin; refine own_append rfl (.tmp 44) (.tmp 46) rfl ws.heap.size _ cs [(py, cu, cz)] rfl ((HI3.out _).own.alloc _) _ _ _ rfl HL.out (by simp) (by simp; omega) (by simp; omega) ?_; intro g6 cap6 w6 ho6 hg6 hor6 hlt6)
            have hfin := (HI3.out _).app hltr _ ho6 hg6
            have HF := Lib.hid hfin
            clear hfin ho6 hg6 hor6 hlt6 hd hs1 hs2 m0 m1
            go_roundw
            case rel => exact ⟨g6, cap6, cs ++ [(py, cu, cz)], by simp; omega, by simp, by simp, by simpa using HF.out⟩
            case measure => simp [intOf]; omega
        · have hcw : cs.length = W := by omega
          have hp3 := HR.out.next hlt HIR.out.cur HIR.out.grown
          obtain ⟨vals, hO, hR⟩ := hp3.own
          have hbase := hp3.grown.size
          have HO := Lib.hid hO
          have HRR := Lib.hid hR
          have HG := Lib.hid hp3.grown
          have HCW := Lib.hid hcw
          clear hO hR hp3 hcw
          go_wp2_with (at_builtin; refine rows_append rfl (.tmp 48) (.tmp 50) rfl w.heap.size _ rs.length vals _ rfl (HO.out.alloc _) _ 1 _ rfl rfl (cell_lit _ _ _) (by simp [Value.oneCell']) (by decide) (by omega) (by simp; omega) ?_; intro g6 cap6 w6 ho6 hg6 hlt6)
          have hfin := PRnd.app hlt HIR.out HCW.out _ hs0 HG.out HO.out HRR.out ho6 hg6
          have HF := Lib.hid hfin
          clear hfin ho6 hg6 hlt6
          go_roundw
          case rel => exact ⟨g6, cap6, rs ++ [cs], by simp; omega, by simp, by simp, by simpa using HF.out⟩
          case measure => simp [intOf]; omega
    · have hrh : rs.length = H := by omega
      have HH := Lib.hid hrh
      clear hrh
      go_wp2
      go_ret
      exact PairedPost.mk hWr (by have := HH.out; omega) HR.out
end Go.Proofs.Ytfoggbcfkniimaa
