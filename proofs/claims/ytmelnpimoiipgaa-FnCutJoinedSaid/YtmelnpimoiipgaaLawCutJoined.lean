/-
  What is proved: the walk of the law FnCutJoined.
  Conditions: none beyond the argument's own.
-/
import Derived.Test.YtmelnpimoiipgaaCutSame
import Derived.Test.YtmelnpimoiipgaaChanOk
import Derived.Test.YtmelnpimoiipgaaPkGen
import Derived.Test.YtmelnpimoiipgaaPkEq
import Derived.Test.YtmelnpimoiipgaaPkGEq
import Derived.Test.YtmelnpimoiipgaaImplStarts
import Derived.Test.YtmelnpimoiipgaaImplCut
import Derived.Test.YtmelnpimoiipgaaImplErase
namespace Go.Proofs.Ytmelnpimoiipgaa
set_option linter.unusedVariables false
open Go.RowKit
attribute [local go_sem] run_store_float run_store_complex unary_negf neg256

theorem put_yC {w : World} {base g n cap k : Nat} {cs : List C3} (h : OwnC w base (.slice (some ⟨g, 0, none⟩) n cap) cs) (hk : k < cs.length) (y : Nat) : OwnC (w.setCell ⟨g, k * 2, none⟩ (.float .f32 y)) base (.slice (some ⟨g, 0, none⟩) n cap) (cs.set k (y, cs[k].2)) :=
  Lay.Own.put LC_ok (L := LC) h hk (show 0 < LC.size by decide) (show k * 2 = k * LC.size + 0 from rfl) rfl
/-- The stream so far. -/
structure SL (w1 wr : World) (r N M g5 cap5 : Nat) (xs : List Nat) : Prop where
  len : xs.length = M
  own : OwnF wr w1.heap.size (.slice (some ⟨g5, 0, none⟩) M cap5) xs
  all : AllL xs 3256877056 r N
  below : Below w1.heap.size w1 wr
theorem SL.le {w1 wr : World} {r N M g5 cap5 : Nat} {xs : List Nat} (h : SL w1 wr r N M g5 cap5 xs) (hr : r ≤ 8) (hN : N ≤ 40) : M ≤ 320 := by
  have := Nat.mul_le_mul hr hN
  have := h.all.len
  have := h.len
  omega
theorem SL.start (w : World) (N : Nat) (o : Obj) : SL w ((w.alloc o).alloc (.cells #[] 25)) 0 N 0 (w.alloc o).heap.size 0 [] :=
  ⟨rfl, (OwnF.made0 (w.alloc o)).mono (by simp), AllL.nil _ _, ((Below.refl _ w).alloc (Nat.le_refl _) o).alloc (by simp) _⟩
theorem SL.row {w1 wr w2 w6 : World} {r N M g5 cap5 ga capa : Nat} {xs ys : List Nat} (h : SL w1 wr r N M g5 cap5 xs) (hb : Below wr.heap.size wr w2) (hg : w2.grownBy w6 (some g5)) (hn : ys.length = N) (hl : ∀ t, t < N → leb (ys.getD t 0) 3256877056 = decide (t < 8))
    (ho : OwnF w6 w1.heap.size (.slice (some ⟨ga, 0, none⟩) (M + N) capa) (xs ++ ys)) : SL w1 w6 (r + 1) N (M + N) ga capa (xs ++ ys) := by
  have hb12 : Below w1.heap.size w1 w2 := below_trans h.below hb h.below.size
  refine ⟨by rw [List.length_append, h.len, hn], ho, h.all.snoc hn hl, hb12.grown hg hb12.size (fun k e => by cases e; exact (h.own.lt g5 rfl).1)⟩
theorem DoneL.high {rs : List (List C3)} {W r : Nat} (h : DoneL rs W rs.length 0) (hr : r < rs.length) (hw : rs[r].length = W) : ∀ d ∈ rs[r].map upC, HighC d := by
  intro d hd
  obtain ⟨c, hc, rfl⟩ := List.mem_map.1 hd
  obtain ⟨i, hi, rfl⟩ := List.mem_iff_getElem.1 hc
  have := h.link r i hr (by omega) (.inl hr)
  rw [at2_of hr hi] at this
  exact this.high
theorem places_any {w : World} {v : Value} {m n : Nat} (h : LI.Row w v (places m n)) : ∃ a c, v = .slice a m c ∧ ∀ k, k < m → ∃ g o, a = some ⟨g, o, none⟩ ∧ m ≤ c ∧ w.cell? ⟨g, o + k, none⟩ = some (.int .i64 ((k * n : Nat) : Int)) := by
  obtain ⟨a, c, h1, h2⟩ := ints_any h
  refine ⟨a, c, by rw [h1, places_len], fun k hk => ?_⟩
  have hk' : k < (places m n).length := by rw [places_len]; exact hk
  obtain ⟨g, o, e, hc, hcell⟩ := h2 k hk'
  rw [places_get] at hcell
  rw [places_len] at hc
  exact ⟨g, o, e, hc, hcell⟩
theorem linesRead {w : World} {base : Nat} {v : Value} {xs : List Nat} {H N : Nat} {ss : List SV} (h : Grid w base v ((List.range H).map fun j => part xs (j * N) N) ss) (hl : xs.length = H * N) (hN : 0 < N) :
    ∃ a c, v = .slice a H c ∧ ∀ k, k < H → ∃ g o gl cl, a = some ⟨g, o, none⟩ ∧ H ≤ c ∧ w.cell? ⟨g, o + k, none⟩ = some (.slice (some ⟨gl, 0, none⟩) N cl) ∧ N ≤ cl ∧ FRow w (.slice (some ⟨gl, 0, none⟩) N cl) (part xs (k * N) N) := by
  have hss : ss.length = H := by rw [h.lines.len]; simp
  obtain ⟨a, c, h1, h2⟩ := lines_any h.own.row
  refine ⟨a, c, by rw [h1, hss], fun k hk => ?_⟩
  obtain ⟨g, o, e, hc, hcell⟩ := h2 k (by omega)
  have hk' : k < ((List.range H).map fun j => part xs (j * N) N).length := by simpa using hk
  have hrow := h.lines.row k (by omega) hk'
  rw [List.getElem_map, List.getElem_range] at hrow
  have hpl : (part xs (k * N) N).length = N := part_len _ _ _ (by
    have := Nat.mul_le_mul_right N (show k + 1 ≤ H from hk)
    rw [Nat.succ_mul] at this
    omega)
  obtain ⟨gl, cl, hv⟩ := hrow.row4 (by omega)
  rw [hpl] at hv
  rw [hv] at hcell hrow
  exact ⟨g, o, gl, cl, e, by omega, hcell, hrow.cap, hrow.row⟩
/-- The lines that are joined so far. -/
structure JL (w3 wr : World) (xs : List Nat) (N k M g cap : Nat) : Prop where
  len : M = k * N
  own : OwnF wr w3.heap.size (.slice (some ⟨g, 0, none⟩) M cap) (xs.take M)
  below : Below w3.heap.size w3 wr
theorem JL.start (w : World) (xs : List Nat) (N : Nat) : JL w (w.alloc (.cells #[] 25)) xs N 0 0 w.heap.size 0 :=
  ⟨by simp, by simpa using OwnF.made0 w, (Below.refl _ w).alloc (Nat.le_refl _) _⟩
theorem JL.next {w3 wr w6 w' : World} {xs : List Nat} {N k M g cap ga capa : Nat} (h : JL w3 wr xs N k M g cap) (hg : wr.grownBy w6 (some g)) (ho : OwnF w6 w3.heap.size (.slice (some ⟨ga, 0, none⟩) (M + N) capa) (xs.take M ++ part xs (k * N) N)) (hb : Below w6.heap.size w6 w') : JL w3 w' xs N (k + 1) (M + N) ga capa := by
  have h6 : Below w3.heap.size w3 w6 := h.below.grown hg h.below.size (fun j e => by cases e; exact (h.own.lt g rfl).1)
  have he : xs.take M ++ part xs (k * N) N = xs.take (M + N) := by
    rw [h.len, take_lines, Nat.succ_mul]
  rw [he] at ho
  exact ⟨by rw [h.len, Nat.succ_mul], ho.kept (grown_of hb) (.inr (show some ga ≠ none by simp)), below_trans h6 hb h6.size⟩
set_option maxHeartbeats 8000000 in
set_option maxRecDepth 100000 in
theorem walk_FnCutJoined (a0 : Option Addr) (len0 cap0 : Nat) (z0 : List Int) (w : World) (w0 : IsRow .u8 w a0 len0 cap0 z0) :
    Calls Try.prog 4 #[.slice a0 len0 cap0] w fun e w' => e = .returned (.bool true) ∧ Below w.heap.size w w' := by
  by_cases hbig : 1048576 < len0
  · have hbb : decide ((1048576 : Int) < len0) = true := by simp; omega
    have HB := Lib.hid (big_any a0 len0 cap0 w)
    rw [hbb] at HB
    clear hbb
    go_enter Try.func4, Try.ntmps4
    go_wp2_with fail
    refine HB.out.mono ?_
    rintro e w1 ⟨rfl, rfl⟩
    go_wp2
    go_ret
    exact ⟨rfl, Below.refl _ _⟩
  · have hbb : decide ((1048576 : Int) < len0) = false := by simp; omega
    have HB := Lib.hid (big_any a0 len0 cap0 w)
    rw [hbb] at HB
    have HD := Lib.hid (drawLink_any a0 len0 cap0 w (w0.src (by omega)))
    clear hbb w0
    go_enter Try.func4, Try.ntmps4
    go_wp2_with fail
    refine HB.out.mono ?_
    rintro e w1 ⟨rfl, rfl⟩
    go_wp2_with fail
    refine HD.out.mono ?_
    rintro e w1 ⟨W, g, cap, base, rs, ss, A, O, X, Y, hlk, rfl⟩
    obtain ⟨H, hH⟩ : ∃ H, rs.length = H := ⟨_, rfl⟩
    have hHH : 4 ≤ H ∧ H ≤ 8 := by have := hlk.high; omega
    have hWW := hlk.wide1
    have HLK := Lib.hid hlk
    have HHL := Lib.hid hH
    have hcap : H ≤ cap := by
      rcases hlk.grid.own.shape with ⟨h, _⟩ | ⟨g', c', h, _, _, h2, _⟩
      · cases h
      · injection h with e1 e2 e3
        have := hlk.grid.len
        omega
    rw [hH]
    have HGW := Lib.hid (fun W' (hb : Below w1.heap.size w1 W') => hlk.grid.below hb)
    rw [hH] at HGW
    have HB1 := Lib.hid hlk.below
    have hnz := LieC.new w1 0 0 0 0
    have hnl := LieC.new w1 A O X Y
    obtain ⟨p0, p1, p2, p3, p4, p5⟩ := hnz.all
    obtain ⟨r0, r1, r2, r3, r4, r5⟩ := hnl.all
    have hw00 := hlk.wide _ (List.getElem_mem (show 0 < rs.length by omega))
    obtain ⟨g00, c00, hc00, hcc00, hx00⟩ := (HGW.out _ (((Below.refl _ w1).alloc (Nat.le_refl _) (.cells #[.float .f32 A, .float .f32 O, .complex .f32 X Y] 35)).alloc (by simp) (.cells #[] 25))).rowRead (r := 0) (show 0 < rs.length by omega) (by omega)
    rw [hw00] at hc00 hcc00
    have HST := Lib.hid (SL.start w1 (24 + 4 * W) (.cells #[.float .f32 A, .float .f32 O, .complex .f32 X Y] 35))
    have hsz1 : (w1.alloc (.cells #[.float .f32 A, .float .f32 O, .complex .f32 X Y] 35)).heap.size = w1.heap.size + 1 := by simp
    rw [hsz1] at HST
    obtain ⟨N, hN⟩ : ∃ N, 24 + 4 * W = N := ⟨_, rfl⟩
    rw [hN] at HST
    have hNi : (24 : Int) + 4 * (W : Int) = (N : Int) := by omega
    have hNb : 28 ≤ N ∧ N ≤ 40 := by omega
    have HN := Lib.hid hN
    clear hnz hnl hx00 hlk hw00 hH HD HB hN
    go_wp2
    go_loopw [5, 7] (fun v5 rv wr => ∃ (r M g5 cap5 : Nat) (xs : List Nat), r ≤ H ∧ rv = .int .i64 (r : Int) ∧ v5 = .slice (some ⟨g5, 0, none⟩) M cap5 ∧ SL w1 wr r N M g5 cap5 xs) (fun _ rv _ => H - (intOf rv).toNat)
    case atStart => exact ⟨0, 0, _, _, [], Nat.zero_le _, rfl, rfl, HST.out⟩
    case round =>
      obtain ⟨r, M, g5, cap5, xs, hr, rfl, rfl, hsl⟩ := hrel
      have hMb := hsl.le (show r ≤ 8 by omega) hNb.2
      have HSL := Lib.hid hsl
      obtain ⟨wo, hwo⟩ : ∃ wo, wr = wo := ⟨_, rfl⟩
      rw [hwo] at HSL ⊢
      clear hsl hwo HST wr p0 p1 p2 p3 p4 p5 r0 r1 r2 r3 r4 r5 hc00 hcc00 hsz1
      by_cases hrh : r < H
      · have hrl : r < rs.length := by have := HHL.out; omega
        have hwr := HLK.out.wide _ (List.getElem_mem hrl)
        have hhi := HLK.out.done.high hrl hwr
        obtain ⟨gr, cr, hcell, hccr, hcells⟩ := (HGW.out _ (HSL.out.below.alloc HSL.out.below.size (.cells #[] 40))).rowRead hrl (by omega)
        rw [hwr] at hcell hccr
        generalize rs[r] = cs at *
        have HHI := Lib.hid hhi
        have HCELLS := Lib.hid hcells
        have HCL := Lib.hid hwr
        have HML := Lib.hid (show (cs.map upC).length = cs.length from List.length_map _)
        clear hhi hcells hwr hrl
        go_wp2_with (at_builtin; refine LC_ok.append rfl (.tmp 35) (.tmp 39) rfl wo.heap.size _ [] cs 0 rfl (Lay.own0 LC wo) rfl gr 0 W cr rfl HCL.out HCELLS.out (by omega) (by omega) (by simp) ?_; intro g6 cap6 w6 ho6 hg6 hor6 hlt6)
        have HB6 : Below wo.heap.size wo w6 := ((Below.refl _ wo).alloc (Nat.le_refl _) (.cells #[] 40)).grown hg6 (by simp) (fun k e => by cases e; exact Nat.le_refl _)
        have HO6 := Lib.hid (show OwnC w6 wo.heap.size (.slice (some ⟨g6, 0, none⟩) W cap6) cs from by have h := ho6; rw [Nat.zero_add] at h; exact h)
        clear ho6 hg6 hor6 hlt6 HCELLS hcell hccr
        go_loopw [9] (fun iv wi => ∃ i : Nat, i ≤ W ∧ iv = .int .i64 (i : Int) ∧ OwnC wi wo.heap.size (.slice (some ⟨g6, 0, none⟩) W cap6) ((cs.map upC).take i ++ cs.drop i) ∧ Below wo.heap.size wo wi) (fun iv _ => W - (intOf iv).toNat)
        case atStart => exact ⟨0, Nat.zero_le _, rfl, by simpa using HO6.out, HB6⟩
        case round =>
          obtain ⟨i, hi, rfl, ho, hb⟩ := hrel
          have HOI := Lib.hid ho
          have hgb : wo.heap.size ≤ g6 := (ho.lt g6 rfl).1
          clear ho HO6 HB6
          by_cases hlt : i < W
          · have hltc : i < cs.length := by have := HCL.out; omega
            have htl : i < ((cs.map upC).take i ++ cs.drop i).length := by rw [take_drop_len HML.out (by omega)]; exact hltc
            have hlm : i < (cs.map upC).length := by rw [HML.out]; exact hltc
            obtain ⟨hc, hf⟩ := at_yC HOI.out htl
            rw [take_drop_at HML.out hltc htl] at hc
            have hput := put_yC HOI.out htl 1098907648
            rw [take_drop_at HML.out hltc htl] at hput
            have hbs := hb.setCell (p := ⟨g6, i * 2, none⟩) hgb (.float .f32 1098907648)
            cases hq : under16 cs[i].1 with
            | true =>
              have hq' : (FloatKind.f32.format.order cs[i].1 1098907648 == some .lt) = true := hq
              rw [set_take_drop hlm hltc (by rw [List.getElem_map]; exact upC_yes hq)] at hput
              have HPUT := Lib.hid hput
              clear hput hq htl hlm
              generalize cs[i].1 = y at *
              clear hltc
              go_wp2
              go_roundw
              case rel => exact ⟨i + 1, by omega, by go_num, HPUT.out, hbs⟩
              case measure => simp [intOf]; omega
            | false =>
              have hq' : (FloatKind.f32.format.order cs[i].1 1098907648 == some .lt) = false := hq
              have hst := set_take_drop (z := cs[i]) hlm hltc (by rw [List.getElem_map]; exact upC_no hq)
              have HSAME := Lib.hid (show (cs.map upC).take (i + 1) ++ cs.drop (i + 1) = (cs.map upC).take i ++ cs.drop i by
                rw [← hst]
                conv => lhs; rw [← take_drop_at HML.out hltc htl]
                exact List.set_getElem_self htl)
              clear hput hq htl hlm hst hbs
              generalize cs[i].1 = y at *
              clear hltc
              go_wp2
              go_roundw
              case rel => exact ⟨i + 1, by omega, by go_num, by rw [HSAME.out]; exact HOI.out, hb⟩
              case measure => simp [intOf]; omega
          · have hfin : OwnC wr wo.heap.size (.slice (some ⟨g6, 0, none⟩) W cap6) (cs.map upC) := by
              have h := HOI.out
              rwa [List.take_of_length_le (by rw [HML.out]; have := HCL.out; omega), List.drop_of_length_le (by have := HCL.out; omega), List.append_nil] at h
            have hpl := high_plain HHI.out
            have hml : (cs.map upC).length = W := by rw [HML.out]; exact HCL.out
            have hlow := lineL_low HHI.out
            obtain ⟨ds, hds⟩ : ∃ ds, cs.map upC = ds := ⟨_, rfl⟩
            rw [hds] at hfin hpl hml hlow
            have HMK := Lib.hid (fun odd => makeLine_any (.slice (some ⟨g6, 0, none⟩) W cap6) ds odd wr hfin.row hpl.fit (hpl.rok (by omega) (by omega)))
            have HLL := Lib.hid (fun odd => lineL_len ds odd)
            rw [hml] at hlow HLL
            rw [HN.out] at hlow HLL
            have HLOW := Lib.hid hlow
            clear hfin hpl hml hlow hds HOI HML HCL HHI hgb
            go_wp2_with fail
            refine (HMK.out _).mono ?_
            generalize ((r : Int) % 2 == 1) = odd at *
            rintro e w2 ⟨v2, rfl, hn2, hb2⟩
            have hb12 := below_trans hb hb2 hb.size
            have HOWN := Lib.hid (HSL.out.own.kept (grown_of hb12) (.inr (show some g5 ≠ none by simp)))
            have HROW := Lib.hid hn2.row
            have HNX := Lib.hid (fun ga capa w6 hg ho => HSL.out.row (w6 := w6) (ga := ga) (capa := capa) hb12 hg (HLL.out odd) (HLOW.out odd) ho)
            have hLen := HLL.out odd
            have hXlen := HSL.out.len
            have hszw : w1.heap.size ≤ w2.heap.size := Nat.le_trans HSL.out.below.size hb12.size
            have HSZ2 := Lib.hid hszw
            have HLX := Lib.hid (And.intro hLen hXlen)
            clear hn2 hb hb2 hb12 HMK HLL HLOW hLen hXlen hszw
            generalize lineL ds odd = line at *
            go_wp2_with (at_builtin; refine ownF_row rfl (.tmp 57) (.tmp 62) rfl w1.heap.size g5 M cap5 xs line rfl HLX.out.2 HOWN.out _ rfl HROW.out N HLX.out.1 (by omega) HSZ2.out ?_; intro ga capa wa hoa hga hora hlta)
            go_roundw
            case rel => exact ⟨r + 1, M + N, ga, capa, xs ++ line, by omega, by go_num, rfl, HNX.out ga capa wa hga hoa⟩
            case measure => simp [intOf]; omega
      · have hre : r = H := by omega
        rw [hre] at HSL
        have hlen := HSL.out.len
        have hall := HSL.out.all
        have hlin := hall.lines
        have hMH : H * N = M := by rw [← hall.len, hlen]
        have hst := hlin.starts (by omega) (by omega) (by omega) (by omega) (by omega)
        have hcu := cuts_lines hall.len (by omega) (by omega) (by omega)
        have HER := Lib.hid (fun k (h0 : 0 < k) (hk : k < H) => (hlin.erase (by omega) hk leb_zero).starts (by omega) (by omega) (by omega) h0 (by omega))
        have HMH := Lib.hid hMH
        have HXL := Lib.hid hlen
        have hb01 := below_trans HB1.out HSL.out.below HB1.out.size
        have HB01 := Lib.hid hb01
        have HF := Lib.hid HSL.out.own.new.row
        have HS := Lib.hid (starts_any (.slice (some ⟨g5, 0, none⟩) M cap5) xs 3256877056 (N : Int) 1 wo HSL.out.own.new.row ⟨by omega, by omega⟩ ⟨by decide, by decide⟩ (by omega))
        have HC := fun vp W' (hr : FRow W' (.slice (some ⟨g5, 0, none⟩) M cap5) xs) hps => Lib.hid (cut_any (.slice (some ⟨g5, 0, none⟩) M cap5) vp xs (places H N) (N : Int) W' hr hps (fun p hp => by
          obtain ⟨j, hj, rfl⟩ := List.mem_map.1 hp
          have hj := List.mem_range.1 hj
          have := Nat.mul_le_mul (show j ≤ 8 by omega) hNb.2
          exact ⟨by omega, by omega⟩) ⟨by omega, by omega⟩ (by omega) (by rw [places_len]; omega))
        rw [hst] at HS
        rw [hcu] at HC
        clear hlen hall hlin hMH hst hcu hre HSL hb01 HGW HLK HHL HN HB1
        go_wp2_with fail
        refine HS.out.mono ?_
        rintro e w2 ⟨v10, rfl, ho10, hb2⟩
        have HF2 := Lib.hid (HF.out.below hb2)
        obtain ⟨a10, c10, rfl, hc10⟩ := places_any ho10.row
        have hr10 := ho10.row
        have HO10 := Lib.hid ho10
        have HC2 := HC _ w2 HF2.out hr10
        clear ho10 hr10 HC HS HF
        go_wp2_with fail
        refine HC2.out.mono ?_
        rintro e w3 ⟨v11, ss3, rfl, hg3, hb3⟩
        obtain ⟨a11, c11, rfl, hc11⟩ := linesRead hg3 (by rw [HXL.out, HMH.out]) (by omega)
        have HC11 := Lib.hid hc11
        have HC10 := Lib.hid (fun k (hk : k < H) => show ∃ g o, a10 = some ⟨g, o, none⟩ ∧ H ≤ c10 ∧ w3.cell? ⟨g, o + k, none⟩ = some (.int .i64 ((k * N : Nat) : Int)) by
          obtain ⟨g, o, e, h1, h2⟩ := hc10 k hk
          exact ⟨g, o, e, h1, (grown_of hb3).cell h2 (by simp)⟩)
        have HF3 := Lib.hid (HF2.out.below hb3)
        have HO3 := Lib.hid (HO10.out.below hb3)
        have hb03 := below_trans (below_trans HB01.out hb2 HB01.out.size) hb3 (Nat.le_trans HB01.out.size hb2.size)
        have HB03 := Lib.hid hb03
        have HST3 := Lib.hid (show OwnF (w3.alloc (.cells #[] 25)) w3.heap.size (.slice (some ⟨w3.heap.size, 0, none⟩) 0 0) [] from OwnF.made0 w3)
        clear hb03 hg3 hc10 hc11 hb2 hb3 HC2 HF2 HO10 HB01
        go_wp2
        go_loopw [12, 13] (fun av kv wi => ∃ (k M2 g12 cap12 : Nat), k ≤ H ∧ kv = .int .i64 (k : Int) ∧ av = .slice (some ⟨g12, 0, none⟩) M2 cap12 ∧ JL w3 wi xs N k M2 g12 cap12) (fun _ kv _ => H - (intOf kv).toNat)
        case atStart => exact ⟨0, 0, _, _, Nat.zero_le _, rfl, rfl, JL.start w3 xs N⟩
        case round =>
          obtain ⟨k, M2, g12, cap12, hk, rfl, rfl, hjl⟩ := hrel
          have hM2 := hjl.len
          have HJL := Lib.hid hjl
          have hbw := hjl.below
          have HBW := Lib.hid hbw
          have HFW := Lib.hid (HF3.out.below hbw)
          clear hjl HST3
          by_cases hkh : k < H
          · obtain ⟨g11, o11, gl, cl, rfl, hc11, hcell11, hcl, hfl⟩ := HC11.out k hkh
            obtain ⟨g10, o10, rfl, hc10, hcell10⟩ := HC10.out k hkh
            have hcell := (grown_of hbw).cell hcell11 (by simp)
            have HFL := Lib.hid (hfl.below hbw)
            have hkN : k * N + N ≤ M := by
              have := Nat.mul_le_mul_right N (show k + 1 ≤ H from hkh)
              rw [Nat.succ_mul] at this
              have := HMH.out
              omega
            have HLT := Lib.hid (show (xs.take M2).length = M2 by rw [List.length_take, HXL.out]; omega)
            have HPL := Lib.hid (show (part xs (k * N) N).length = N from part_len _ _ _ (by rw [HXL.out]; exact hkN))
            obtain ⟨P, hP⟩ : ∃ P, k * N = P := ⟨_, rfl⟩
            have hmul : IntKind.i64.wrap ((k : Int) * (N : Int)) = (P : Int) := by
              rw [← Int.natCast_mul, hP, IntWalk.i64_in _ (by omega)]
            have HP := Lib.hid hP
            rw [hP] at hcell10 hM2 hkN HPL
            have hM2P : M2 ≤ 320 := by omega
            clear hM2 hP hbw hfl hcell11
            go_wp2_with (at_builtin; refine ownF_row rfl (.tmp 90) (.tmp 94) rfl w3.heap.size g12 M2 cap12 (xs.take M2) (part xs P N) rfl HLT.out HJL.out.own _ rfl (by rw [← HP.out]; exact HFL.out) N HPL.out (by omega) HBW.out.size ?_; intro ga capa w4 hoa hga hora hlta)
            have hb4 : Below w3.heap.size w3 w4 := HBW.out.grown hga HBW.out.size (fun j e => by cases e; exact (HJL.out.own.lt g12 rfl).1)
            have HB4 := Lib.hid hb4
            have HF4 := Lib.hid (HF3.out.below hb4)
            have HNX := Lib.hid (fun w' hb => HJL.out.next (w' := w') hga (by rw [HP.out]; exact hoa) hb)
            have hcell4 := (grown_of hb4).cell hcell10 (by simp)
            clear hora hlta hga hoa hb4 hcell hcell10 HFL HLT HPL HFW
            refine (erase_any (.slice (some ⟨g5, 0, none⟩) M cap5) xs (P : Int) 8 w4 HF4.out ⟨by omega, by omega⟩ ⟨by decide, by decide⟩ (by rw [HXL.out]; omega)).mono ?_
            rintro e w5 ⟨v20, rfl, hn20, hb5⟩
            have HN20 := Lib.hid hn20.row
            have hcell5 := (grown_of hb5).cell hcell4 (by simp)
            clear hn20 hcell4
            go_wp2_with fail
            refine (starts_any v20 (erased xs (P : Int) 8) 3256877056 (N : Int) 1 w5 HN20.out ⟨by omega, by omega⟩ ⟨by decide, by decide⟩ (by rw [erased_len, HXL.out]; omega)).mono ?_
            rintro e w6 ⟨v14, rfl, ho14, hb6⟩
            have hcell6 := (grown_of hb6).cell hcell5 (by simp)
            have hb46 := below_trans hb5 hb6 hb5.size
            have HB46 := Lib.hid hb46
            have HO14 := Lib.hid ho14.row
            have HO36 := Lib.hid ((HO3.out.below HB4.out).below hb46).row
            clear hcell5 ho14 hb46 hb5 hb6 HN20 HF4
            by_cases h0 : k = 0
            · have hd0 : decide ((0 : Int) < (k : Int)) = false := decide_eq_false (by omega)
              have hd1 : ¬ 0 < k := by omega
              have hd2 : ¬ (0 : Int) < (k : Int) := by omega
              clear h0
              go_wp2
              refine ⟨⟨k + 1, M2 + N, ga, capa, by omega, by go_num, rfl, HNX.out _ HB46.out⟩, ?_⟩
              simp [intOf]; omega
            · have hd0 : decide ((0 : Int) < (k : Int)) = true := decide_eq_true (by omega)
              have hd1 : 0 < k := by omega
              have hd2 : (0 : Int) < (k : Int) := by omega
              have he := HER.out k (by omega) hkh
              rw [HP.out] at he
              rw [he] at HO14
              clear he h0
              go_wp2_with fail
              refine (sameInts_any v14 _ (places H N) w6 HO14.out HO36.out (by rw [places_len]; omega)).mono ?_
              rintro e w7 ⟨rfl, q7, rfl⟩
              go_wp2
              go_roundw
              case rel => exact ⟨k + 1, M2 + N, ga, capa, by omega, by go_num, rfl, HNX.out _ (belowDN HB46.out q7)⟩
              case measure => simp [intOf]; omega
          · have hke : k = H := by omega
            have hM3 : M2 = M := by rw [hM2, hke]; exact HMH.out
            have HQ := Lib.hid (sameSamples_sm (.slice (some ⟨g12, 0, none⟩) M2 cap12) (.slice (some ⟨g5, 0, none⟩) M cap5) xs xs wr (by
              have h := HJL.out.own.new.row
              rwa [List.take_of_length_le (by rw [HXL.out]; omega)] at h) HFW.out (SmL.refl xs) (by rw [HXL.out]; omega))
            clear hM2 hM3 hke hbw
            go_wp2_with fail
            refine HQ.out.mono ?_
            rintro e w7 ⟨rfl, q7, rfl⟩
            go_wp2
            go_ret
            exact ⟨rfl, belowDN (below_trans HB03.out HBW.out HB03.out.size) q7⟩
end Go.Proofs.Ytmelnpimoiipgaa
