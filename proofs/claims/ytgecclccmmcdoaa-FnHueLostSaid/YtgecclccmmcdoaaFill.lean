/-
  What is proved: copying elements of any size within a row; rows that are filled with one element.
  Conditions: those that each fact names.
-/
import Derived.Test.YtgecclccmmcdoaaFRow
import Derived.Laws.CopyOwn
namespace Go.Proofs.Ytgecclccmmcdoaa
set_option linter.unusedVariables false
open Go.RowKit

theorem run_copy_wide (P : Program) (w : World) (dT sT ty elem : TypeId) (sz n g o dLen dCap : Nat) (a : Addr) (sLen sCap : Nat) (cur : Array Value) (t : TypeId) (cs : List Value)
    (hu : P.underlying dT = some (.slice elem)) (hs : (P.info? elem).map (·.size) = some sz)
    (hg : w.heap[g]? = some (.cells cur t (0, 0))) (hn : n = Nat.min sLen dLen) (hc : cs.length = n * sz)
    (hsrc : ∀ j v, cs[j]? = some v → w.cell? (a.add j) = some v) (hfit : o + cs.length ≤ cur.size) (h1 : ∀ v ∈ cs, v.oneCell' = true) :
    (Builtin.copy_ #[dT, sT] ty #[.slice (some ⟨g, o, none⟩) dLen dCap, .slice (some a) sLen sCap]).run P w =
      .ok (goInt n) (w.setRow g (cur.toList.take o ++ cs ++ cur.toList.drop (o + cs.length)).toArray) := by
  have hl := run_loadCells_list (P := P) w a cs hsrc
  have hst := run_storeCells_at P g o t cs 0 cur w hg (by simpa using hfit) h1
  cases hq : P.info? elem with
  | none => simp [hq] at hs
  | some i =>
    have hi : i.size = sz := by simpa [hq] using hs
    rw [hc] at hl
    simp [Builtin.copy_, run_underlying hu, Builtin.lenOf, Builtin.firstCells, sizeOf, typeInfo, hq, hi, ← hn, hl, hst]

/-- n elements that are all alike. -/
def fills (pat : List Value) : Nat → List Value
  | 0 => []
  | n + 1 => pat ++ fills pat n
theorem fills_len (pat : List Value) : ∀ n, (fills pat n).length = n * pat.length
  | 0 => by simp [fills]
  | n + 1 => by rw [fills, List.length_append, fills_len pat n, Nat.succ_mul, Nat.add_comm]
theorem fills_add (pat : List Value) : ∀ n m, fills pat (n + m) = fills pat n ++ fills pat m
  | 0, m => by simp [fills]
  | n + 1, m => by rw [Nat.succ_add, fills, fills, fills_add pat n m, List.append_assoc]
theorem fills_mem {pat : List Value} {v : Value} : ∀ {n}, v ∈ fills pat n → v ∈ pat
  | 0, h => by cases h
  | n + 1, h => by
    rw [fills, List.mem_append] at h
    exact h.elim id fills_mem
/-- Block g has room for N elements, the first n of which are filled. -/
def Fill (t : TypeId) (pat : List Value) (w : World) (g n N : Nat) : Prop :=
  ∃ zs : List Value, w.heap[g]? = some (.cells (fills pat n ++ zs).toArray t (0, 0)) ∧ zs.length = (N - n) * pat.length
theorem Fill.start {t : TypeId} {pat : List Value} (w : World) (zero : Array Value) (N : Nat) (hz : zero.size = pat.length) : Fill t pat (w.alloc (.cells (madeCells zero (N * zero.size)) t)) w.heap.size 0 N := by
  refine ⟨(madeCells zero (N * zero.size)).toList, ?_, by rw [Array.length_toList, size_madeCells, hz]; rfl⟩
  rw [fills, List.nil_append, Array.toArray_toList]
  exact heap_alloc_new w _
theorem Fill.cell {t : TypeId} {pat : List Value} {w : World} {g n N m : Nat} (h : Fill t pat w g n N) (hm : m ≤ n) : ∀ j v, (fills pat m)[j]? = some v → w.cell? ((⟨g, 0, none⟩ : Addr).add j) = some v := by
  intro j v hj
  obtain ⟨zs, hz, _⟩ := h
  have hadd : (⟨g, 0, none⟩ : Addr).add j = ⟨g, j, none⟩ := by unfold Addr.add; split <;> simp_all
  have hl : j < (fills pat m).length := (List.getElem?_eq_some_iff.1 hj).1
  obtain ⟨k, rfl⟩ : ∃ k, n = m + k := ⟨n - m, by omega⟩
  rw [hadd]
  simp only [World.cell?, hz]
  rw [List.getElem?_toArray, fills_add, List.append_assoc, List.getElem?_append_left hl, hj]
  rfl
theorem Fill.kept {t : TypeId} {pat : List Value} {w w' : World} {g n N : Nat} (h : Fill t pat w g n N) (hb : w'.heap[g]? = w.heap[g]?) : Fill t pat w' g n N := by
  obtain ⟨zs, h1, h2⟩ := h
  exact ⟨zs, hb.trans h1, h2⟩
theorem fill_run {P : Program} {w : World} (dT sT ty elem : TypeId) (hu : P.underlying dT = some (.slice elem)) (pat : List Value) (hsz : (P.info? elem).map (·.size) = some pat.length)
    (h1 : ∀ v ∈ pat, v.oneCell' = true) (g off n m N dLen dCap : Nat) (ad : Addr) (sLen sCap : Nat)
    (t : TypeId) (hf : Fill t pat w g n N) (hoff : off = n * pat.length) (hm : m = Nat.min sLen dLen) (hN : n + m ≤ N)
    (hsrc : ∀ j v, (fills pat m)[j]? = some v → w.cell? (ad.add j) = some v) :
    ∃ w', (Builtin.copy_ #[dT, sT] ty #[.slice (some ⟨g, off, none⟩) dLen dCap, .slice (some ad) sLen sCap]).run P w = .ok (goInt m) w' ∧ Fill t pat w' g (n + m) N ∧ ∀ B w0, Below B w0 w → B ≤ g → Below B w0 w' := by
  obtain ⟨zs, hg, hz⟩ := hf
  have hlen : (fills pat n ++ zs).length = N * pat.length := by
    rw [List.length_append, fills_len, hz, ← Nat.add_mul]; congr 1; omega
  have hsm : (n + m) * pat.length ≤ N * pat.length := Nat.mul_le_mul_right _ hN
  rw [Nat.add_mul] at hsm
  have hrun := run_copy_wide P w dT sT ty elem pat.length m g off dLen dCap ad sLen sCap _ t (fills pat m) hu hsz hg hm (fills_len pat m) hsrc (by rw [hoff, List.size_toArray, hlen, fills_len]; exact hsm) (fun v hv => h1 v (fills_mem hv))
  refine ⟨_, hrun, ⟨zs.drop (m * pat.length), ?_, ?_⟩, fun B w0 hb hB => below_setRow hb hB _⟩
  · rw [setRow_heap w g _ _ t _ hg]
    congr 3
    have e1 : (fills pat n ++ zs).take off = fills pat n := by rw [hoff, ← fills_len, List.take_left]
    have e2 : (fills pat n ++ zs).drop (off + m * pat.length) = zs.drop (m * pat.length) := by
      rw [hoff, ← fills_len pat n, List.drop_append, List.drop_eq_nil_of_le (Nat.le_add_right _ _), Nat.add_sub_cancel_left, List.nil_append]
    simp [fills_len, fills_add, e1, e2]
  · rw [List.length_drop, hz, ← Nat.sub_mul]; congr 1; omega
theorem wpList_fill {P : Program} {w : World} {ops : Array Oper} {rest : List Oper} {o : Oper} {a : Act} {Q : Exit → Act → World → Prop} (hgd : o.guard = none) (d s : Operand) (dT sT : TypeId)
    (ho : o.op = .call { callee := .builtin .copy, args := #[d, s], argTypes := #[dT, sT] }) (elem : TypeId) (hu : P.underlying dT = some (.slice elem)) (pat : List Value) (hsz : (P.info? elem).map (·.size) = some pat.length)
    (h1 : ∀ v ∈ pat, v.oneCell' = true) (g off n m N dLen dCap : Nat) (ad : Addr) (sLen sCap : Nat) (hd : a.eval d = .slice (some ⟨g, off, none⟩) dLen dCap) (hs : a.eval s = .slice (some ad) sLen sCap)
    (t : TypeId) (hf : Fill t pat w g n N) (hoff : off = n * pat.length) (hm : m = Nat.min sLen dLen) (hN : n + m ≤ N)
    (hsrc : ∀ j v, (fills pat m)[j]? = some v → w.cell? (ad.add j) = some v)
    (h : ∀ w', Fill t pat w' g (n + m) N → (∀ B w0, Below B w0 w → B ≤ g → Below B w0 w') → wpList P ops Q rest (a.put o.dst (goInt m)) w') : wpList P ops Q (o :: rest) a w := by
  refine wpList_plain hgd fun K hK => ?_
  obtain ⟨w', hrun, hf', hb'⟩ := fill_run (P := P) dT sT o.type elem hu pat hsz h1 g off n m N dLen dCap ad sLen sCap t hf hoff hm hN hsrc
  unfold Oper.wp
  simp [execOp, ho, resolve, invoke, builtin, hd, hs, hrun, Result.andThen]
  exact hK _ _ (h _ hf' hb')
theorem step_fill {P : Program} {ops : Array Oper} {o : Oper} {a : Act} {w : World} {K : Act → World → Prop} {Q : Exit → Act → World → Prop} {E : Prop} (hgd : o.guard = none) (d s : Operand) (dT sT : TypeId)
    (ho : o.op = .call { callee := .builtin .copy, args := #[d, s], argTypes := #[dT, sT] }) (elem : TypeId) (hu : P.underlying dT = some (.slice elem)) (pat : List Value) (hsz : (P.info? elem).map (·.size) = some pat.length)
    (h1 : ∀ v ∈ pat, v.oneCell' = true) (g off n m N dLen dCap : Nat) (ad : Addr) (sLen sCap : Nat) (hd : a.eval d = .slice (some ⟨g, off, none⟩) dLen dCap) (hs : a.eval s = .slice (some ad) sLen sCap)
    (t : TypeId) (hf : Fill t pat w g n N) (hoff : off = n * pat.length) (hm : m = Nat.min sLen dLen) (hN : n + m ≤ N)
    (hsrc : ∀ j v, (fills pat m)[j]? = some v → w.cell? (ad.add j) = some v)
    (h : ∀ w', Fill t pat w' g (n + m) N → (∀ B w0, Below B w0 w → B ≤ g → Below B w0 w') → K (a.put o.dst (goInt m)) w') :
    if Region.wanted o (yielded ops a.tmps) = true then Oper.wp P o a w K Q else E := by
  have hw : Region.wanted o (yielded ops a.tmps) = true := by simp [Region.wanted, hgd]
  rw [if_pos hw]
  obtain ⟨w', hrun, hf', hb'⟩ := fill_run (P := P) dT sT o.type elem hu pat hsz h1 g off n m N dLen dCap ad sLen sCap t hf hoff hm hN hsrc
  unfold Oper.wp
  simp [execOp, ho, resolve, invoke, builtin, hd, hs, hrun, Result.andThen]
  exact h _ hf' hb'
end Go.Proofs.Ytgecclccmmcdoaa
