/-
  No cell of these rows narrows 'for every input' (looked for: loops, veiled, ifaces, maps, wideKeys, modest, calm, conditions, laid).
  DERIVED. THE GIVEN ROWS OF THIS SEAT. 10 by the template 'for every input the law returns true; each argument reads behind the call as it read before'; 0 by the template 'total and deterministic' (their statements: YtjccnmnhgahlfaaTotals.lean).
  GIVEN WITH THE SEED: the statements are not yours to turn. If you find one false, say at which input.
  Laid BY PROGRAM, IN A SANDBOX (cutbox-rows.mjs): the forced cells as the released guide's own fill.sh prints them over the translation e2bb46cc062908e1… (all of the seat's roots in one cut). By AI agents, Wed Nov 11 2026. No macro, syntax, notation, axiom, sorry.
-/
import Derived.Test.YtjccnmnhgahlfaaChecked
import GoSem.Claim
import GoSem.ClaimJoined
import GoSem.ClaimMapViews
import Derived.JoinedTies
import Derived.KernelRfl
namespace Go.Proofs.Ytjccnmnhgahlfaa
/- THE CELL 'sum', in the pinned program and in every row, IS THE sha256 OF THE DUMP (.gsa) THAT YtjccnmnhgahlfaaProg.lean LOADS. Nothing in Lean hashes anything: it is a label: what it is worth is what the hold of that sum in a sandbox is worth. -/
noncomputable def Try.pinned : Pinned := { name := "ytjccnmnhgahlfaa", sum := "e2bb46cc062908e1b5fff28f1e8ab70f4bd7e7b5e9284a08049d4d96a358cd9a", checked := Try.checked }
namespace Rows
def none {H : Type} : Left H := { results := [], args := [] }

/-- 'laws.FnLineParts': WHATEVER THE INPUT: true; the input reads as it did. -/
def fnLinePartsSpec : ChangeSpec := { name := "fnLineParts", fn := fun _ => fun
  | [d] => { results := [.lit (.bool true)], args := [d] }
  | _ => none }
def fnLinePartsRow : OpenClaim := { program := "ytjccnmnhgahlfaa", sum := "e2bb46cc062908e1b5fff28f1e8ab70f4bd7e7b5e9284a08049d4d96a358cd9a", func := "loop.example/g03326/laws.FnLineParts", spec := "fnLineParts", unfollowed := true, recurses := true, apart := false }
def FnLinePartsSaid : Prop := fnLinePartsRow.holds Try.pinned (OpenSpec.ofChange fnLinePartsSpec)

/-- ITS FALSE NEIGHBOUR: 'it returns false'. Refute it at one input. -/
def fnLinePartsWrong : ChangeSpec := { name := "fnLineParts", fn := fun _ => fun
  | [d] => { results := [.lit (.bool false)], args := [d] }
  | _ => none }
def FnLinePartsWrongFalsely : Prop := fnLinePartsRow.holds Try.pinned (OpenSpec.ofChange fnLinePartsWrong)

/-- 'laws.FnBurstsSwing': WHATEVER THE INPUT: true; the input reads as it did. -/
def fnBurstsSwingSpec : ChangeSpec := { name := "fnBurstsSwing", fn := fun _ => fun
  | [d] => { results := [.lit (.bool true)], args := [d] }
  | _ => none }
def fnBurstsSwingRow : OpenClaim := { program := "ytjccnmnhgahlfaa", sum := "e2bb46cc062908e1b5fff28f1e8ab70f4bd7e7b5e9284a08049d4d96a358cd9a", func := "loop.example/g03326/laws.FnBurstsSwing", spec := "fnBurstsSwing", unfollowed := true, recurses := true, apart := false }
def FnBurstsSwingSaid : Prop := fnBurstsSwingRow.holds Try.pinned (OpenSpec.ofChange fnBurstsSwingSpec)

/-- ITS FALSE NEIGHBOUR: 'it returns false'. Refute it at one input. -/
def fnBurstsSwingWrong : ChangeSpec := { name := "fnBurstsSwing", fn := fun _ => fun
  | [d] => { results := [.lit (.bool false)], args := [d] }
  | _ => none }
def FnBurstsSwingWrongFalsely : Prop := fnBurstsSwingRow.holds Try.pinned (OpenSpec.ofChange fnBurstsSwingWrong)

/-- 'laws.FnSwingTurned': WHATEVER THE INPUT: true; the input reads as it did. -/
def fnSwingTurnedSpec : ChangeSpec := { name := "fnSwingTurned", fn := fun _ => fun
  | [d] => { results := [.lit (.bool true)], args := [d] }
  | _ => none }
def fnSwingTurnedRow : OpenClaim := { program := "ytjccnmnhgahlfaa", sum := "e2bb46cc062908e1b5fff28f1e8ab70f4bd7e7b5e9284a08049d4d96a358cd9a", func := "loop.example/g03326/laws.FnSwingTurned", spec := "fnSwingTurned", unfollowed := true, recurses := true, apart := false }
def FnSwingTurnedSaid : Prop := fnSwingTurnedRow.holds Try.pinned (OpenSpec.ofChange fnSwingTurnedSpec)

/-- ITS FALSE NEIGHBOUR: 'it returns false'. Refute it at one input. -/
def fnSwingTurnedWrong : ChangeSpec := { name := "fnSwingTurned", fn := fun _ => fun
  | [d] => { results := [.lit (.bool false)], args := [d] }
  | _ => none }
def FnSwingTurnedWrongFalsely : Prop := fnSwingTurnedRow.holds Try.pinned (OpenSpec.ofChange fnSwingTurnedWrong)

/-- 'laws.FnExactLineOk': WHATEVER THE INPUT: true; the input reads as it did. -/
def fnExactLineOkSpec : ChangeSpec := { name := "fnExactLineOk", fn := fun _ => fun
  | [d] => { results := [.lit (.bool true)], args := [d] }
  | _ => none }
def fnExactLineOkRow : OpenClaim := { program := "ytjccnmnhgahlfaa", sum := "e2bb46cc062908e1b5fff28f1e8ab70f4bd7e7b5e9284a08049d4d96a358cd9a", func := "loop.example/g03326/laws.FnExactLineOk", spec := "fnExactLineOk", apart := false }
def FnExactLineOkSaid : Prop := fnExactLineOkRow.holds Try.pinned (OpenSpec.ofChange fnExactLineOkSpec)

/-- ITS FALSE NEIGHBOUR: 'it returns false'. Refute it at one input. -/
def fnExactLineOkWrong : ChangeSpec := { name := "fnExactLineOk", fn := fun _ => fun
  | [d] => { results := [.lit (.bool false)], args := [d] }
  | _ => none }
def FnExactLineOkWrongFalsely : Prop := fnExactLineOkRow.holds Try.pinned (OpenSpec.ofChange fnExactLineOkWrong)

/-- 'laws.FnExactPulseOf': WHATEVER THE INPUT: true; the input reads as it did. -/
def fnExactPulseOfSpec : ChangeSpec := { name := "fnExactPulseOf", fn := fun _ => fun
  | [d] => { results := [.lit (.bool true)], args := [d] }
  | _ => none }
def fnExactPulseOfRow : OpenClaim := { program := "ytjccnmnhgahlfaa", sum := "e2bb46cc062908e1b5fff28f1e8ab70f4bd7e7b5e9284a08049d4d96a358cd9a", func := "loop.example/g03326/laws.FnExactPulseOf", spec := "fnExactPulseOf", unfollowed := true, recurses := true, apart := false }
def FnExactPulseOfSaid : Prop := fnExactPulseOfRow.holds Try.pinned (OpenSpec.ofChange fnExactPulseOfSpec)

/-- ITS FALSE NEIGHBOUR: 'it returns false'. Refute it at one input. -/
def fnExactPulseOfWrong : ChangeSpec := { name := "fnExactPulseOf", fn := fun _ => fun
  | [d] => { results := [.lit (.bool false)], args := [d] }
  | _ => none }
def FnExactPulseOfWrongFalsely : Prop := fnExactPulseOfRow.holds Try.pinned (OpenSpec.ofChange fnExactPulseOfWrong)

/-- 'laws.FnExactBurstOf': WHATEVER THE INPUT: true; the input reads as it did. -/
def fnExactBurstOfSpec : ChangeSpec := { name := "fnExactBurstOf", fn := fun _ => fun
  | [d] => { results := [.lit (.bool true)], args := [d] }
  | _ => none }
def fnExactBurstOfRow : OpenClaim := { program := "ytjccnmnhgahlfaa", sum := "e2bb46cc062908e1b5fff28f1e8ab70f4bd7e7b5e9284a08049d4d96a358cd9a", func := "loop.example/g03326/laws.FnExactBurstOf", spec := "fnExactBurstOf", unfollowed := true, recurses := true, apart := false }
def FnExactBurstOfSaid : Prop := fnExactBurstOfRow.holds Try.pinned (OpenSpec.ofChange fnExactBurstOfSpec)

/-- ITS FALSE NEIGHBOUR: 'it returns false'. Refute it at one input. -/
def fnExactBurstOfWrong : ChangeSpec := { name := "fnExactBurstOf", fn := fun _ => fun
  | [d] => { results := [.lit (.bool false)], args := [d] }
  | _ => none }
def FnExactBurstOfWrongFalsely : Prop := fnExactBurstOfRow.holds Try.pinned (OpenSpec.ofChange fnExactBurstOfWrong)

/-- 'laws.FnExactCellsOf': WHATEVER THE INPUT: true; the input reads as it did. -/
def fnExactCellsOfSpec : ChangeSpec := { name := "fnExactCellsOf", fn := fun _ => fun
  | [d] => { results := [.lit (.bool true)], args := [d] }
  | _ => none }
def fnExactCellsOfRow : OpenClaim := { program := "ytjccnmnhgahlfaa", sum := "e2bb46cc062908e1b5fff28f1e8ab70f4bd7e7b5e9284a08049d4d96a358cd9a", func := "loop.example/g03326/laws.FnExactCellsOf", spec := "fnExactCellsOf", unfollowed := true, recurses := true, apart := false }
def FnExactCellsOfSaid : Prop := fnExactCellsOfRow.holds Try.pinned (OpenSpec.ofChange fnExactCellsOfSpec)

/-- ITS FALSE NEIGHBOUR: 'it returns false'. Refute it at one input. -/
def fnExactCellsOfWrong : ChangeSpec := { name := "fnExactCellsOf", fn := fun _ => fun
  | [d] => { results := [.lit (.bool false)], args := [d] }
  | _ => none }
def FnExactCellsOfWrongFalsely : Prop := fnExactCellsOfRow.holds Try.pinned (OpenSpec.ofChange fnExactCellsOfWrong)

/-- 'laws.FnExactBurstColour': WHATEVER THE INPUT: true; the input reads as it did. -/
def fnExactBurstColourSpec : ChangeSpec := { name := "fnExactBurstColour", fn := fun _ => fun
  | [d] => { results := [.lit (.bool true)], args := [d] }
  | _ => none }
def fnExactBurstColourRow : OpenClaim := { program := "ytjccnmnhgahlfaa", sum := "e2bb46cc062908e1b5fff28f1e8ab70f4bd7e7b5e9284a08049d4d96a358cd9a", func := "loop.example/g03326/laws.FnExactBurstColour", spec := "fnExactBurstColour", unfollowed := true, recurses := true, apart := false }
def FnExactBurstColourSaid : Prop := fnExactBurstColourRow.holds Try.pinned (OpenSpec.ofChange fnExactBurstColourSpec)

/-- ITS FALSE NEIGHBOUR: 'it returns false'. Refute it at one input. -/
def fnExactBurstColourWrong : ChangeSpec := { name := "fnExactBurstColour", fn := fun _ => fun
  | [d] => { results := [.lit (.bool false)], args := [d] }
  | _ => none }
def FnExactBurstColourWrongFalsely : Prop := fnExactBurstColourRow.holds Try.pinned (OpenSpec.ofChange fnExactBurstColourWrong)

/-- 'laws.FnExactSwing': WHATEVER THE INPUT: true; the input reads as it did. -/
def fnExactSwingSpec : ChangeSpec := { name := "fnExactSwing", fn := fun _ => fun
  | [d1, d2] => { results := [.lit (.bool true)], args := [d1, d2] }
  | _ => none }
def fnExactSwingRow : OpenClaim := { program := "ytjccnmnhgahlfaa", sum := "e2bb46cc062908e1b5fff28f1e8ab70f4bd7e7b5e9284a08049d4d96a358cd9a", func := "loop.example/g03326/laws.FnExactSwing", spec := "fnExactSwing", unfollowed := true, recurses := true, apart := false }
def FnExactSwingSaid : Prop := fnExactSwingRow.holds Try.pinned (OpenSpec.ofChange fnExactSwingSpec)

/-- ITS FALSE NEIGHBOUR: 'it returns false'. Refute it at one input. -/
def fnExactSwingWrong : ChangeSpec := { name := "fnExactSwing", fn := fun _ => fun
  | [d1, d2] => { results := [.lit (.bool false)], args := [d1, d2] }
  | _ => none }
def FnExactSwingWrongFalsely : Prop := fnExactSwingRow.holds Try.pinned (OpenSpec.ofChange fnExactSwingWrong)

/-- 'laws.FnExactHueGain': WHATEVER THE INPUT: true; the input reads as it did. -/
def fnExactHueGainSpec : ChangeSpec := { name := "fnExactHueGain", fn := fun _ => fun
  | [d1, d2] => { results := [.lit (.bool true)], args := [d1, d2] }
  | _ => none }
def fnExactHueGainRow : OpenClaim := { program := "ytjccnmnhgahlfaa", sum := "e2bb46cc062908e1b5fff28f1e8ab70f4bd7e7b5e9284a08049d4d96a358cd9a", func := "loop.example/g03326/laws.FnExactHueGain", spec := "fnExactHueGain", unfollowed := true, recurses := true, apart := false }
def FnExactHueGainSaid : Prop := fnExactHueGainRow.holds Try.pinned (OpenSpec.ofChange fnExactHueGainSpec)

/-- ITS FALSE NEIGHBOUR: 'it returns false'. Refute it at one input. -/
def fnExactHueGainWrong : ChangeSpec := { name := "fnExactHueGain", fn := fun _ => fun
  | [d1, d2] => { results := [.lit (.bool false)], args := [d1, d2] }
  | _ => none }
def FnExactHueGainWrongFalsely : Prop := fnExactHueGainRow.holds Try.pinned (OpenSpec.ofChange fnExactHueGainWrong)

/- THE SECOND FORM. 'bulk': how many values and letters a reading holds, each counted each time it is reached (what is shared counts as often as it is met; a slice's spare places count too). A statement '..UptoSaid' is the law's where the arguments, and the package variables that the reading takes, are together of bulk at most 1048576: NARROWER than '..Said'. Prove '..Said' where nothing that the law and all that it calls make is longer than what came in: it says more and counts as full. Else prove '..UptoSaid'. A law counts once. -/
mutual
def uptoBulk {H : Type} : DataW H → Nat
  | .lit (.string bytes) => bytes.length + 1
  | .lit _ => 1
  | .nil => 1
  | .ptr d => uptoBulk d + 1
  | .slice elems spare => uptoBulkAll elems + uptoBulkAll spare + 1
  | .agg parts => uptoBulkAll parts + 1
  | .iface _ d => uptoBulk d + 1
  | .map entries => uptoBulkEntries entries + 1
  | .held _ => 1
def uptoBulkAll {H : Type} : List (DataW H) → Nat
  | [] => 0
  | d :: r => uptoBulk d + uptoBulkAll r
def uptoBulkEntries {H : Type} : List (Lit × DataW H) → Nat
  | [] => 0
  | x :: r => uptoBulkEntry x + uptoBulkEntries r
def uptoBulkEntry {H : Type} : Lit × DataW H → Nat
  | (.string bytes, d) => bytes.length + uptoBulk d + 1
  | (_, d) => uptoBulk d + 1
 end
def uptoSmall : (H : Type) → List (DataW H) → Bool := fun _ ds => decide (uptoBulkAll ds ≤ 1048576)
def OpenSpec.upto (s : _root_.Go.ChangeSpec) : _root_.Go.OpenSpec := { _root_.Go.OpenSpec.ofChange s with cond := some uptoSmall }

/-- 'laws.FnLineParts', WHERE WHAT IT READS IS OF BULK AT MOST 1048576: true; the input reads as it did. -/
def fnLinePartsUptoRow : OpenClaim := { program := "ytjccnmnhgahlfaa", sum := "e2bb46cc062908e1b5fff28f1e8ab70f4bd7e7b5e9284a08049d4d96a358cd9a", func := "loop.example/g03326/laws.FnLineParts", spec := "fnLineParts", unfollowed := true, recurses := true, apart := false, narrowed := true }
def FnLinePartsUptoSaid : Prop := fnLinePartsUptoRow.holds Try.pinned (OpenSpec.upto fnLinePartsSpec)

/-- 'laws.FnBurstsSwing', WHERE WHAT IT READS IS OF BULK AT MOST 1048576: true; the input reads as it did. -/
def fnBurstsSwingUptoRow : OpenClaim := { program := "ytjccnmnhgahlfaa", sum := "e2bb46cc062908e1b5fff28f1e8ab70f4bd7e7b5e9284a08049d4d96a358cd9a", func := "loop.example/g03326/laws.FnBurstsSwing", spec := "fnBurstsSwing", unfollowed := true, recurses := true, apart := false, narrowed := true }
def FnBurstsSwingUptoSaid : Prop := fnBurstsSwingUptoRow.holds Try.pinned (OpenSpec.upto fnBurstsSwingSpec)

/-- 'laws.FnSwingTurned', WHERE WHAT IT READS IS OF BULK AT MOST 1048576: true; the input reads as it did. -/
def fnSwingTurnedUptoRow : OpenClaim := { program := "ytjccnmnhgahlfaa", sum := "e2bb46cc062908e1b5fff28f1e8ab70f4bd7e7b5e9284a08049d4d96a358cd9a", func := "loop.example/g03326/laws.FnSwingTurned", spec := "fnSwingTurned", unfollowed := true, recurses := true, apart := false, narrowed := true }
def FnSwingTurnedUptoSaid : Prop := fnSwingTurnedUptoRow.holds Try.pinned (OpenSpec.upto fnSwingTurnedSpec)

/-- 'laws.FnExactLineOk', WHERE WHAT IT READS IS OF BULK AT MOST 1048576: true; the input reads as it did. -/
def fnExactLineOkUptoRow : OpenClaim := { program := "ytjccnmnhgahlfaa", sum := "e2bb46cc062908e1b5fff28f1e8ab70f4bd7e7b5e9284a08049d4d96a358cd9a", func := "loop.example/g03326/laws.FnExactLineOk", spec := "fnExactLineOk", apart := false, narrowed := true }
def FnExactLineOkUptoSaid : Prop := fnExactLineOkUptoRow.holds Try.pinned (OpenSpec.upto fnExactLineOkSpec)

/-- 'laws.FnExactPulseOf', WHERE WHAT IT READS IS OF BULK AT MOST 1048576: true; the input reads as it did. -/
def fnExactPulseOfUptoRow : OpenClaim := { program := "ytjccnmnhgahlfaa", sum := "e2bb46cc062908e1b5fff28f1e8ab70f4bd7e7b5e9284a08049d4d96a358cd9a", func := "loop.example/g03326/laws.FnExactPulseOf", spec := "fnExactPulseOf", unfollowed := true, recurses := true, apart := false, narrowed := true }
def FnExactPulseOfUptoSaid : Prop := fnExactPulseOfUptoRow.holds Try.pinned (OpenSpec.upto fnExactPulseOfSpec)

/-- 'laws.FnExactBurstOf', WHERE WHAT IT READS IS OF BULK AT MOST 1048576: true; the input reads as it did. -/
def fnExactBurstOfUptoRow : OpenClaim := { program := "ytjccnmnhgahlfaa", sum := "e2bb46cc062908e1b5fff28f1e8ab70f4bd7e7b5e9284a08049d4d96a358cd9a", func := "loop.example/g03326/laws.FnExactBurstOf", spec := "fnExactBurstOf", unfollowed := true, recurses := true, apart := false, narrowed := true }
def FnExactBurstOfUptoSaid : Prop := fnExactBurstOfUptoRow.holds Try.pinned (OpenSpec.upto fnExactBurstOfSpec)

/-- 'laws.FnExactCellsOf', WHERE WHAT IT READS IS OF BULK AT MOST 1048576: true; the input reads as it did. -/
def fnExactCellsOfUptoRow : OpenClaim := { program := "ytjccnmnhgahlfaa", sum := "e2bb46cc062908e1b5fff28f1e8ab70f4bd7e7b5e9284a08049d4d96a358cd9a", func := "loop.example/g03326/laws.FnExactCellsOf", spec := "fnExactCellsOf", unfollowed := true, recurses := true, apart := false, narrowed := true }
def FnExactCellsOfUptoSaid : Prop := fnExactCellsOfUptoRow.holds Try.pinned (OpenSpec.upto fnExactCellsOfSpec)

/-- 'laws.FnExactBurstColour', WHERE WHAT IT READS IS OF BULK AT MOST 1048576: true; the input reads as it did. -/
def fnExactBurstColourUptoRow : OpenClaim := { program := "ytjccnmnhgahlfaa", sum := "e2bb46cc062908e1b5fff28f1e8ab70f4bd7e7b5e9284a08049d4d96a358cd9a", func := "loop.example/g03326/laws.FnExactBurstColour", spec := "fnExactBurstColour", unfollowed := true, recurses := true, apart := false, narrowed := true }
def FnExactBurstColourUptoSaid : Prop := fnExactBurstColourUptoRow.holds Try.pinned (OpenSpec.upto fnExactBurstColourSpec)

/-- 'laws.FnExactSwing', WHERE WHAT IT READS IS OF BULK AT MOST 1048576: true; the input reads as it did. -/
def fnExactSwingUptoRow : OpenClaim := { program := "ytjccnmnhgahlfaa", sum := "e2bb46cc062908e1b5fff28f1e8ab70f4bd7e7b5e9284a08049d4d96a358cd9a", func := "loop.example/g03326/laws.FnExactSwing", spec := "fnExactSwing", unfollowed := true, recurses := true, apart := false, narrowed := true }
def FnExactSwingUptoSaid : Prop := fnExactSwingUptoRow.holds Try.pinned (OpenSpec.upto fnExactSwingSpec)

/-- 'laws.FnExactHueGain', WHERE WHAT IT READS IS OF BULK AT MOST 1048576: true; the input reads as it did. -/
def fnExactHueGainUptoRow : OpenClaim := { program := "ytjccnmnhgahlfaa", sum := "e2bb46cc062908e1b5fff28f1e8ab70f4bd7e7b5e9284a08049d4d96a358cd9a", func := "loop.example/g03326/laws.FnExactHueGain", spec := "fnExactHueGain", unfollowed := true, recurses := true, apart := false, narrowed := true }
def FnExactHueGainUptoSaid : Prop := fnExactHueGainUptoRow.holds Try.pinned (OpenSpec.upto fnExactHueGainSpec)

end Rows
end Go.Proofs.Ytjccnmnhgahlfaa
