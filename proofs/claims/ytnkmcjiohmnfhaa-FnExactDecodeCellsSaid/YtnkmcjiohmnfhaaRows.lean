/-
  No cell of these rows narrows 'for every input' (looked for: loops, veiled, ifaces, maps, wideKeys, modest, calm, conditions, laid).
  DERIVED. THE GIVEN ROWS OF THIS SEAT. 11 by the template 'for every input the law returns true; each argument reads behind the call as it read before'; 0 by the template 'total and deterministic' (their statements: YtnkmcjiohmnfhaaTotals.lean).
  GIVEN WITH THE SEED: the statements are not yours to turn. If you find one false, say at which input.
  Laid BY PROGRAM, IN A SANDBOX (cutbox-rows.mjs): the forced cells as the released guide's own fill.sh prints them over the translation b4dfe52f2731b6c3… (all of the seat's roots in one cut). By AI agents, Wed Nov 11 2026. No macro, syntax, notation, axiom, sorry.
-/
import Derived.Test.YtnkmcjiohmnfhaaChecked
import GoSem.Claim
import GoSem.ClaimJoined
import GoSem.ClaimMapViews
import Derived.JoinedTies
import Derived.KernelRfl
namespace Go.Proofs.Ytnkmcjiohmnfhaa
/- THE CELL 'sum', in the pinned program and in every row, IS THE sha256 OF THE DUMP (.gsa) THAT YtnkmcjiohmnfhaaProg.lean LOADS. Nothing in Lean hashes anything: it is a label: what it is worth is what the hold of that sum in a sandbox is worth. -/
noncomputable def Try.pinned : Pinned := { name := "ytnkmcjiohmnfhaa", sum := "b4dfe52f2731b6c3d5db446ae7a4c8ce3ae88f6b53fd0517f08548896c97c5ed", checked := Try.checked }
namespace Rows
def none {H : Type} : Left H := { results := [], args := [] }

/-- 'laws.FnTakenApart': WHATEVER THE INPUT: true; the input reads as it did. -/
def fnTakenApartSpec : ChangeSpec := { name := "fnTakenApart", fn := fun _ => fun
  | [d] => { results := [.lit (.bool true)], args := [d] }
  | _ => none }
def fnTakenApartRow : OpenClaim := { program := "ytnkmcjiohmnfhaa", sum := "b4dfe52f2731b6c3d5db446ae7a4c8ce3ae88f6b53fd0517f08548896c97c5ed", func := "loop.example/g03326/laws.FnTakenApart", spec := "fnTakenApart", unfollowed := true, recurses := true, apart := false }
def FnTakenApartSaid : Prop := fnTakenApartRow.holds Try.pinned (OpenSpec.ofChange fnTakenApartSpec)

/-- ITS FALSE NEIGHBOUR: 'it returns false'. Refute it at one input. -/
def fnTakenApartWrong : ChangeSpec := { name := "fnTakenApart", fn := fun _ => fun
  | [d] => { results := [.lit (.bool false)], args := [d] }
  | _ => none }
def FnTakenApartWrongFalsely : Prop := fnTakenApartRow.holds Try.pinned (OpenSpec.ofChange fnTakenApartWrong)

/-- 'laws.FnOddConjugate': WHATEVER THE INPUT: true; the input reads as it did. -/
def fnOddConjugateSpec : ChangeSpec := { name := "fnOddConjugate", fn := fun _ => fun
  | [d] => { results := [.lit (.bool true)], args := [d] }
  | _ => none }
def fnOddConjugateRow : OpenClaim := { program := "ytnkmcjiohmnfhaa", sum := "b4dfe52f2731b6c3d5db446ae7a4c8ce3ae88f6b53fd0517f08548896c97c5ed", func := "loop.example/g03326/laws.FnOddConjugate", spec := "fnOddConjugate", unfollowed := true, recurses := true, apart := false }
def FnOddConjugateSaid : Prop := fnOddConjugateRow.holds Try.pinned (OpenSpec.ofChange fnOddConjugateSpec)

/-- ITS FALSE NEIGHBOUR: 'it returns false'. Refute it at one input. -/
def fnOddConjugateWrong : ChangeSpec := { name := "fnOddConjugate", fn := fun _ => fun
  | [d] => { results := [.lit (.bool false)], args := [d] }
  | _ => none }
def FnOddConjugateWrongFalsely : Prop := fnOddConjugateRow.holds Try.pinned (OpenSpec.ofChange fnOddConjugateWrong)

/-- 'laws.FnTwoParts': WHATEVER THE INPUT: true; the input reads as it did. -/
def fnTwoPartsSpec : ChangeSpec := { name := "fnTwoParts", fn := fun _ => fun
  | [d] => { results := [.lit (.bool true)], args := [d] }
  | _ => none }
def fnTwoPartsRow : OpenClaim := { program := "ytnkmcjiohmnfhaa", sum := "b4dfe52f2731b6c3d5db446ae7a4c8ce3ae88f6b53fd0517f08548896c97c5ed", func := "loop.example/g03326/laws.FnTwoParts", spec := "fnTwoParts", unfollowed := true, recurses := true, apart := false }
def FnTwoPartsSaid : Prop := fnTwoPartsRow.holds Try.pinned (OpenSpec.ofChange fnTwoPartsSpec)

/-- ITS FALSE NEIGHBOUR: 'it returns false'. Refute it at one input. -/
def fnTwoPartsWrong : ChangeSpec := { name := "fnTwoParts", fn := fun _ => fun
  | [d] => { results := [.lit (.bool false)], args := [d] }
  | _ => none }
def FnTwoPartsWrongFalsely : Prop := fnTwoPartsRow.holds Try.pinned (OpenSpec.ofChange fnTwoPartsWrong)

/-- 'laws.FnCarrierTurns': WHATEVER THE INPUT: true; the input reads as it did. -/
def fnCarrierTurnsSpec : ChangeSpec := { name := "fnCarrierTurns", fn := fun _ => fun
  | [d] => { results := [.lit (.bool true)], args := [d] }
  | _ => none }
def fnCarrierTurnsRow : OpenClaim := { program := "ytnkmcjiohmnfhaa", sum := "b4dfe52f2731b6c3d5db446ae7a4c8ce3ae88f6b53fd0517f08548896c97c5ed", func := "loop.example/g03326/laws.FnCarrierTurns", spec := "fnCarrierTurns", apart := false }
def FnCarrierTurnsSaid : Prop := fnCarrierTurnsRow.holds Try.pinned (OpenSpec.ofChange fnCarrierTurnsSpec)

/-- ITS FALSE NEIGHBOUR: 'it returns false'. Refute it at one input. -/
def fnCarrierTurnsWrong : ChangeSpec := { name := "fnCarrierTurns", fn := fun _ => fun
  | [d] => { results := [.lit (.bool false)], args := [d] }
  | _ => none }
def FnCarrierTurnsWrongFalsely : Prop := fnCarrierTurnsRow.holds Try.pinned (OpenSpec.ofChange fnCarrierTurnsWrong)

/-- 'laws.FnDelayed': WHATEVER THE INPUT: true; the input reads as it did. -/
def fnDelayedSpec : ChangeSpec := { name := "fnDelayed", fn := fun _ => fun
  | [d] => { results := [.lit (.bool true)], args := [d] }
  | _ => none }
def fnDelayedRow : OpenClaim := { program := "ytnkmcjiohmnfhaa", sum := "b4dfe52f2731b6c3d5db446ae7a4c8ce3ae88f6b53fd0517f08548896c97c5ed", func := "loop.example/g03326/laws.FnDelayed", spec := "fnDelayed", apart := false }
def FnDelayedSaid : Prop := fnDelayedRow.holds Try.pinned (OpenSpec.ofChange fnDelayedSpec)

/-- ITS FALSE NEIGHBOUR: 'it returns false'. Refute it at one input. -/
def fnDelayedWrong : ChangeSpec := { name := "fnDelayed", fn := fun _ => fun
  | [d] => { results := [.lit (.bool false)], args := [d] }
  | _ => none }
def FnDelayedWrongFalsely : Prop := fnDelayedRow.holds Try.pinned (OpenSpec.ofChange fnDelayedWrong)

/-- 'laws.FnExactCarrier': WHATEVER THE INPUT: true; the input reads as it did. -/
def fnExactCarrierSpec : ChangeSpec := { name := "fnExactCarrier", fn := fun _ => fun
  | [d] => { results := [.lit (.bool true)], args := [d] }
  | _ => none }
def fnExactCarrierRow : OpenClaim := { program := "ytnkmcjiohmnfhaa", sum := "b4dfe52f2731b6c3d5db446ae7a4c8ce3ae88f6b53fd0517f08548896c97c5ed", func := "loop.example/g03326/laws.FnExactCarrier", spec := "fnExactCarrier", apart := false }
def FnExactCarrierSaid : Prop := fnExactCarrierRow.holds Try.pinned (OpenSpec.ofChange fnExactCarrierSpec)

/-- ITS FALSE NEIGHBOUR: 'it returns false'. Refute it at one input. -/
def fnExactCarrierWrong : ChangeSpec := { name := "fnExactCarrier", fn := fun _ => fun
  | [d] => { results := [.lit (.bool false)], args := [d] }
  | _ => none }
def FnExactCarrierWrongFalsely : Prop := fnExactCarrierRow.holds Try.pinned (OpenSpec.ofChange fnExactCarrierWrong)

/-- 'laws.FnExactDecodeCells': WHATEVER THE INPUT: true; the input reads as it did. -/
def fnExactDecodeCellsSpec : ChangeSpec := { name := "fnExactDecodeCells", fn := fun _ => fun
  | [d1, d2] => { results := [.lit (.bool true)], args := [d1, d2] }
  | _ => none }
def fnExactDecodeCellsRow : OpenClaim := { program := "ytnkmcjiohmnfhaa", sum := "b4dfe52f2731b6c3d5db446ae7a4c8ce3ae88f6b53fd0517f08548896c97c5ed", func := "loop.example/g03326/laws.FnExactDecodeCells", spec := "fnExactDecodeCells", unfollowed := true, recurses := true, apart := false }
def FnExactDecodeCellsSaid : Prop := fnExactDecodeCellsRow.holds Try.pinned (OpenSpec.ofChange fnExactDecodeCellsSpec)

/-- ITS FALSE NEIGHBOUR: 'it returns false'. Refute it at one input. -/
def fnExactDecodeCellsWrong : ChangeSpec := { name := "fnExactDecodeCells", fn := fun _ => fun
  | [d1, d2] => { results := [.lit (.bool false)], args := [d1, d2] }
  | _ => none }
def FnExactDecodeCellsWrongFalsely : Prop := fnExactDecodeCellsRow.holds Try.pinned (OpenSpec.ofChange fnExactDecodeCellsWrong)

/-- 'laws.FnExactBrightness': WHATEVER THE INPUT: true; the input reads as it did. -/
def fnExactBrightnessSpec : ChangeSpec := { name := "fnExactBrightness", fn := fun _ => fun
  | [d] => { results := [.lit (.bool true)], args := [d] }
  | _ => none }
def fnExactBrightnessRow : OpenClaim := { program := "ytnkmcjiohmnfhaa", sum := "b4dfe52f2731b6c3d5db446ae7a4c8ce3ae88f6b53fd0517f08548896c97c5ed", func := "loop.example/g03326/laws.FnExactBrightness", spec := "fnExactBrightness", unfollowed := true, recurses := true, apart := false }
def FnExactBrightnessSaid : Prop := fnExactBrightnessRow.holds Try.pinned (OpenSpec.ofChange fnExactBrightnessSpec)

/-- ITS FALSE NEIGHBOUR: 'it returns false'. Refute it at one input. -/
def fnExactBrightnessWrong : ChangeSpec := { name := "fnExactBrightness", fn := fun _ => fun
  | [d] => { results := [.lit (.bool false)], args := [d] }
  | _ => none }
def FnExactBrightnessWrongFalsely : Prop := fnExactBrightnessRow.holds Try.pinned (OpenSpec.ofChange fnExactBrightnessWrong)

/-- 'laws.FnExactColouring': WHATEVER THE INPUT: true; the input reads as it did. -/
def fnExactColouringSpec : ChangeSpec := { name := "fnExactColouring", fn := fun _ => fun
  | [d] => { results := [.lit (.bool true)], args := [d] }
  | _ => none }
def fnExactColouringRow : OpenClaim := { program := "ytnkmcjiohmnfhaa", sum := "b4dfe52f2731b6c3d5db446ae7a4c8ce3ae88f6b53fd0517f08548896c97c5ed", func := "loop.example/g03326/laws.FnExactColouring", spec := "fnExactColouring", unfollowed := true, recurses := true, apart := false }
def FnExactColouringSaid : Prop := fnExactColouringRow.holds Try.pinned (OpenSpec.ofChange fnExactColouringSpec)

/-- ITS FALSE NEIGHBOUR: 'it returns false'. Refute it at one input. -/
def fnExactColouringWrong : ChangeSpec := { name := "fnExactColouring", fn := fun _ => fun
  | [d] => { results := [.lit (.bool false)], args := [d] }
  | _ => none }
def FnExactColouringWrongFalsely : Prop := fnExactColouringRow.holds Try.pinned (OpenSpec.ofChange fnExactColouringWrong)

/-- 'laws.FnExactAddSamples': WHATEVER THE INPUT: true; the input reads as it did. -/
def fnExactAddSamplesSpec : ChangeSpec := { name := "fnExactAddSamples", fn := fun _ => fun
  | [d1, d2] => { results := [.lit (.bool true)], args := [d1, d2] }
  | _ => none }
def fnExactAddSamplesRow : OpenClaim := { program := "ytnkmcjiohmnfhaa", sum := "b4dfe52f2731b6c3d5db446ae7a4c8ce3ae88f6b53fd0517f08548896c97c5ed", func := "loop.example/g03326/laws.FnExactAddSamples", spec := "fnExactAddSamples", unfollowed := true, recurses := true, apart := false }
def FnExactAddSamplesSaid : Prop := fnExactAddSamplesRow.holds Try.pinned (OpenSpec.ofChange fnExactAddSamplesSpec)

/-- ITS FALSE NEIGHBOUR: 'it returns false'. Refute it at one input. -/
def fnExactAddSamplesWrong : ChangeSpec := { name := "fnExactAddSamples", fn := fun _ => fun
  | [d1, d2] => { results := [.lit (.bool false)], args := [d1, d2] }
  | _ => none }
def FnExactAddSamplesWrongFalsely : Prop := fnExactAddSamplesRow.holds Try.pinned (OpenSpec.ofChange fnExactAddSamplesWrong)

/-- 'laws.FnExactDelay': WHATEVER THE INPUT: true; the input reads as it did. -/
def fnExactDelaySpec : ChangeSpec := { name := "fnExactDelay", fn := fun _ => fun
  | [d1, d2] => { results := [.lit (.bool true)], args := [d1, d2] }
  | _ => none }
def fnExactDelayRow : OpenClaim := { program := "ytnkmcjiohmnfhaa", sum := "b4dfe52f2731b6c3d5db446ae7a4c8ce3ae88f6b53fd0517f08548896c97c5ed", func := "loop.example/g03326/laws.FnExactDelay", spec := "fnExactDelay", apart := false }
def FnExactDelaySaid : Prop := fnExactDelayRow.holds Try.pinned (OpenSpec.ofChange fnExactDelaySpec)

/-- ITS FALSE NEIGHBOUR: 'it returns false'. Refute it at one input. -/
def fnExactDelayWrong : ChangeSpec := { name := "fnExactDelay", fn := fun _ => fun
  | [d1, d2] => { results := [.lit (.bool false)], args := [d1, d2] }
  | _ => none }
def FnExactDelayWrongFalsely : Prop := fnExactDelayRow.holds Try.pinned (OpenSpec.ofChange fnExactDelayWrong)

/- THE SECOND FORM. 'bulk': how many values and letters a reading holds, each counted each time it is reached (what is shared counts as often as it is met; a slice's spare places count too). A statement '..UptoSaid' is the law's where the arguments, and the package variables that the reading takes, are together of bulk at most 1048576: NARROWER than '..Said'. Prove '..Said' where nothing that the law and all that it calls make is longer than what came in: it says more and counts as full. Else prove '..UptoSaid'. A law counts once. -/
mutual
def uptoBulk {H : Type} : DataW H → Nat
  | .lit (.string bytes) => bytes.length + 1
  | .lit _ => 1
  | .nil => 1
  | .ptr d => uptoBulk d + 1
  | .slice elems spare => uptoBulkAll elems + uptoBulkAll spare + 1
  | .agg parts => uptoBulkAll parts + 1
  | .iface _ d => uptoBulk d + 1
  | .map entries => uptoBulkEntries entries + 1
  | .held _ => 1
def uptoBulkAll {H : Type} : List (DataW H) → Nat
  | [] => 0
  | d :: r => uptoBulk d + uptoBulkAll r
def uptoBulkEntries {H : Type} : List (Lit × DataW H) → Nat
  | [] => 0
  | x :: r => uptoBulkEntry x + uptoBulkEntries r
def uptoBulkEntry {H : Type} : Lit × DataW H → Nat
  | (.string bytes, d) => bytes.length + uptoBulk d + 1
  | (_, d) => uptoBulk d + 1
 end
def uptoSmall : (H : Type) → List (DataW H) → Bool := fun _ ds => decide (uptoBulkAll ds ≤ 1048576)
def OpenSpec.upto (s : _root_.Go.ChangeSpec) : _root_.Go.OpenSpec := { _root_.Go.OpenSpec.ofChange s with cond := some uptoSmall }

/-- 'laws.FnTakenApart', WHERE WHAT IT READS IS OF BULK AT MOST 1048576: true; the input reads as it did. -/
def fnTakenApartUptoRow : OpenClaim := { program := "ytnkmcjiohmnfhaa", sum := "b4dfe52f2731b6c3d5db446ae7a4c8ce3ae88f6b53fd0517f08548896c97c5ed", func := "loop.example/g03326/laws.FnTakenApart", spec := "fnTakenApart", unfollowed := true, recurses := true, apart := false, narrowed := true }
def FnTakenApartUptoSaid : Prop := fnTakenApartUptoRow.holds Try.pinned (OpenSpec.upto fnTakenApartSpec)

/-- 'laws.FnOddConjugate', WHERE WHAT IT READS IS OF BULK AT MOST 1048576: true; the input reads as it did. -/
def fnOddConjugateUptoRow : OpenClaim := { program := "ytnkmcjiohmnfhaa", sum := "b4dfe52f2731b6c3d5db446ae7a4c8ce3ae88f6b53fd0517f08548896c97c5ed", func := "loop.example/g03326/laws.FnOddConjugate", spec := "fnOddConjugate", unfollowed := true, recurses := true, apart := false, narrowed := true }
def FnOddConjugateUptoSaid : Prop := fnOddConjugateUptoRow.holds Try.pinned (OpenSpec.upto fnOddConjugateSpec)

/-- 'laws.FnTwoParts', WHERE WHAT IT READS IS OF BULK AT MOST 1048576: true; the input reads as it did. -/
def fnTwoPartsUptoRow : OpenClaim := { program := "ytnkmcjiohmnfhaa", sum := "b4dfe52f2731b6c3d5db446ae7a4c8ce3ae88f6b53fd0517f08548896c97c5ed", func := "loop.example/g03326/laws.FnTwoParts", spec := "fnTwoParts", unfollowed := true, recurses := true, apart := false, narrowed := true }
def FnTwoPartsUptoSaid : Prop := fnTwoPartsUptoRow.holds Try.pinned (OpenSpec.upto fnTwoPartsSpec)

/-- 'laws.FnCarrierTurns', WHERE WHAT IT READS IS OF BULK AT MOST 1048576: true; the input reads as it did. -/
def fnCarrierTurnsUptoRow : OpenClaim := { program := "ytnkmcjiohmnfhaa", sum := "b4dfe52f2731b6c3d5db446ae7a4c8ce3ae88f6b53fd0517f08548896c97c5ed", func := "loop.example/g03326/laws.FnCarrierTurns", spec := "fnCarrierTurns", apart := false, narrowed := true }
def FnCarrierTurnsUptoSaid : Prop := fnCarrierTurnsUptoRow.holds Try.pinned (OpenSpec.upto fnCarrierTurnsSpec)

/-- 'laws.FnDelayed', WHERE WHAT IT READS IS OF BULK AT MOST 1048576: true; the input reads as it did. -/
def fnDelayedUptoRow : OpenClaim := { program := "ytnkmcjiohmnfhaa", sum := "b4dfe52f2731b6c3d5db446ae7a4c8ce3ae88f6b53fd0517f08548896c97c5ed", func := "loop.example/g03326/laws.FnDelayed", spec := "fnDelayed", apart := false, narrowed := true }
def FnDelayedUptoSaid : Prop := fnDelayedUptoRow.holds Try.pinned (OpenSpec.upto fnDelayedSpec)

/-- 'laws.FnExactCarrier', WHERE WHAT IT READS IS OF BULK AT MOST 1048576: true; the input reads as it did. -/
def fnExactCarrierUptoRow : OpenClaim := { program := "ytnkmcjiohmnfhaa", sum := "b4dfe52f2731b6c3d5db446ae7a4c8ce3ae88f6b53fd0517f08548896c97c5ed", func := "loop.example/g03326/laws.FnExactCarrier", spec := "fnExactCarrier", apart := false, narrowed := true }
def FnExactCarrierUptoSaid : Prop := fnExactCarrierUptoRow.holds Try.pinned (OpenSpec.upto fnExactCarrierSpec)

/-- 'laws.FnExactDecodeCells', WHERE WHAT IT READS IS OF BULK AT MOST 1048576: true; the input reads as it did. -/
def fnExactDecodeCellsUptoRow : OpenClaim := { program := "ytnkmcjiohmnfhaa", sum := "b4dfe52f2731b6c3d5db446ae7a4c8ce3ae88f6b53fd0517f08548896c97c5ed", func := "loop.example/g03326/laws.FnExactDecodeCells", spec := "fnExactDecodeCells", unfollowed := true, recurses := true, apart := false, narrowed := true }
def FnExactDecodeCellsUptoSaid : Prop := fnExactDecodeCellsUptoRow.holds Try.pinned (OpenSpec.upto fnExactDecodeCellsSpec)

/-- 'laws.FnExactBrightness', WHERE WHAT IT READS IS OF BULK AT MOST 1048576: true; the input reads as it did. -/
def fnExactBrightnessUptoRow : OpenClaim := { program := "ytnkmcjiohmnfhaa", sum := "b4dfe52f2731b6c3d5db446ae7a4c8ce3ae88f6b53fd0517f08548896c97c5ed", func := "loop.example/g03326/laws.FnExactBrightness", spec := "fnExactBrightness", unfollowed := true, recurses := true, apart := false, narrowed := true }
def FnExactBrightnessUptoSaid : Prop := fnExactBrightnessUptoRow.holds Try.pinned (OpenSpec.upto fnExactBrightnessSpec)

/-- 'laws.FnExactColouring', WHERE WHAT IT READS IS OF BULK AT MOST 1048576: true; the input reads as it did. -/
def fnExactColouringUptoRow : OpenClaim := { program := "ytnkmcjiohmnfhaa", sum := "b4dfe52f2731b6c3d5db446ae7a4c8ce3ae88f6b53fd0517f08548896c97c5ed", func := "loop.example/g03326/laws.FnExactColouring", spec := "fnExactColouring", unfollowed := true, recurses := true, apart := false, narrowed := true }
def FnExactColouringUptoSaid : Prop := fnExactColouringUptoRow.holds Try.pinned (OpenSpec.upto fnExactColouringSpec)

/-- 'laws.FnExactAddSamples', WHERE WHAT IT READS IS OF BULK AT MOST 1048576: true; the input reads as it did. -/
def fnExactAddSamplesUptoRow : OpenClaim := { program := "ytnkmcjiohmnfhaa", sum := "b4dfe52f2731b6c3d5db446ae7a4c8ce3ae88f6b53fd0517f08548896c97c5ed", func := "loop.example/g03326/laws.FnExactAddSamples", spec := "fnExactAddSamples", unfollowed := true, recurses := true, apart := false, narrowed := true }
def FnExactAddSamplesUptoSaid : Prop := fnExactAddSamplesUptoRow.holds Try.pinned (OpenSpec.upto fnExactAddSamplesSpec)

/-- 'laws.FnExactDelay', WHERE WHAT IT READS IS OF BULK AT MOST 1048576: true; the input reads as it did. -/
def fnExactDelayUptoRow : OpenClaim := { program := "ytnkmcjiohmnfhaa", sum := "b4dfe52f2731b6c3d5db446ae7a4c8ce3ae88f6b53fd0517f08548896c97c5ed", func := "loop.example/g03326/laws.FnExactDelay", spec := "fnExactDelay", apart := false, narrowed := true }
def FnExactDelayUptoSaid : Prop := fnExactDelayUptoRow.holds Try.pinned (OpenSpec.upto fnExactDelaySpec)

end Rows
end Go.Proofs.Ytnkmcjiohmnfhaa
