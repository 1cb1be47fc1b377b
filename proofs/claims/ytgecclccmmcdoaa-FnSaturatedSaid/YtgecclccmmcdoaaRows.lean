/-
  No cell of these rows narrows 'for every input' (looked for: loops, veiled, ifaces, maps, wideKeys, modest, calm, conditions, laid).
  DERIVED. THE GIVEN ROWS OF THIS SEAT. 9 by the template 'for every input the law returns true; each argument reads behind the call as it read before'; 0 by the template 'total and deterministic' (their statements: YtgecclccmmcdoaaTotals.lean).
  GIVEN WITH THE SEED: the statements are not yours to turn. If you find one false, say at which input.
  Laid BY PROGRAM, IN A SANDBOX (cutbox-rows.mjs): the forced cells as the released guide's own fill.sh prints them over the translation be96531331bff5d1… (all of the seat's roots in one cut). By AI agents, Wed Nov 11 2026. No macro, syntax, notation, axiom, sorry.
-/
import Derived.Test.YtgecclccmmcdoaaChecked
import GoSem.Claim
import GoSem.ClaimJoined
import GoSem.ClaimMapViews
import Derived.JoinedTies
import Derived.KernelRfl
namespace Go.Proofs.Ytgecclccmmcdoaa
/- THE CELL 'sum', in the pinned program and in every row, IS THE sha256 OF THE DUMP (.gsa) THAT YtgecclccmmcdoaaProg.lean LOADS. Nothing in Lean hashes anything: it is a label: what it is worth is what the hold of that sum in a sandbox is worth. -/
noncomputable def Try.pinned : Pinned := { name := "ytgecclccmmcdoaa", sum := "be96531331bff5d1ca7e6419e20f3685104fb1ba66ba934cf3f694fc351415fb", checked := Try.checked }
namespace Rows
def none {H : Type} : Left H := { results := [], args := [] }

/-- 'laws.FnHueLost': WHATEVER THE INPUT: true; the input reads as it did. -/
def fnHueLostSpec : ChangeSpec := { name := "fnHueLost", fn := fun _ => fun
  | [d] => { results := [.lit (.bool true)], args := [d] }
  | _ => none }
def fnHueLostRow : OpenClaim := { program := "ytgecclccmmcdoaa", sum := "be96531331bff5d1ca7e6419e20f3685104fb1ba66ba934cf3f694fc351415fb", func := "loop.example/g03326/laws.FnHueLost", spec := "fnHueLost", unfollowed := true, recurses := true, apart := false }
def FnHueLostSaid : Prop := fnHueLostRow.holds Try.pinned (OpenSpec.ofChange fnHueLostSpec)

/-- ITS FALSE NEIGHBOUR: 'it returns false'. Refute it at one input. -/
def fnHueLostWrong : ChangeSpec := { name := "fnHueLost", fn := fun _ => fun
  | [d] => { results := [.lit (.bool false)], args := [d] }
  | _ => none }
def FnHueLostWrongFalsely : Prop := fnHueLostRow.holds Try.pinned (OpenSpec.ofChange fnHueLostWrong)

/-- 'laws.FnAlone': WHATEVER THE INPUT: true; the input reads as it did. -/
def fnAloneSpec : ChangeSpec := { name := "fnAlone", fn := fun _ => fun
  | [d] => { results := [.lit (.bool true)], args := [d] }
  | _ => none }
def fnAloneRow : OpenClaim := { program := "ytgecclccmmcdoaa", sum := "be96531331bff5d1ca7e6419e20f3685104fb1ba66ba934cf3f694fc351415fb", func := "loop.example/g03326/laws.FnAlone", spec := "fnAlone", unfollowed := true, recurses := true, apart := false }
def FnAloneSaid : Prop := fnAloneRow.holds Try.pinned (OpenSpec.ofChange fnAloneSpec)

/-- ITS FALSE NEIGHBOUR: 'it returns false'. Refute it at one input. -/
def fnAloneWrong : ChangeSpec := { name := "fnAlone", fn := fun _ => fun
  | [d] => { results := [.lit (.bool false)], args := [d] }
  | _ => none }
def FnAloneWrongFalsely : Prop := fnAloneRow.holds Try.pinned (OpenSpec.ofChange fnAloneWrong)

/-- 'laws.FnKilled': WHATEVER THE INPUT: true; the input reads as it did. -/
def fnKilledSpec : ChangeSpec := { name := "fnKilled", fn := fun _ => fun
  | [d] => { results := [.lit (.bool true)], args := [d] }
  | _ => none }
def fnKilledRow : OpenClaim := { program := "ytgecclccmmcdoaa", sum := "be96531331bff5d1ca7e6419e20f3685104fb1ba66ba934cf3f694fc351415fb", func := "loop.example/g03326/laws.FnKilled", spec := "fnKilled", unfollowed := true, recurses := true, apart := false }
def FnKilledSaid : Prop := fnKilledRow.holds Try.pinned (OpenSpec.ofChange fnKilledSpec)

/-- ITS FALSE NEIGHBOUR: 'it returns false'. Refute it at one input. -/
def fnKilledWrong : ChangeSpec := { name := "fnKilled", fn := fun _ => fun
  | [d] => { results := [.lit (.bool false)], args := [d] }
  | _ => none }
def FnKilledWrongFalsely : Prop := fnKilledRow.holds Try.pinned (OpenSpec.ofChange fnKilledWrong)

/-- 'laws.FnSaturated': WHATEVER THE INPUT: true; the input reads as it did. -/
def fnSaturatedSpec : ChangeSpec := { name := "fnSaturated", fn := fun _ => fun
  | [d] => { results := [.lit (.bool true)], args := [d] }
  | _ => none }
def fnSaturatedRow : OpenClaim := { program := "ytgecclccmmcdoaa", sum := "be96531331bff5d1ca7e6419e20f3685104fb1ba66ba934cf3f694fc351415fb", func := "loop.example/g03326/laws.FnSaturated", spec := "fnSaturated", unfollowed := true, recurses := true, apart := false }
def FnSaturatedSaid : Prop := fnSaturatedRow.holds Try.pinned (OpenSpec.ofChange fnSaturatedSpec)

/-- ITS FALSE NEIGHBOUR: 'it returns false'. Refute it at one input. -/
def fnSaturatedWrong : ChangeSpec := { name := "fnSaturated", fn := fun _ => fun
  | [d] => { results := [.lit (.bool false)], args := [d] }
  | _ => none }
def FnSaturatedWrongFalsely : Prop := fnSaturatedRow.holds Try.pinned (OpenSpec.ofChange fnSaturatedWrong)

/-- 'laws.FnHueTurnSides': WHATEVER THE INPUT: true; the input reads as it did. -/
def fnHueTurnSidesSpec : ChangeSpec := { name := "fnHueTurnSides", fn := fun _ => fun
  | [d] => { results := [.lit (.bool true)], args := [d] }
  | _ => none }
def fnHueTurnSidesRow : OpenClaim := { program := "ytgecclccmmcdoaa", sum := "be96531331bff5d1ca7e6419e20f3685104fb1ba66ba934cf3f694fc351415fb", func := "loop.example/g03326/laws.FnHueTurnSides", spec := "fnHueTurnSides", apart := false }
def FnHueTurnSidesSaid : Prop := fnHueTurnSidesRow.holds Try.pinned (OpenSpec.ofChange fnHueTurnSidesSpec)

/-- ITS FALSE NEIGHBOUR: 'it returns false'. Refute it at one input. -/
def fnHueTurnSidesWrong : ChangeSpec := { name := "fnHueTurnSides", fn := fun _ => fun
  | [d] => { results := [.lit (.bool false)], args := [d] }
  | _ => none }
def FnHueTurnSidesWrongFalsely : Prop := fnHueTurnSidesRow.holds Try.pinned (OpenSpec.ofChange fnHueTurnSidesWrong)

/-- 'laws.FnExactDecodeAlone': WHATEVER THE INPUT: true; the input reads as it did. -/
def fnExactDecodeAloneSpec : ChangeSpec := { name := "fnExactDecodeAlone", fn := fun _ => fun
  | [d1, d2] => { results := [.lit (.bool true)], args := [d1, d2] }
  | _ => none }
def fnExactDecodeAloneRow : OpenClaim := { program := "ytgecclccmmcdoaa", sum := "be96531331bff5d1ca7e6419e20f3685104fb1ba66ba934cf3f694fc351415fb", func := "loop.example/g03326/laws.FnExactDecodeAlone", spec := "fnExactDecodeAlone", unfollowed := true, recurses := true, apart := false }
def FnExactDecodeAloneSaid : Prop := fnExactDecodeAloneRow.holds Try.pinned (OpenSpec.ofChange fnExactDecodeAloneSpec)

/-- ITS FALSE NEIGHBOUR: 'it returns false'. Refute it at one input. -/
def fnExactDecodeAloneWrong : ChangeSpec := { name := "fnExactDecodeAlone", fn := fun _ => fun
  | [d1, d2] => { results := [.lit (.bool false)], args := [d1, d2] }
  | _ => none }
def FnExactDecodeAloneWrongFalsely : Prop := fnExactDecodeAloneRow.holds Try.pinned (OpenSpec.ofChange fnExactDecodeAloneWrong)

/-- 'laws.FnExactDecodePair': WHATEVER THE INPUT: true; the input reads as it did. -/
def fnExactDecodePairSpec : ChangeSpec := { name := "fnExactDecodePair", fn := fun _ => fun
  | [d1, d2] => { results := [.lit (.bool true)], args := [d1, d2] }
  | _ => none }
def fnExactDecodePairRow : OpenClaim := { program := "ytgecclccmmcdoaa", sum := "be96531331bff5d1ca7e6419e20f3685104fb1ba66ba934cf3f694fc351415fb", func := "loop.example/g03326/laws.FnExactDecodePair", spec := "fnExactDecodePair", unfollowed := true, recurses := true, apart := false }
def FnExactDecodePairSaid : Prop := fnExactDecodePairRow.holds Try.pinned (OpenSpec.ofChange fnExactDecodePairSpec)

/-- ITS FALSE NEIGHBOUR: 'it returns false'. Refute it at one input. -/
def fnExactDecodePairWrong : ChangeSpec := { name := "fnExactDecodePair", fn := fun _ => fun
  | [d1, d2] => { results := [.lit (.bool false)], args := [d1, d2] }
  | _ => none }
def FnExactDecodePairWrongFalsely : Prop := fnExactDecodePairRow.holds Try.pinned (OpenSpec.ofChange fnExactDecodePairWrong)

/-- 'laws.FnExactIsKilled': WHATEVER THE INPUT: true; the input reads as it did. -/
def fnExactIsKilledSpec : ChangeSpec := { name := "fnExactIsKilled", fn := fun _ => fun
  | [d1, d2, d3] => { results := [.lit (.bool true)], args := [d1, d2, d3] }
  | _ => none }
def fnExactIsKilledRow : OpenClaim := { program := "ytgecclccmmcdoaa", sum := "be96531331bff5d1ca7e6419e20f3685104fb1ba66ba934cf3f694fc351415fb", func := "loop.example/g03326/laws.FnExactIsKilled", spec := "fnExactIsKilled", unfollowed := true, recurses := true, apart := false }
def FnExactIsKilledSaid : Prop := fnExactIsKilledRow.holds Try.pinned (OpenSpec.ofChange fnExactIsKilledSpec)

/-- ITS FALSE NEIGHBOUR: 'it returns false'. Refute it at one input. -/
def fnExactIsKilledWrong : ChangeSpec := { name := "fnExactIsKilled", fn := fun _ => fun
  | [d1, d2, d3] => { results := [.lit (.bool false)], args := [d1, d2, d3] }
  | _ => none }
def FnExactIsKilledWrongFalsely : Prop := fnExactIsKilledRow.holds Try.pinned (OpenSpec.ofChange fnExactIsKilledWrong)

/-- 'laws.FnExactTakePair': WHATEVER THE INPUT: true; the input reads as it did. -/
def fnExactTakePairSpec : ChangeSpec := { name := "fnExactTakePair", fn := fun _ => fun
  | [d1, d2, d3, d4] => { results := [.lit (.bool true)], args := [d1, d2, d3, d4] }
  | _ => none }
def fnExactTakePairRow : OpenClaim := { program := "ytgecclccmmcdoaa", sum := "be96531331bff5d1ca7e6419e20f3685104fb1ba66ba934cf3f694fc351415fb", func := "loop.example/g03326/laws.FnExactTakePair", spec := "fnExactTakePair", unfollowed := true, recurses := true, apart := false }
def FnExactTakePairSaid : Prop := fnExactTakePairRow.holds Try.pinned (OpenSpec.ofChange fnExactTakePairSpec)

/-- ITS FALSE NEIGHBOUR: 'it returns false'. Refute it at one input. -/
def fnExactTakePairWrong : ChangeSpec := { name := "fnExactTakePair", fn := fun _ => fun
  | [d1, d2, d3, d4] => { results := [.lit (.bool false)], args := [d1, d2, d3, d4] }
  | _ => none }
def FnExactTakePairWrongFalsely : Prop := fnExactTakePairRow.holds Try.pinned (OpenSpec.ofChange fnExactTakePairWrong)

/- THE SECOND FORM. 'bulk': how many values and letters a reading holds, each counted each time it is reached (what is shared counts as often as it is met; a slice's spare places count too). A statement '..UptoSaid' is the law's where the arguments, and the package variables that the reading takes, are together of bulk at most 1048576: NARROWER than '..Said'. Prove '..Said' where nothing that the law and all that it calls make is longer than what came in: it says more and counts as full. Else prove '..UptoSaid'. A law counts once. -/
mutual
def uptoBulk {H : Type} : DataW H → Nat
  | .lit (.string bytes) => bytes.length + 1
  | .lit _ => 1
  | .nil => 1
  | .ptr d => uptoBulk d + 1
  | .slice elems spare => uptoBulkAll elems + uptoBulkAll spare + 1
  | .agg parts => uptoBulkAll parts + 1
  | .iface _ d => uptoBulk d + 1
  | .map entries => uptoBulkEntries entries + 1
  | .held _ => 1
def uptoBulkAll {H : Type} : List (DataW H) → Nat
  | [] => 0
  | d :: r => uptoBulk d + uptoBulkAll r
def uptoBulkEntries {H : Type} : List (Lit × DataW H) → Nat
  | [] => 0
  | x :: r => uptoBulkEntry x + uptoBulkEntries r
def uptoBulkEntry {H : Type} : Lit × DataW H → Nat
  | (.string bytes, d) => bytes.length + uptoBulk d + 1
  | (_, d) => uptoBulk d + 1
 end
def uptoSmall : (H : Type) → List (DataW H) → Bool := fun _ ds => decide (uptoBulkAll ds ≤ 1048576)
def OpenSpec.upto (s : _root_.Go.ChangeSpec) : _root_.Go.OpenSpec := { _root_.Go.OpenSpec.ofChange s with cond := some uptoSmall }

/-- 'laws.FnHueLost', WHERE WHAT IT READS IS OF BULK AT MOST 1048576: true; the input reads as it did. -/
def fnHueLostUptoRow : OpenClaim := { program := "ytgecclccmmcdoaa", sum := "be96531331bff5d1ca7e6419e20f3685104fb1ba66ba934cf3f694fc351415fb", func := "loop.example/g03326/laws.FnHueLost", spec := "fnHueLost", unfollowed := true, recurses := true, apart := false, narrowed := true }
def FnHueLostUptoSaid : Prop := fnHueLostUptoRow.holds Try.pinned (OpenSpec.upto fnHueLostSpec)

/-- 'laws.FnAlone', WHERE WHAT IT READS IS OF BULK AT MOST 1048576: true; the input reads as it did. -/
def fnAloneUptoRow : OpenClaim := { program := "ytgecclccmmcdoaa", sum := "be96531331bff5d1ca7e6419e20f3685104fb1ba66ba934cf3f694fc351415fb", func := "loop.example/g03326/laws.FnAlone", spec := "fnAlone", unfollowed := true, recurses := true, apart := false, narrowed := true }
def FnAloneUptoSaid : Prop := fnAloneUptoRow.holds Try.pinned (OpenSpec.upto fnAloneSpec)

/-- 'laws.FnKilled', WHERE WHAT IT READS IS OF BULK AT MOST 1048576: true; the input reads as it did. -/
def fnKilledUptoRow : OpenClaim := { program := "ytgecclccmmcdoaa", sum := "be96531331bff5d1ca7e6419e20f3685104fb1ba66ba934cf3f694fc351415fb", func := "loop.example/g03326/laws.FnKilled", spec := "fnKilled", unfollowed := true, recurses := true, apart := false, narrowed := true }
def FnKilledUptoSaid : Prop := fnKilledUptoRow.holds Try.pinned (OpenSpec.upto fnKilledSpec)

/-- 'laws.FnSaturated', WHERE WHAT IT READS IS OF BULK AT MOST 1048576: true; the input reads as it did. -/
def fnSaturatedUptoRow : OpenClaim := { program := "ytgecclccmmcdoaa", sum := "be96531331bff5d1ca7e6419e20f3685104fb1ba66ba934cf3f694fc351415fb", func := "loop.example/g03326/laws.FnSaturated", spec := "fnSaturated", unfollowed := true, recurses := true, apart := false, narrowed := true }
def FnSaturatedUptoSaid : Prop := fnSaturatedUptoRow.holds Try.pinned (OpenSpec.upto fnSaturatedSpec)

/-- 'laws.FnHueTurnSides', WHERE WHAT IT READS IS OF BULK AT MOST 1048576: true; the input reads as it did. -/
def fnHueTurnSidesUptoRow : OpenClaim := { program := "ytgecclccmmcdoaa", sum := "be96531331bff5d1ca7e6419e20f3685104fb1ba66ba934cf3f694fc351415fb", func := "loop.example/g03326/laws.FnHueTurnSides", spec := "fnHueTurnSides", apart := false, narrowed := true }
def FnHueTurnSidesUptoSaid : Prop := fnHueTurnSidesUptoRow.holds Try.pinned (OpenSpec.upto fnHueTurnSidesSpec)

/-- 'laws.FnExactDecodeAlone', WHERE WHAT IT READS IS OF BULK AT MOST 1048576: true; the input reads as it did. -/
def fnExactDecodeAloneUptoRow : OpenClaim := { program := "ytgecclccmmcdoaa", sum := "be96531331bff5d1ca7e6419e20f3685104fb1ba66ba934cf3f694fc351415fb", func := "loop.example/g03326/laws.FnExactDecodeAlone", spec := "fnExactDecodeAlone", unfollowed := true, recurses := true, apart := false, narrowed := true }
def FnExactDecodeAloneUptoSaid : Prop := fnExactDecodeAloneUptoRow.holds Try.pinned (OpenSpec.upto fnExactDecodeAloneSpec)

/-- 'laws.FnExactDecodePair', WHERE WHAT IT READS IS OF BULK AT MOST 1048576: true; the input reads as it did. -/
def fnExactDecodePairUptoRow : OpenClaim := { program := "ytgecclccmmcdoaa", sum := "be96531331bff5d1ca7e6419e20f3685104fb1ba66ba934cf3f694fc351415fb", func := "loop.example/g03326/laws.FnExactDecodePair", spec := "fnExactDecodePair", unfollowed := true, recurses := true, apart := false, narrowed := true }
def FnExactDecodePairUptoSaid : Prop := fnExactDecodePairUptoRow.holds Try.pinned (OpenSpec.upto fnExactDecodePairSpec)

/-- 'laws.FnExactIsKilled', WHERE WHAT IT READS IS OF BULK AT MOST 1048576: true; the input reads as it did. -/
def fnExactIsKilledUptoRow : OpenClaim := { program := "ytgecclccmmcdoaa", sum := "be96531331bff5d1ca7e6419e20f3685104fb1ba66ba934cf3f694fc351415fb", func := "loop.example/g03326/laws.FnExactIsKilled", spec := "fnExactIsKilled", unfollowed := true, recurses := true, apart := false, narrowed := true }
def FnExactIsKilledUptoSaid : Prop := fnExactIsKilledUptoRow.holds Try.pinned (OpenSpec.upto fnExactIsKilledSpec)

/-- 'laws.FnExactTakePair', WHERE WHAT IT READS IS OF BULK AT MOST 1048576: true; the input reads as it did. -/
def fnExactTakePairUptoRow : OpenClaim := { program := "ytgecclccmmcdoaa", sum := "be96531331bff5d1ca7e6419e20f3685104fb1ba66ba934cf3f694fc351415fb", func := "loop.example/g03326/laws.FnExactTakePair", spec := "fnExactTakePair", unfollowed := true, recurses := true, apart := false, narrowed := true }
def FnExactTakePairUptoSaid : Prop := fnExactTakePairUptoRow.holds Try.pinned (OpenSpec.upto fnExactTakePairSpec)

end Rows
end Go.Proofs.Ytgecclccmmcdoaa
