/-
  No cell of these rows narrows 'for every input' (looked for: loops, veiled, ifaces, maps, wideKeys, modest, calm, conditions, laid).
  DERIVED. THE GIVEN ROWS OF THIS SEAT. 7 by the template 'for every input the law returns true; each argument reads behind the call as it read before'; 0 by the template 'total and deterministic' (their statements: YtnedmhhodmmddaaTotals.lean).
  GIVEN WITH THE SEED: the statements are not yours to turn. If you find one false, say at which input.
  Laid BY PROGRAM, IN A SANDBOX (cutbox-rows.mjs): the forced cells as the released guide's own fill.sh prints them over the translation d9552602d7a9df90… (all of the seat's roots in one cut). By AI agents, Wed Nov 11 2026. No macro, syntax, notation, axiom, sorry.
-/
import Derived.Test.YtnedmhhodmmddaaChecked
import GoSem.Claim
import GoSem.ClaimJoined
import GoSem.ClaimMapViews
import Derived.JoinedTies
import Derived.KernelRfl
namespace Go.Proofs.Ytnedmhhodmmddaa
/- THE CELL 'sum', in the pinned program and in every row, IS THE sha256 OF THE DUMP (.gsa) THAT YtnedmhhodmmddaaProg.lean LOADS. Nothing in Lean hashes anything: it is a label: what it is worth is what the hold of that sum in a sandbox is worth. -/
noncomputable def Try.pinned : Pinned := { name := "ytnedmhhodmmddaa", sum := "d9552602d7a9df90e4da0774a3f9faf6ce0703834de184d286174e309da768ab", checked := Try.checked }
namespace Rows
def none {H : Type} : Left H := { results := [], args := [] }

/-- 'laws.FnPlainChannel': WHATEVER THE INPUT: true; the input reads as it did. -/
def fnPlainChannelSpec : ChangeSpec := { name := "fnPlainChannel", fn := fun _ => fun
  | [d] => { results := [.lit (.bool true)], args := [d] }
  | _ => none }
def fnPlainChannelRow : OpenClaim := { program := "ytnedmhhodmmddaa", sum := "d9552602d7a9df90e4da0774a3f9faf6ce0703834de184d286174e309da768ab", func := "loop.example/g03326/laws.FnPlainChannel", spec := "fnPlainChannel", unfollowed := true, recurses := true, apart := false }
def FnPlainChannelSaid : Prop := fnPlainChannelRow.holds Try.pinned (OpenSpec.ofChange fnPlainChannelSpec)

/-- ITS FALSE NEIGHBOUR: 'it returns false'. Refute it at one input. -/
def fnPlainChannelWrong : ChangeSpec := { name := "fnPlainChannel", fn := fun _ => fun
  | [d] => { results := [.lit (.bool false)], args := [d] }
  | _ => none }
def FnPlainChannelWrongFalsely : Prop := fnPlainChannelRow.holds Try.pinned (OpenSpec.ofChange fnPlainChannelWrong)

/-- 'laws.FnChained': WHATEVER THE INPUT: true; the input reads as it did. -/
def fnChainedSpec : ChangeSpec := { name := "fnChained", fn := fun _ => fun
  | [d] => { results := [.lit (.bool true)], args := [d] }
  | _ => none }
def fnChainedRow : OpenClaim := { program := "ytnedmhhodmmddaa", sum := "d9552602d7a9df90e4da0774a3f9faf6ce0703834de184d286174e309da768ab", func := "loop.example/g03326/laws.FnChained", spec := "fnChained", unfollowed := true, recurses := true, apart := false }
def FnChainedSaid : Prop := fnChainedRow.holds Try.pinned (OpenSpec.ofChange fnChainedSpec)

/-- ITS FALSE NEIGHBOUR: 'it returns false'. Refute it at one input. -/
def fnChainedWrong : ChangeSpec := { name := "fnChained", fn := fun _ => fun
  | [d] => { results := [.lit (.bool false)], args := [d] }
  | _ => none }
def FnChainedWrongFalsely : Prop := fnChainedRow.holds Try.pinned (OpenSpec.ofChange fnChainedWrong)

/-- 'laws.FnTimes': WHATEVER THE INPUT: true; the input reads as it did. -/
def fnTimesSpec : ChangeSpec := { name := "fnTimes", fn := fun _ => fun
  | [d] => { results := [.lit (.bool true)], args := [d] }
  | _ => none }
def fnTimesRow : OpenClaim := { program := "ytnedmhhodmmddaa", sum := "d9552602d7a9df90e4da0774a3f9faf6ce0703834de184d286174e309da768ab", func := "loop.example/g03326/laws.FnTimes", spec := "fnTimes", recurses := true, apart := false }
def FnTimesSaid : Prop := fnTimesRow.holds Try.pinned (OpenSpec.ofChange fnTimesSpec)

/-- ITS FALSE NEIGHBOUR: 'it returns false'. Refute it at one input. -/
def fnTimesWrong : ChangeSpec := { name := "fnTimes", fn := fun _ => fun
  | [d] => { results := [.lit (.bool false)], args := [d] }
  | _ => none }
def FnTimesWrongFalsely : Prop := fnTimesRow.holds Try.pinned (OpenSpec.ofChange fnTimesWrong)

/-- 'laws.FnPowers': WHATEVER THE INPUT: true; the input reads as it did. -/
def fnPowersSpec : ChangeSpec := { name := "fnPowers", fn := fun _ => fun
  | [d] => { results := [.lit (.bool true)], args := [d] }
  | _ => none }
def fnPowersRow : OpenClaim := { program := "ytnedmhhodmmddaa", sum := "d9552602d7a9df90e4da0774a3f9faf6ce0703834de184d286174e309da768ab", func := "loop.example/g03326/laws.FnPowers", spec := "fnPowers", apart := false }
def FnPowersSaid : Prop := fnPowersRow.holds Try.pinned (OpenSpec.ofChange fnPowersSpec)

/-- ITS FALSE NEIGHBOUR: 'it returns false'. Refute it at one input. -/
def fnPowersWrong : ChangeSpec := { name := "fnPowers", fn := fun _ => fun
  | [d] => { results := [.lit (.bool false)], args := [d] }
  | _ => none }
def FnPowersWrongFalsely : Prop := fnPowersRow.holds Try.pinned (OpenSpec.ofChange fnPowersWrong)

/-- 'laws.FnNoEcho': WHATEVER THE INPUT: true; the input reads as it did. -/
def fnNoEchoSpec : ChangeSpec := { name := "fnNoEcho", fn := fun _ => fun
  | [d] => { results := [.lit (.bool true)], args := [d] }
  | _ => none }
def fnNoEchoRow : OpenClaim := { program := "ytnedmhhodmmddaa", sum := "d9552602d7a9df90e4da0774a3f9faf6ce0703834de184d286174e309da768ab", func := "loop.example/g03326/laws.FnNoEcho", spec := "fnNoEcho", unfollowed := true, recurses := true, apart := false }
def FnNoEchoSaid : Prop := fnNoEchoRow.holds Try.pinned (OpenSpec.ofChange fnNoEchoSpec)

/-- ITS FALSE NEIGHBOUR: 'it returns false'. Refute it at one input. -/
def fnNoEchoWrong : ChangeSpec := { name := "fnNoEcho", fn := fun _ => fun
  | [d] => { results := [.lit (.bool false)], args := [d] }
  | _ => none }
def FnNoEchoWrongFalsely : Prop := fnNoEchoRow.holds Try.pinned (OpenSpec.ofChange fnNoEchoWrong)

/-- 'laws.FnExactSamplesOk': WHATEVER THE INPUT: true; the input reads as it did. -/
def fnExactSamplesOkSpec : ChangeSpec := { name := "fnExactSamplesOk", fn := fun _ => fun
  | [d] => { results := [.lit (.bool true)], args := [d] }
  | _ => none }
def fnExactSamplesOkRow : OpenClaim := { program := "ytnedmhhodmmddaa", sum := "d9552602d7a9df90e4da0774a3f9faf6ce0703834de184d286174e309da768ab", func := "loop.example/g03326/laws.FnExactSamplesOk", spec := "fnExactSamplesOk", apart := false }
def FnExactSamplesOkSaid : Prop := fnExactSamplesOkRow.holds Try.pinned (OpenSpec.ofChange fnExactSamplesOkSpec)

/-- ITS FALSE NEIGHBOUR: 'it returns false'. Refute it at one input. -/
def fnExactSamplesOkWrong : ChangeSpec := { name := "fnExactSamplesOk", fn := fun _ => fun
  | [d] => { results := [.lit (.bool false)], args := [d] }
  | _ => none }
def FnExactSamplesOkWrongFalsely : Prop := fnExactSamplesOkRow.holds Try.pinned (OpenSpec.ofChange fnExactSamplesOkWrong)

/-- 'laws.FnExactEcho': WHATEVER THE INPUT: true; the input reads as it did. -/
def fnExactEchoSpec : ChangeSpec := { name := "fnExactEcho", fn := fun _ => fun
  | [d1, d2, d3] => { results := [.lit (.bool true)], args := [d1, d2, d3] }
  | _ => none }
def fnExactEchoRow : OpenClaim := { program := "ytnedmhhodmmddaa", sum := "d9552602d7a9df90e4da0774a3f9faf6ce0703834de184d286174e309da768ab", func := "loop.example/g03326/laws.FnExactEcho", spec := "fnExactEcho", unfollowed := true, recurses := true, apart := false }
def FnExactEchoSaid : Prop := fnExactEchoRow.holds Try.pinned (OpenSpec.ofChange fnExactEchoSpec)

/-- ITS FALSE NEIGHBOUR: 'it returns false'. Refute it at one input. -/
def fnExactEchoWrong : ChangeSpec := { name := "fnExactEcho", fn := fun _ => fun
  | [d1, d2, d3] => { results := [.lit (.bool false)], args := [d1, d2, d3] }
  | _ => none }
def FnExactEchoWrongFalsely : Prop := fnExactEchoRow.holds Try.pinned (OpenSpec.ofChange fnExactEchoWrong)

/- THE SECOND FORM. 'bulk': how many values and letters a reading holds, each counted each time it is reached (what is shared counts as often as it is met; a slice's spare places count too). A statement '..UptoSaid' is the law's where the arguments, and the package variables that the reading takes, are together of bulk at most 1048576: NARROWER than '..Said'. Prove '..Said' where nothing that the law and all that it calls make is longer than what came in: it says more and counts as full. Else prove '..UptoSaid'. A law counts once. -/
mutual
def uptoBulk {H : Type} : DataW H → Nat
  | .lit (.string bytes) => bytes.length + 1
  | .lit _ => 1
  | .nil => 1
  | .ptr d => uptoBulk d + 1
  | .slice elems spare => uptoBulkAll elems + uptoBulkAll spare + 1
  | .agg parts => uptoBulkAll parts + 1
  | .iface _ d => uptoBulk d + 1
  | .map entries => uptoBulkEntries entries + 1
  | .held _ => 1
def uptoBulkAll {H : Type} : List (DataW H) → Nat
  | [] => 0
  | d :: r => uptoBulk d + uptoBulkAll r
def uptoBulkEntries {H : Type} : List (Lit × DataW H) → Nat
  | [] => 0
  | x :: r => uptoBulkEntry x + uptoBulkEntries r
def uptoBulkEntry {H : Type} : Lit × DataW H → Nat
  | (.string bytes, d) => bytes.length + uptoBulk d + 1
  | (_, d) => uptoBulk d + 1
 end
def uptoSmall : (H : Type) → List (DataW H) → Bool := fun _ ds => decide (uptoBulkAll ds ≤ 1048576)
def OpenSpec.upto (s : _root_.Go.ChangeSpec) : _root_.Go.OpenSpec := { _root_.Go.OpenSpec.ofChange s with cond := some uptoSmall }

/-- 'laws.FnPlainChannel', WHERE WHAT IT READS IS OF BULK AT MOST 1048576: true; the input reads as it did. -/
def fnPlainChannelUptoRow : OpenClaim := { program := "ytnedmhhodmmddaa", sum := "d9552602d7a9df90e4da0774a3f9faf6ce0703834de184d286174e309da768ab", func := "loop.example/g03326/laws.FnPlainChannel", spec := "fnPlainChannel", unfollowed := true, recurses := true, apart := false, narrowed := true }
def FnPlainChannelUptoSaid : Prop := fnPlainChannelUptoRow.holds Try.pinned (OpenSpec.upto fnPlainChannelSpec)

/-- 'laws.FnChained', WHERE WHAT IT READS IS OF BULK AT MOST 1048576: true; the input reads as it did. -/
def fnChainedUptoRow : OpenClaim := { program := "ytnedmhhodmmddaa", sum := "d9552602d7a9df90e4da0774a3f9faf6ce0703834de184d286174e309da768ab", func := "loop.example/g03326/laws.FnChained", spec := "fnChained", unfollowed := true, recurses := true, apart := false, narrowed := true }
def FnChainedUptoSaid : Prop := fnChainedUptoRow.holds Try.pinned (OpenSpec.upto fnChainedSpec)

/-- 'laws.FnTimes', WHERE WHAT IT READS IS OF BULK AT MOST 1048576: true; the input reads as it did. -/
def fnTimesUptoRow : OpenClaim := { program := "ytnedmhhodmmddaa", sum := "d9552602d7a9df90e4da0774a3f9faf6ce0703834de184d286174e309da768ab", func := "loop.example/g03326/laws.FnTimes", spec := "fnTimes", recurses := true, apart := false, narrowed := true }
def FnTimesUptoSaid : Prop := fnTimesUptoRow.holds Try.pinned (OpenSpec.upto fnTimesSpec)

/-- 'laws.FnPowers', WHERE WHAT IT READS IS OF BULK AT MOST 1048576: true; the input reads as it did. -/
def fnPowersUptoRow : OpenClaim := { program := "ytnedmhhodmmddaa", sum := "d9552602d7a9df90e4da0774a3f9faf6ce0703834de184d286174e309da768ab", func := "loop.example/g03326/laws.FnPowers", spec := "fnPowers", apart := false, narrowed := true }
def FnPowersUptoSaid : Prop := fnPowersUptoRow.holds Try.pinned (OpenSpec.upto fnPowersSpec)

/-- 'laws.FnNoEcho', WHERE WHAT IT READS IS OF BULK AT MOST 1048576: true; the input reads as it did. -/
def fnNoEchoUptoRow : OpenClaim := { program := "ytnedmhhodmmddaa", sum := "d9552602d7a9df90e4da0774a3f9faf6ce0703834de184d286174e309da768ab", func := "loop.example/g03326/laws.FnNoEcho", spec := "fnNoEcho", unfollowed := true, recurses := true, apart := false, narrowed := true }
def FnNoEchoUptoSaid : Prop := fnNoEchoUptoRow.holds Try.pinned (OpenSpec.upto fnNoEchoSpec)

/-- 'laws.FnExactSamplesOk', WHERE WHAT IT READS IS OF BULK AT MOST 1048576: true; the input reads as it did. -/
def fnExactSamplesOkUptoRow : OpenClaim := { program := "ytnedmhhodmmddaa", sum := "d9552602d7a9df90e4da0774a3f9faf6ce0703834de184d286174e309da768ab", func := "loop.example/g03326/laws.FnExactSamplesOk", spec := "fnExactSamplesOk", apart := false, narrowed := true }
def FnExactSamplesOkUptoSaid : Prop := fnExactSamplesOkUptoRow.holds Try.pinned (OpenSpec.upto fnExactSamplesOkSpec)

/-- 'laws.FnExactEcho', WHERE WHAT IT READS IS OF BULK AT MOST 1048576: true; the input reads as it did. -/
def fnExactEchoUptoRow : OpenClaim := { program := "ytnedmhhodmmddaa", sum := "d9552602d7a9df90e4da0774a3f9faf6ce0703834de184d286174e309da768ab", func := "loop.example/g03326/laws.FnExactEcho", spec := "fnExactEcho", unfollowed := true, recurses := true, apart := false, narrowed := true }
def FnExactEchoUptoSaid : Prop := fnExactEchoUptoRow.holds Try.pinned (OpenSpec.upto fnExactEchoSpec)

end Rows
end Go.Proofs.Ytnedmhhodmmddaa
