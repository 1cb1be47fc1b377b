/-
  No cell of these rows narrows 'for every input' (looked for: loops, veiled, ifaces, maps, wideKeys, modest, calm, conditions, laid).
  DERIVED. THE GIVEN ROWS OF THIS SEAT. 4 by the template 'for every input the law returns true; each argument reads behind the call as it read before'; 0 by the template 'total and deterministic' (their statements: YtlbepmiomcmcnaaTotals.lean).
  GIVEN WITH THE SEED: the statements are not yours to turn. If you find one false, say at which input.
  Laid BY PROGRAM, IN A SANDBOX (cutbox-rows.mjs): the forced cells as the released guide's own fill.sh prints them over the translation b3eca0b32ce20a64… (all of the seat's roots in one cut). By AI agents, Wed Nov 11 2026. No macro, syntax, notation, axiom, sorry.
-/
import Derived.Test.YtlbepmiomcmcnaaChecked
import GoSem.Claim
import GoSem.ClaimJoined
import GoSem.ClaimMapViews
import Derived.JoinedTies
import Derived.KernelRfl
namespace Go.Proofs.Ytlbepmiomcmcnaa
/- THE CELL 'sum', in the pinned program and in every row, IS THE sha256 OF THE DUMP (.gsa) THAT YtlbepmiomcmcnaaProg.lean LOADS. Nothing in Lean hashes anything: it is a label: what it is worth is what the hold of that sum in a sandbox is worth. -/
noncomputable def Try.pinned : Pinned := { name := "ytlbepmiomcmcnaa", sum := "b3eca0b32ce20a641aa52c84b33d367b3b9e8e0ba54cc4eed4fc7ac6d5e72894", checked := Try.checked }
namespace Rows
def none {H : Type} : Left H := { results := [], args := [] }

/-- 'laws.FnFieldsWoven': WHATEVER THE INPUT: true; the input reads as it did. -/
def fnFieldsWovenSpec : ChangeSpec := { name := "fnFieldsWoven", fn := fun _ => fun
  | [d] => { results := [.lit (.bool true)], args := [d] }
  | _ => none }
def fnFieldsWovenRow : OpenClaim := { program := "ytlbepmiomcmcnaa", sum := "b3eca0b32ce20a641aa52c84b33d367b3b9e8e0ba54cc4eed4fc7ac6d5e72894", func := "loop.example/g03326/laws.FnFieldsWoven", spec := "fnFieldsWoven", unfollowed := true, recurses := true, apart := false }
def FnFieldsWovenSaid : Prop := fnFieldsWovenRow.holds Try.pinned (OpenSpec.ofChange fnFieldsWovenSpec)

/-- ITS FALSE NEIGHBOUR: 'it returns false'. Refute it at one input. -/
def fnFieldsWovenWrong : ChangeSpec := { name := "fnFieldsWoven", fn := fun _ => fun
  | [d] => { results := [.lit (.bool false)], args := [d] }
  | _ => none }
def FnFieldsWovenWrongFalsely : Prop := fnFieldsWovenRow.holds Try.pinned (OpenSpec.ofChange fnFieldsWovenWrong)

/-- 'laws.FnMeanSelf': WHATEVER THE INPUT: true; the input reads as it did. -/
def fnMeanSelfSpec : ChangeSpec := { name := "fnMeanSelf", fn := fun _ => fun
  | [d] => { results := [.lit (.bool true)], args := [d] }
  | _ => none }
def fnMeanSelfRow : OpenClaim := { program := "ytlbepmiomcmcnaa", sum := "b3eca0b32ce20a641aa52c84b33d367b3b9e8e0ba54cc4eed4fc7ac6d5e72894", func := "loop.example/g03326/laws.FnMeanSelf", spec := "fnMeanSelf", unfollowed := true, recurses := true, apart := false }
def FnMeanSelfSaid : Prop := fnMeanSelfRow.holds Try.pinned (OpenSpec.ofChange fnMeanSelfSpec)

/-- ITS FALSE NEIGHBOUR: 'it returns false'. Refute it at one input. -/
def fnMeanSelfWrong : ChangeSpec := { name := "fnMeanSelf", fn := fun _ => fun
  | [d] => { results := [.lit (.bool false)], args := [d] }
  | _ => none }
def FnMeanSelfWrongFalsely : Prop := fnMeanSelfRow.holds Try.pinned (OpenSpec.ofChange fnMeanSelfWrong)

/-- 'laws.FnConjTwice': WHATEVER THE INPUT: true; the input reads as it did. -/
def fnConjTwiceSpec : ChangeSpec := { name := "fnConjTwice", fn := fun _ => fun
  | [d] => { results := [.lit (.bool true)], args := [d] }
  | _ => none }
def fnConjTwiceRow : OpenClaim := { program := "ytlbepmiomcmcnaa", sum := "b3eca0b32ce20a641aa52c84b33d367b3b9e8e0ba54cc4eed4fc7ac6d5e72894", func := "loop.example/g03326/laws.FnConjTwice", spec := "fnConjTwice", unfollowed := true, recurses := true, apart := false }
def FnConjTwiceSaid : Prop := fnConjTwiceRow.holds Try.pinned (OpenSpec.ofChange fnConjTwiceSpec)

/-- ITS FALSE NEIGHBOUR: 'it returns false'. Refute it at one input. -/
def fnConjTwiceWrong : ChangeSpec := { name := "fnConjTwice", fn := fun _ => fun
  | [d] => { results := [.lit (.bool false)], args := [d] }
  | _ => none }
def FnConjTwiceWrongFalsely : Prop := fnConjTwiceRow.holds Try.pinned (OpenSpec.ofChange fnConjTwiceWrong)

/-- 'laws.FnPaired': WHATEVER THE INPUT: true; the input reads as it did. -/
def fnPairedSpec : ChangeSpec := { name := "fnPaired", fn := fun _ => fun
  | [d] => { results := [.lit (.bool true)], args := [d] }
  | _ => none }
def fnPairedRow : OpenClaim := { program := "ytlbepmiomcmcnaa", sum := "b3eca0b32ce20a641aa52c84b33d367b3b9e8e0ba54cc4eed4fc7ac6d5e72894", func := "loop.example/g03326/laws.FnPaired", spec := "fnPaired", unfollowed := true, recurses := true, apart := false }
def FnPairedSaid : Prop := fnPairedRow.holds Try.pinned (OpenSpec.ofChange fnPairedSpec)

/-- ITS FALSE NEIGHBOUR: 'it returns false'. Refute it at one input. -/
def fnPairedWrong : ChangeSpec := { name := "fnPaired", fn := fun _ => fun
  | [d] => { results := [.lit (.bool false)], args := [d] }
  | _ => none }
def FnPairedWrongFalsely : Prop := fnPairedRow.holds Try.pinned (OpenSpec.ofChange fnPairedWrong)

/- THE SECOND FORM. 'bulk': how many values and letters a reading holds, each counted each time it is reached (what is shared counts as often as it is met; a slice's spare places count too). A statement '..UptoSaid' is the law's where the arguments, and the package variables that the reading takes, are together of bulk at most 1048576: NARROWER than '..Said'. Prove '..Said' where nothing that the law and all that it calls make is longer than what came in: it says more and counts as full. Else prove '..UptoSaid'. A law counts once. -/
mutual
def uptoBulk {H : Type} : DataW H → Nat
  | .lit (.string bytes) => bytes.length + 1
  | .lit _ => 1
  | .nil => 1
  | .ptr d => uptoBulk d + 1
  | .slice elems spare => uptoBulkAll elems + uptoBulkAll spare + 1
  | .agg parts => uptoBulkAll parts + 1
  | .iface _ d => uptoBulk d + 1
  | .map entries => uptoBulkEntries entries + 1
  | .held _ => 1
def uptoBulkAll {H : Type} : List (DataW H) → Nat
  | [] => 0
  | d :: r => uptoBulk d + uptoBulkAll r
def uptoBulkEntries {H : Type} : List (Lit × DataW H) → Nat
  | [] => 0
  | x :: r => uptoBulkEntry x + uptoBulkEntries r
def uptoBulkEntry {H : Type} : Lit × DataW H → Nat
  | (.string bytes, d) => bytes.length + uptoBulk d + 1
  | (_, d) => uptoBulk d + 1
 end
def uptoSmall : (H : Type) → List (DataW H) → Bool := fun _ ds => decide (uptoBulkAll ds ≤ 1048576)
def OpenSpec.upto (s : _root_.Go.ChangeSpec) : _root_.Go.OpenSpec := { _root_.Go.OpenSpec.ofChange s with cond := some uptoSmall }

/-- 'laws.FnFieldsWoven', WHERE WHAT IT READS IS OF BULK AT MOST 1048576: true; the input reads as it did. -/
def fnFieldsWovenUptoRow : OpenClaim := { program := "ytlbepmiomcmcnaa", sum := "b3eca0b32ce20a641aa52c84b33d367b3b9e8e0ba54cc4eed4fc7ac6d5e72894", func := "loop.example/g03326/laws.FnFieldsWoven", spec := "fnFieldsWoven", unfollowed := true, recurses := true, apart := false, narrowed := true }
def FnFieldsWovenUptoSaid : Prop := fnFieldsWovenUptoRow.holds Try.pinned (OpenSpec.upto fnFieldsWovenSpec)

/-- 'laws.FnMeanSelf', WHERE WHAT IT READS IS OF BULK AT MOST 1048576: true; the input reads as it did. -/
def fnMeanSelfUptoRow : OpenClaim := { program := "ytlbepmiomcmcnaa", sum := "b3eca0b32ce20a641aa52c84b33d367b3b9e8e0ba54cc4eed4fc7ac6d5e72894", func := "loop.example/g03326/laws.FnMeanSelf", spec := "fnMeanSelf", unfollowed := true, recurses := true, apart := false, narrowed := true }
def FnMeanSelfUptoSaid : Prop := fnMeanSelfUptoRow.holds Try.pinned (OpenSpec.upto fnMeanSelfSpec)

/-- 'laws.FnConjTwice', WHERE WHAT IT READS IS OF BULK AT MOST 1048576: true; the input reads as it did. -/
def fnConjTwiceUptoRow : OpenClaim := { program := "ytlbepmiomcmcnaa", sum := "b3eca0b32ce20a641aa52c84b33d367b3b9e8e0ba54cc4eed4fc7ac6d5e72894", func := "loop.example/g03326/laws.FnConjTwice", spec := "fnConjTwice", unfollowed := true, recurses := true, apart := false, narrowed := true }
def FnConjTwiceUptoSaid : Prop := fnConjTwiceUptoRow.holds Try.pinned (OpenSpec.upto fnConjTwiceSpec)

/-- 'laws.FnPaired', WHERE WHAT IT READS IS OF BULK AT MOST 1048576: true; the input reads as it did. -/
def fnPairedUptoRow : OpenClaim := { program := "ytlbepmiomcmcnaa", sum := "b3eca0b32ce20a641aa52c84b33d367b3b9e8e0ba54cc4eed4fc7ac6d5e72894", func := "loop.example/g03326/laws.FnPaired", spec := "fnPaired", unfollowed := true, recurses := true, apart := false, narrowed := true }
def FnPairedUptoSaid : Prop := fnPairedUptoRow.holds Try.pinned (OpenSpec.upto fnPairedSpec)

end Rows
end Go.Proofs.Ytlbepmiomcmcnaa
