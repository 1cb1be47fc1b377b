/-
  No cell of these rows narrows 'for every input' (looked for: loops, veiled, ifaces, maps, wideKeys, modest, calm, conditions, laid).
  DERIVED. THE GIVEN ROWS OF THIS SEAT. 4 by the template 'for every input the law returns true; each argument reads behind the call as it read before'; 0 by the template 'total and deterministic' (their statements: YtfoggbcfkniimaaTotals.lean).
  GIVEN WITH THE SEED: the statements are not yours to turn. If you find one false, say at which input.
  Laid BY PROGRAM, IN A SANDBOX (cutbox-rows.mjs): the forced cells as the released guide's own fill.sh prints them over the translation cf48b65b7e1f4e1b… (all of the seat's roots in one cut). By AI agents, Wed Nov 11 2026. No macro, syntax, notation, axiom, sorry.
-/
import Derived.Test.YtfoggbcfkniimaaChecked
import GoSem.Claim
import GoSem.ClaimJoined
import GoSem.ClaimMapViews
import Derived.JoinedTies
import Derived.KernelRfl
namespace Go.Proofs.Ytfoggbcfkniimaa
/- THE CELL 'sum', in the pinned program and in every row, IS THE sha256 OF THE DUMP (.gsa) THAT YtfoggbcfkniimaaProg.lean LOADS. Nothing in Lean hashes anything: it is a label: what it is worth is what the hold of that sum in a sandbox is worth. -/
noncomputable def Try.pinned : Pinned := { name := "ytfoggbcfkniimaa", sum := "cf48b65b7e1f4e1b67e031b0231a472111aeb1faa547f4d0562548f1c6dbb5eb", checked := Try.checked }
namespace Rows
def none {H : Type} : Left H := { results := [], args := [] }

/-- 'laws.FnExactSetOk': WHATEVER THE INPUT: true; the input reads as it did. -/
def fnExactSetOkSpec : ChangeSpec := { name := "fnExactSetOk", fn := fun _ => fun
  | [d] => { results := [.lit (.bool true)], args := [d] }
  | _ => none }
def fnExactSetOkRow : OpenClaim := { program := "ytfoggbcfkniimaa", sum := "cf48b65b7e1f4e1b67e031b0231a472111aeb1faa547f4d0562548f1c6dbb5eb", func := "loop.example/g03326/laws.FnExactSetOk", spec := "fnExactSetOk", apart := false }
def FnExactSetOkSaid : Prop := fnExactSetOkRow.holds Try.pinned (OpenSpec.ofChange fnExactSetOkSpec)

/-- ITS FALSE NEIGHBOUR: 'it returns false'. Refute it at one input. -/
def fnExactSetOkWrong : ChangeSpec := { name := "fnExactSetOk", fn := fun _ => fun
  | [d] => { results := [.lit (.bool false)], args := [d] }
  | _ => none }
def FnExactSetOkWrongFalsely : Prop := fnExactSetOkRow.holds Try.pinned (OpenSpec.ofChange fnExactSetOkWrong)

/-- 'laws.FnExactNewSet': WHATEVER THE INPUT: true; the input reads as it did. -/
def fnExactNewSetSpec : ChangeSpec := { name := "fnExactNewSet", fn := fun _ => fun
  | [d1, d2] => { results := [.lit (.bool true)], args := [d1, d2] }
  | _ => none }
def fnExactNewSetRow : OpenClaim := { program := "ytfoggbcfkniimaa", sum := "cf48b65b7e1f4e1b67e031b0231a472111aeb1faa547f4d0562548f1c6dbb5eb", func := "loop.example/g03326/laws.FnExactNewSet", spec := "fnExactNewSet", apart := false }
def FnExactNewSetSaid : Prop := fnExactNewSetRow.holds Try.pinned (OpenSpec.ofChange fnExactNewSetSpec)

/-- ITS FALSE NEIGHBOUR: 'it returns false'. Refute it at one input. -/
def fnExactNewSetWrong : ChangeSpec := { name := "fnExactNewSet", fn := fun _ => fun
  | [d1, d2] => { results := [.lit (.bool false)], args := [d1, d2] }
  | _ => none }
def FnExactNewSetWrongFalsely : Prop := fnExactNewSetRow.holds Try.pinned (OpenSpec.ofChange fnExactNewSetWrong)

/-- 'laws.FnFieldsWoven': WHATEVER THE INPUT: true; the input reads as it did. -/
def fnFieldsWovenSpec : ChangeSpec := { name := "fnFieldsWoven", fn := fun _ => fun
  | [d] => { results := [.lit (.bool true)], args := [d] }
  | _ => none }
def fnFieldsWovenRow : OpenClaim := { program := "ytfoggbcfkniimaa", sum := "cf48b65b7e1f4e1b67e031b0231a472111aeb1faa547f4d0562548f1c6dbb5eb", func := "loop.example/g03326/laws.FnFieldsWoven", spec := "fnFieldsWoven", unfollowed := true, recurses := true, apart := false }
def FnFieldsWovenSaid : Prop := fnFieldsWovenRow.holds Try.pinned (OpenSpec.ofChange fnFieldsWovenSpec)

/-- ITS FALSE NEIGHBOUR: 'it returns false'. Refute it at one input. -/
def fnFieldsWovenWrong : ChangeSpec := { name := "fnFieldsWoven", fn := fun _ => fun
  | [d] => { results := [.lit (.bool false)], args := [d] }
  | _ => none }
def FnFieldsWovenWrongFalsely : Prop := fnFieldsWovenRow.holds Try.pinned (OpenSpec.ofChange fnFieldsWovenWrong)

/-- 'laws.FnPaired': WHATEVER THE INPUT: true; the input reads as it did. -/
def fnPairedSpec : ChangeSpec := { name := "fnPaired", fn := fun _ => fun
  | [d] => { results := [.lit (.bool true)], args := [d] }
  | _ => none }
def fnPairedRow : OpenClaim := { program := "ytfoggbcfkniimaa", sum := "cf48b65b7e1f4e1b67e031b0231a472111aeb1faa547f4d0562548f1c6dbb5eb", func := "loop.example/g03326/laws.FnPaired", spec := "fnPaired", unfollowed := true, recurses := true, apart := false }
def FnPairedSaid : Prop := fnPairedRow.holds Try.pinned (OpenSpec.ofChange fnPairedSpec)

/-- ITS FALSE NEIGHBOUR: 'it returns false'. Refute it at one input. -/
def fnPairedWrong : ChangeSpec := { name := "fnPaired", fn := fun _ => fun
  | [d] => { results := [.lit (.bool false)], args := [d] }
  | _ => none }
def FnPairedWrongFalsely : Prop := fnPairedRow.holds Try.pinned (OpenSpec.ofChange fnPairedWrong)

/- THE SECOND FORM. 'bulk': how many values and letters a reading holds, each counted each time it is reached (what is shared counts as often as it is met; a slice's spare places count too). A statement '..UptoSaid' is the law's where the arguments, and the package variables that the reading takes, are together of bulk at most 1048576: NARROWER than '..Said'. Prove '..Said' where nothing that the law and all that it calls make is longer than what came in: it says more and counts as full. Else prove '..UptoSaid'. A law counts once. -/
mutual
def uptoBulk {H : Type} : DataW H → Nat
  | .lit (.string bytes) => bytes.length + 1
  | .lit _ => 1
  | .nil => 1
  | .ptr d => uptoBulk d + 1
  | .slice elems spare => uptoBulkAll elems + uptoBulkAll spare + 1
  | .agg parts => uptoBulkAll parts + 1
  | .iface _ d => uptoBulk d + 1
  | .map entries => uptoBulkEntries entries + 1
  | .held _ => 1
def uptoBulkAll {H : Type} : List (DataW H) → Nat
  | [] => 0
  | d :: r => uptoBulk d + uptoBulkAll r
def uptoBulkEntries {H : Type} : List (Lit × DataW H) → Nat
  | [] => 0
  | x :: r => uptoBulkEntry x + uptoBulkEntries r
def uptoBulkEntry {H : Type} : Lit × DataW H → Nat
  | (.string bytes, d) => bytes.length + uptoBulk d + 1
  | (_, d) => uptoBulk d + 1
 end
def uptoSmall : (H : Type) → List (DataW H) → Bool := fun _ ds => decide (uptoBulkAll ds ≤ 1048576)
def OpenSpec.upto (s : _root_.Go.ChangeSpec) : _root_.Go.OpenSpec := { _root_.Go.OpenSpec.ofChange s with cond := some uptoSmall }

/-- 'laws.FnExactSetOk', WHERE WHAT IT READS IS OF BULK AT MOST 1048576: true; the input reads as it did. -/
def fnExactSetOkUptoRow : OpenClaim := { program := "ytfoggbcfkniimaa", sum := "cf48b65b7e1f4e1b67e031b0231a472111aeb1faa547f4d0562548f1c6dbb5eb", func := "loop.example/g03326/laws.FnExactSetOk", spec := "fnExactSetOk", apart := false, narrowed := true }
def FnExactSetOkUptoSaid : Prop := fnExactSetOkUptoRow.holds Try.pinned (OpenSpec.upto fnExactSetOkSpec)

/-- 'laws.FnExactNewSet', WHERE WHAT IT READS IS OF BULK AT MOST 1048576: true; the input reads as it did. -/
def fnExactNewSetUptoRow : OpenClaim := { program := "ytfoggbcfkniimaa", sum := "cf48b65b7e1f4e1b67e031b0231a472111aeb1faa547f4d0562548f1c6dbb5eb", func := "loop.example/g03326/laws.FnExactNewSet", spec := "fnExactNewSet", apart := false, narrowed := true }
def FnExactNewSetUptoSaid : Prop := fnExactNewSetUptoRow.holds Try.pinned (OpenSpec.upto fnExactNewSetSpec)

/-- 'laws.FnFieldsWoven', WHERE WHAT IT READS IS OF BULK AT MOST 1048576: true; the input reads as it did. -/
def fnFieldsWovenUptoRow : OpenClaim := { program := "ytfoggbcfkniimaa", sum := "cf48b65b7e1f4e1b67e031b0231a472111aeb1faa547f4d0562548f1c6dbb5eb", func := "loop.example/g03326/laws.FnFieldsWoven", spec := "fnFieldsWoven", unfollowed := true, recurses := true, apart := false, narrowed := true }
def FnFieldsWovenUptoSaid : Prop := fnFieldsWovenUptoRow.holds Try.pinned (OpenSpec.upto fnFieldsWovenSpec)

/-- 'laws.FnPaired', WHERE WHAT IT READS IS OF BULK AT MOST 1048576: true; the input reads as it did. -/
def fnPairedUptoRow : OpenClaim := { program := "ytfoggbcfkniimaa", sum := "cf48b65b7e1f4e1b67e031b0231a472111aeb1faa547f4d0562548f1c6dbb5eb", func := "loop.example/g03326/laws.FnPaired", spec := "fnPaired", unfollowed := true, recurses := true, apart := false, narrowed := true }
def FnPairedUptoSaid : Prop := fnPairedUptoRow.holds Try.pinned (OpenSpec.upto fnPairedSpec)

end Rows
end Go.Proofs.Ytfoggbcfkniimaa
