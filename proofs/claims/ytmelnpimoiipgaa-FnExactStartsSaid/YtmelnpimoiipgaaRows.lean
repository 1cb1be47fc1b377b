/-
  No cell of these rows narrows 'for every input' (looked for: loops, veiled, ifaces, maps, wideKeys, modest, calm, conditions, laid).
  DERIVED. THE GIVEN ROWS OF THIS SEAT. 10 by the template 'for every input the law returns true; each argument reads behind the call as it read before'; 0 by the template 'total and deterministic' (their statements: YtmelnpimoiipgaaTotals.lean).
  GIVEN WITH THE SEED: the statements are not yours to turn. If you find one false, say at which input.
  Laid BY PROGRAM, IN A SANDBOX (cutbox-rows.mjs): the forced cells as the released guide's own fill.sh prints them over the translation 2478dc1cfc5e6d5d… (all of the seat's roots in one cut). By AI agents, Wed Nov 11 2026. No macro, syntax, notation, axiom, sorry.
-/
import Derived.Test.YtmelnpimoiipgaaChecked
import GoSem.Claim
import GoSem.ClaimJoined
import GoSem.ClaimMapViews
import Derived.JoinedTies
import Derived.KernelRfl
namespace Go.Proofs.Ytmelnpimoiipgaa
/- THE CELL 'sum', in the pinned program and in every row, IS THE sha256 OF THE DUMP (.gsa) THAT YtmelnpimoiipgaaProg.lean LOADS. Nothing in Lean hashes anything: it is a label: what it is worth is what the hold of that sum in a sandbox is worth. -/
noncomputable def Try.pinned : Pinned := { name := "ytmelnpimoiipgaa", sum := "2478dc1cfc5e6d5d1d42d8ac17d89c2ee2bf2ca1856beab31f998b6167e50606", checked := Try.checked }
namespace Rows
def none {H : Type} : Left H := { results := [], args := [] }

/-- 'laws.FnLows': WHATEVER THE INPUT: true; the input reads as it did. -/
def fnLowsSpec : ChangeSpec := { name := "fnLows", fn := fun _ => fun
  | [d] => { results := [.lit (.bool true)], args := [d] }
  | _ => none }
def fnLowsRow : OpenClaim := { program := "ytmelnpimoiipgaa", sum := "2478dc1cfc5e6d5d1d42d8ac17d89c2ee2bf2ca1856beab31f998b6167e50606", func := "loop.example/g03326/laws.FnLows", spec := "fnLows", unfollowed := true, recurses := true, apart := false }
def FnLowsSaid : Prop := fnLowsRow.holds Try.pinned (OpenSpec.ofChange fnLowsSpec)

/-- ITS FALSE NEIGHBOUR: 'it returns false'. Refute it at one input. -/
def fnLowsWrong : ChangeSpec := { name := "fnLows", fn := fun _ => fun
  | [d] => { results := [.lit (.bool false)], args := [d] }
  | _ => none }
def FnLowsWrongFalsely : Prop := fnLowsRow.holds Try.pinned (OpenSpec.ofChange fnLowsWrong)

/-- 'laws.FnCutJoined': WHATEVER THE INPUT: true; the input reads as it did. -/
def fnCutJoinedSpec : ChangeSpec := { name := "fnCutJoined", fn := fun _ => fun
  | [d] => { results := [.lit (.bool true)], args := [d] }
  | _ => none }
def fnCutJoinedRow : OpenClaim := { program := "ytmelnpimoiipgaa", sum := "2478dc1cfc5e6d5d1d42d8ac17d89c2ee2bf2ca1856beab31f998b6167e50606", func := "loop.example/g03326/laws.FnCutJoined", spec := "fnCutJoined", unfollowed := true, recurses := true, apart := false }
def FnCutJoinedSaid : Prop := fnCutJoinedRow.holds Try.pinned (OpenSpec.ofChange fnCutJoinedSpec)

/-- ITS FALSE NEIGHBOUR: 'it returns false'. Refute it at one input. -/
def fnCutJoinedWrong : ChangeSpec := { name := "fnCutJoined", fn := fun _ => fun
  | [d] => { results := [.lit (.bool false)], args := [d] }
  | _ => none }
def FnCutJoinedWrongFalsely : Prop := fnCutJoinedRow.holds Try.pinned (OpenSpec.ofChange fnCutJoinedWrong)

/-- 'laws.FnErased': WHATEVER THE INPUT: true; the input reads as it did. -/
def fnErasedSpec : ChangeSpec := { name := "fnErased", fn := fun _ => fun
  | [d] => { results := [.lit (.bool true)], args := [d] }
  | _ => none }
def fnErasedRow : OpenClaim := { program := "ytmelnpimoiipgaa", sum := "2478dc1cfc5e6d5d1d42d8ac17d89c2ee2bf2ca1856beab31f998b6167e50606", func := "loop.example/g03326/laws.FnErased", spec := "fnErased", apart := false }
def FnErasedSaid : Prop := fnErasedRow.holds Try.pinned (OpenSpec.ofChange fnErasedSpec)

/-- ITS FALSE NEIGHBOUR: 'it returns false'. Refute it at one input. -/
def fnErasedWrong : ChangeSpec := { name := "fnErased", fn := fun _ => fun
  | [d] => { results := [.lit (.bool false)], args := [d] }
  | _ => none }
def FnErasedWrongFalsely : Prop := fnErasedRow.holds Try.pinned (OpenSpec.ofChange fnErasedWrong)

/-- 'laws.FnLevelled': WHATEVER THE INPUT: true; the input reads as it did. -/
def fnLevelledSpec : ChangeSpec := { name := "fnLevelled", fn := fun _ => fun
  | [d] => { results := [.lit (.bool true)], args := [d] }
  | _ => none }
def fnLevelledRow : OpenClaim := { program := "ytmelnpimoiipgaa", sum := "2478dc1cfc5e6d5d1d42d8ac17d89c2ee2bf2ca1856beab31f998b6167e50606", func := "loop.example/g03326/laws.FnLevelled", spec := "fnLevelled", unfollowed := true, recurses := true, apart := false }
def FnLevelledSaid : Prop := fnLevelledRow.holds Try.pinned (OpenSpec.ofChange fnLevelledSpec)

/-- ITS FALSE NEIGHBOUR: 'it returns false'. Refute it at one input. -/
def fnLevelledWrong : ChangeSpec := { name := "fnLevelled", fn := fun _ => fun
  | [d] => { results := [.lit (.bool false)], args := [d] }
  | _ => none }
def FnLevelledWrongFalsely : Prop := fnLevelledRow.holds Try.pinned (OpenSpec.ofChange fnLevelledWrong)

/-- 'laws.FnExactLows': WHATEVER THE INPUT: true; the input reads as it did. -/
def fnExactLowsSpec : ChangeSpec := { name := "fnExactLows", fn := fun _ => fun
  | [d1, d2] => { results := [.lit (.bool true)], args := [d1, d2] }
  | _ => none }
def fnExactLowsRow : OpenClaim := { program := "ytmelnpimoiipgaa", sum := "2478dc1cfc5e6d5d1d42d8ac17d89c2ee2bf2ca1856beab31f998b6167e50606", func := "loop.example/g03326/laws.FnExactLows", spec := "fnExactLows", unfollowed := true, recurses := true, apart := false }
def FnExactLowsSaid : Prop := fnExactLowsRow.holds Try.pinned (OpenSpec.ofChange fnExactLowsSpec)

/-- ITS FALSE NEIGHBOUR: 'it returns false'. Refute it at one input. -/
def fnExactLowsWrong : ChangeSpec := { name := "fnExactLows", fn := fun _ => fun
  | [d1, d2] => { results := [.lit (.bool false)], args := [d1, d2] }
  | _ => none }
def FnExactLowsWrongFalsely : Prop := fnExactLowsRow.holds Try.pinned (OpenSpec.ofChange fnExactLowsWrong)

/-- 'laws.FnExactStarts': WHATEVER THE INPUT: true; the input reads as it did. -/
def fnExactStartsSpec : ChangeSpec := { name := "fnExactStarts", fn := fun _ => fun
  | [d1, d2, d3, d4] => { results := [.lit (.bool true)], args := [d1, d2, d3, d4] }
  | _ => none }
def fnExactStartsRow : OpenClaim := { program := "ytmelnpimoiipgaa", sum := "2478dc1cfc5e6d5d1d42d8ac17d89c2ee2bf2ca1856beab31f998b6167e50606", func := "loop.example/g03326/laws.FnExactStarts", spec := "fnExactStarts", unfollowed := true, recurses := true, apart := false }
def FnExactStartsSaid : Prop := fnExactStartsRow.holds Try.pinned (OpenSpec.ofChange fnExactStartsSpec)

/-- ITS FALSE NEIGHBOUR: 'it returns false'. Refute it at one input. -/
def fnExactStartsWrong : ChangeSpec := { name := "fnExactStarts", fn := fun _ => fun
  | [d1, d2, d3, d4] => { results := [.lit (.bool false)], args := [d1, d2, d3, d4] }
  | _ => none }
def FnExactStartsWrongFalsely : Prop := fnExactStartsRow.holds Try.pinned (OpenSpec.ofChange fnExactStartsWrong)

/-- 'laws.FnExactCutLines': WHATEVER THE INPUT: true; the input reads as it did. -/
def fnExactCutLinesSpec : ChangeSpec := { name := "fnExactCutLines", fn := fun _ => fun
  | [d1, d2, d3] => { results := [.lit (.bool true)], args := [d1, d2, d3] }
  | _ => none }
def fnExactCutLinesRow : OpenClaim := { program := "ytmelnpimoiipgaa", sum := "2478dc1cfc5e6d5d1d42d8ac17d89c2ee2bf2ca1856beab31f998b6167e50606", func := "loop.example/g03326/laws.FnExactCutLines", spec := "fnExactCutLines", apart := false }
def FnExactCutLinesSaid : Prop := fnExactCutLinesRow.holds Try.pinned (OpenSpec.ofChange fnExactCutLinesSpec)

/-- ITS FALSE NEIGHBOUR: 'it returns false'. Refute it at one input. -/
def fnExactCutLinesWrong : ChangeSpec := { name := "fnExactCutLines", fn := fun _ => fun
  | [d1, d2, d3] => { results := [.lit (.bool false)], args := [d1, d2, d3] }
  | _ => none }
def FnExactCutLinesWrongFalsely : Prop := fnExactCutLinesRow.holds Try.pinned (OpenSpec.ofChange fnExactCutLinesWrong)

/-- 'laws.FnExactErase': WHATEVER THE INPUT: true; the input reads as it did. -/
def fnExactEraseSpec : ChangeSpec := { name := "fnExactErase", fn := fun _ => fun
  | [d1, d2, d3] => { results := [.lit (.bool true)], args := [d1, d2, d3] }
  | _ => none }
def fnExactEraseRow : OpenClaim := { program := "ytmelnpimoiipgaa", sum := "2478dc1cfc5e6d5d1d42d8ac17d89c2ee2bf2ca1856beab31f998b6167e50606", func := "loop.example/g03326/laws.FnExactErase", spec := "fnExactErase", apart := false }
def FnExactEraseSaid : Prop := fnExactEraseRow.holds Try.pinned (OpenSpec.ofChange fnExactEraseSpec)

/-- ITS FALSE NEIGHBOUR: 'it returns false'. Refute it at one input. -/
def fnExactEraseWrong : ChangeSpec := { name := "fnExactErase", fn := fun _ => fun
  | [d1, d2, d3] => { results := [.lit (.bool false)], args := [d1, d2, d3] }
  | _ => none }
def FnExactEraseWrongFalsely : Prop := fnExactEraseRow.holds Try.pinned (OpenSpec.ofChange fnExactEraseWrong)

/-- 'laws.FnExactLevels': WHATEVER THE INPUT: true; the input reads as it did. -/
def fnExactLevelsSpec : ChangeSpec := { name := "fnExactLevels", fn := fun _ => fun
  | [d] => { results := [.lit (.bool true)], args := [d] }
  | _ => none }
def fnExactLevelsRow : OpenClaim := { program := "ytmelnpimoiipgaa", sum := "2478dc1cfc5e6d5d1d42d8ac17d89c2ee2bf2ca1856beab31f998b6167e50606", func := "loop.example/g03326/laws.FnExactLevels", spec := "fnExactLevels", apart := false }
def FnExactLevelsSaid : Prop := fnExactLevelsRow.holds Try.pinned (OpenSpec.ofChange fnExactLevelsSpec)

/-- ITS FALSE NEIGHBOUR: 'it returns false'. Refute it at one input. -/
def fnExactLevelsWrong : ChangeSpec := { name := "fnExactLevels", fn := fun _ => fun
  | [d] => { results := [.lit (.bool false)], args := [d] }
  | _ => none }
def FnExactLevelsWrongFalsely : Prop := fnExactLevelsRow.holds Try.pinned (OpenSpec.ofChange fnExactLevelsWrong)

/-- 'laws.FnExactToLevel': WHATEVER THE INPUT: true; the input reads as it did. -/
def fnExactToLevelSpec : ChangeSpec := { name := "fnExactToLevel", fn := fun _ => fun
  | [d] => { results := [.lit (.bool true)], args := [d] }
  | _ => none }
def fnExactToLevelRow : OpenClaim := { program := "ytmelnpimoiipgaa", sum := "2478dc1cfc5e6d5d1d42d8ac17d89c2ee2bf2ca1856beab31f998b6167e50606", func := "loop.example/g03326/laws.FnExactToLevel", spec := "fnExactToLevel", unfollowed := true, recurses := true, apart := false }
def FnExactToLevelSaid : Prop := fnExactToLevelRow.holds Try.pinned (OpenSpec.ofChange fnExactToLevelSpec)

/-- ITS FALSE NEIGHBOUR: 'it returns false'. Refute it at one input. -/
def fnExactToLevelWrong : ChangeSpec := { name := "fnExactToLevel", fn := fun _ => fun
  | [d] => { results := [.lit (.bool false)], args := [d] }
  | _ => none }
def FnExactToLevelWrongFalsely : Prop := fnExactToLevelRow.holds Try.pinned (OpenSpec.ofChange fnExactToLevelWrong)

/- THE SECOND FORM. 'bulk': how many values and letters a reading holds, each counted each time it is reached (what is shared counts as often as it is met; a slice's spare places count too). A statement '..UptoSaid' is the law's where the arguments, and the package variables that the reading takes, are together of bulk at most 1048576: NARROWER than '..Said'. Prove '..Said' where nothing that the law and all that it calls make is longer than what came in: it says more and counts as full. Else prove '..UptoSaid'. A law counts once. -/
mutual
def uptoBulk {H : Type} : DataW H → Nat
  | .lit (.string bytes) => bytes.length + 1
  | .lit _ => 1
  | .nil => 1
  | .ptr d => uptoBulk d + 1
  | .slice elems spare => uptoBulkAll elems + uptoBulkAll spare + 1
  | .agg parts => uptoBulkAll parts + 1
  | .iface _ d => uptoBulk d + 1
  | .map entries => uptoBulkEntries entries + 1
  | .held _ => 1
def uptoBulkAll {H : Type} : List (DataW H) → Nat
  | [] => 0
  | d :: r => uptoBulk d + uptoBulkAll r
def uptoBulkEntries {H : Type} : List (Lit × DataW H) → Nat
  | [] => 0
  | x :: r => uptoBulkEntry x + uptoBulkEntries r
def uptoBulkEntry {H : Type} : Lit × DataW H → Nat
  | (.string bytes, d) => bytes.length + uptoBulk d + 1
  | (_, d) => uptoBulk d + 1
 end
def uptoSmall : (H : Type) → List (DataW H) → Bool := fun _ ds => decide (uptoBulkAll ds ≤ 1048576)
def OpenSpec.upto (s : _root_.Go.ChangeSpec) : _root_.Go.OpenSpec := { _root_.Go.OpenSpec.ofChange s with cond := some uptoSmall }

/-- 'laws.FnLows', WHERE WHAT IT READS IS OF BULK AT MOST 1048576: true; the input reads as it did. -/
def fnLowsUptoRow : OpenClaim := { program := "ytmelnpimoiipgaa", sum := "2478dc1cfc5e6d5d1d42d8ac17d89c2ee2bf2ca1856beab31f998b6167e50606", func := "loop.example/g03326/laws.FnLows", spec := "fnLows", unfollowed := true, recurses := true, apart := false, narrowed := true }
def FnLowsUptoSaid : Prop := fnLowsUptoRow.holds Try.pinned (OpenSpec.upto fnLowsSpec)

/-- 'laws.FnCutJoined', WHERE WHAT IT READS IS OF BULK AT MOST 1048576: true; the input reads as it did. -/
def fnCutJoinedUptoRow : OpenClaim := { program := "ytmelnpimoiipgaa", sum := "2478dc1cfc5e6d5d1d42d8ac17d89c2ee2bf2ca1856beab31f998b6167e50606", func := "loop.example/g03326/laws.FnCutJoined", spec := "fnCutJoined", unfollowed := true, recurses := true, apart := false, narrowed := true }
def FnCutJoinedUptoSaid : Prop := fnCutJoinedUptoRow.holds Try.pinned (OpenSpec.upto fnCutJoinedSpec)

/-- 'laws.FnErased', WHERE WHAT IT READS IS OF BULK AT MOST 1048576: true; the input reads as it did. -/
def fnErasedUptoRow : OpenClaim := { program := "ytmelnpimoiipgaa", sum := "2478dc1cfc5e6d5d1d42d8ac17d89c2ee2bf2ca1856beab31f998b6167e50606", func := "loop.example/g03326/laws.FnErased", spec := "fnErased", apart := false, narrowed := true }
def FnErasedUptoSaid : Prop := fnErasedUptoRow.holds Try.pinned (OpenSpec.upto fnErasedSpec)

/-- 'laws.FnLevelled', WHERE WHAT IT READS IS OF BULK AT MOST 1048576: true; the input reads as it did. -/
def fnLevelledUptoRow : OpenClaim := { program := "ytmelnpimoiipgaa", sum := "2478dc1cfc5e6d5d1d42d8ac17d89c2ee2bf2ca1856beab31f998b6167e50606", func := "loop.example/g03326/laws.FnLevelled", spec := "fnLevelled", unfollowed := true, recurses := true, apart := false, narrowed := true }
def FnLevelledUptoSaid : Prop := fnLevelledUptoRow.holds Try.pinned (OpenSpec.upto fnLevelledSpec)

/-- 'laws.FnExactLows', WHERE WHAT IT READS IS OF BULK AT MOST 1048576: true; the input reads as it did. -/
def fnExactLowsUptoRow : OpenClaim := { program := "ytmelnpimoiipgaa", sum := "2478dc1cfc5e6d5d1d42d8ac17d89c2ee2bf2ca1856beab31f998b6167e50606", func := "loop.example/g03326/laws.FnExactLows", spec := "fnExactLows", unfollowed := true, recurses := true, apart := false, narrowed := true }
def FnExactLowsUptoSaid : Prop := fnExactLowsUptoRow.holds Try.pinned (OpenSpec.upto fnExactLowsSpec)

/-- 'laws.FnExactStarts', WHERE WHAT IT READS IS OF BULK AT MOST 1048576: true; the input reads as it did. -/
def fnExactStartsUptoRow : OpenClaim := { program := "ytmelnpimoiipgaa", sum := "2478dc1cfc5e6d5d1d42d8ac17d89c2ee2bf2ca1856beab31f998b6167e50606", func := "loop.example/g03326/laws.FnExactStarts", spec := "fnExactStarts", unfollowed := true, recurses := true, apart := false, narrowed := true }
def FnExactStartsUptoSaid : Prop := fnExactStartsUptoRow.holds Try.pinned (OpenSpec.upto fnExactStartsSpec)

/-- 'laws.FnExactCutLines', WHERE WHAT IT READS IS OF BULK AT MOST 1048576: true; the input reads as it did. -/
def fnExactCutLinesUptoRow : OpenClaim := { program := "ytmelnpimoiipgaa", sum := "2478dc1cfc5e6d5d1d42d8ac17d89c2ee2bf2ca1856beab31f998b6167e50606", func := "loop.example/g03326/laws.FnExactCutLines", spec := "fnExactCutLines", apart := false, narrowed := true }
def FnExactCutLinesUptoSaid : Prop := fnExactCutLinesUptoRow.holds Try.pinned (OpenSpec.upto fnExactCutLinesSpec)

/-- 'laws.FnExactErase', WHERE WHAT IT READS IS OF BULK AT MOST 1048576: true; the input reads as it did. -/
def fnExactEraseUptoRow : OpenClaim := { program := "ytmelnpimoiipgaa", sum := "2478dc1cfc5e6d5d1d42d8ac17d89c2ee2bf2ca1856beab31f998b6167e50606", func := "loop.example/g03326/laws.FnExactErase", spec := "fnExactErase", apart := false, narrowed := true }
def FnExactEraseUptoSaid : Prop := fnExactEraseUptoRow.holds Try.pinned (OpenSpec.upto fnExactEraseSpec)

/-- 'laws.FnExactLevels', WHERE WHAT IT READS IS OF BULK AT MOST 1048576: true; the input reads as it did. -/
def fnExactLevelsUptoRow : OpenClaim := { program := "ytmelnpimoiipgaa", sum := "2478dc1cfc5e6d5d1d42d8ac17d89c2ee2bf2ca1856beab31f998b6167e50606", func := "loop.example/g03326/laws.FnExactLevels", spec := "fnExactLevels", apart := false, narrowed := true }
def FnExactLevelsUptoSaid : Prop := fnExactLevelsUptoRow.holds Try.pinned (OpenSpec.upto fnExactLevelsSpec)

/-- 'laws.FnExactToLevel', WHERE WHAT IT READS IS OF BULK AT MOST 1048576: true; the input reads as it did. -/
def fnExactToLevelUptoRow : OpenClaim := { program := "ytmelnpimoiipgaa", sum := "2478dc1cfc5e6d5d1d42d8ac17d89c2ee2bf2ca1856beab31f998b6167e50606", func := "loop.example/g03326/laws.FnExactToLevel", spec := "fnExactToLevel", unfollowed := true, recurses := true, apart := false, narrowed := true }
def FnExactToLevelUptoSaid : Prop := fnExactToLevelUptoRow.holds Try.pinned (OpenSpec.upto fnExactToLevelSpec)

end Rows
end Go.Proofs.Ytmelnpimoiipgaa
