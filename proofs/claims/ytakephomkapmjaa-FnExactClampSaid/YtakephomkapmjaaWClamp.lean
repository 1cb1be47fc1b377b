/-
  What is proved: the walk of the law FnExactClamp: it returns true at any three numbers.
  Conditions: the arguments are numbers of 64 bits.
-/
import Derived.Test.YtakephomkapmjaaRows
import Derived.WalkKit
import Derived.WalkSpells
import Derived.WalkLawsBesides
namespace Go.Proofs.Ytakephomkapmjaa
open Go.RowKit
set_option maxHeartbeats 400000 in
theorem walk_FnExactClamp (a b c : Int) (w : World) (_wa : (Lit.int .i64 a).wf = true) (_wb : (Lit.int .i64 b).wf = true) (_wc : (Lit.int .i64 c).wf = true) :
    Calls Try.prog 8 #[.int .i64 a, .int .i64 b, .int .i64 c] w fun e w' => e = .returned (.bool true) ∧ Below w.heap.size w w' := by
  go_enter Try.func8, Try.ntmps8
  go_wp2
  all_goals go_ret
  all_goals exact ⟨rfl, Below.refl _ _⟩
end Go.Proofs.Ytakephomkapmjaa
