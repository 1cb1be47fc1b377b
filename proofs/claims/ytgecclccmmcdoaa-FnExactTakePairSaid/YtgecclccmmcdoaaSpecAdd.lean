/-
  What is proved: the walk of the model's AddSamples.
  Conditions: the lists can be read.
-/
import Derived.Test.YtgecclccmmcdoaaPkGEq
import Derived.Deep.AppendLies
import Derived.Deep.RegionHeld3
namespace Go.Proofs.Ytgecclccmmcdoaa
set_option linter.unusedVariables false
open Go.RowKit
attribute [local go_sem] run_store_float run_store_complex unary_negf neg256

end Go.Proofs.Ytgecclccmmcdoaa
