/-
  A part of the proofs over this seat.
  (The texts KhK0, one behind the other.)
-/
import Derived.Test.YtifnocdjhaioaaaT1
import Derived.Test.YtifnocdjhaioaaaA5
import Derived.KernelRfl
set_option linter.unusedSimpArgs false
set_option linter.unusedVariables false
set_option linter.unusedSectionVars false
section
namespace Go.Ab.T
set_option maxRecDepth 100000
theorem works_run : callV (run2 ft 400) 13 [] = some (.bool true) := by kernel_rfl
theorem works_ok : RV ft 13 [] (.bool true) := RV_of_run2 400 works_run
end Go.Ab.T
end
