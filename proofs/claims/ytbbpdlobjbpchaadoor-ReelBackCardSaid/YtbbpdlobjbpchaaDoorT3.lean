/-
  A part of the proofs over this seat.
  (The texts AxWk, one behind the other.)
-/
import Derived.Test.YtbbpdlobjbpchaaDoorT1
import Derived.KernelRfl
set_option linter.unusedSimpArgs false
set_option linter.unusedVariables false
set_option linter.unusedSectionVars false
section
namespace Go.Ab.T
set_option maxRecDepth 100000
theorem works_ok : RV ft 15 [] (.bool true) := ⟨200, by kernel_rfl⟩
end Go.Ab.T
end
