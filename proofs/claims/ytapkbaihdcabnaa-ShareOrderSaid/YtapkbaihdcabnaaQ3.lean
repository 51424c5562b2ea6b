/-
  A part of the proofs over this seat.
  (The texts KsK20 KsK21 KsK22, one behind the other.)
-/
import Derived.Test.YtapkbaihdcabnaaQ2
import Derived.Test.YtapkbaihdcabnaaP5
set_option linter.unusedSimpArgs false
set_option linter.unusedVariables false
set_option linter.unusedSectionVars false
section
namespace Go.Ab.T
set_option maxRecDepth 8000
set_option maxHeartbeats 4000000
def tokOf : AV → Option Nat
  | .sl _ (.at t) => some t
  | _ => none
/-- Two slices that are appended to apart. -/
def Dis (v o : AV) : Prop := ∀ t, tokOf v = some t → tokOf o = some t → False
theorem Dis.symm {v o : AV} (h : Dis v o) : Dis o v := fun t h1 h2 => h t h2 h1
end Go.Ab.T
end


