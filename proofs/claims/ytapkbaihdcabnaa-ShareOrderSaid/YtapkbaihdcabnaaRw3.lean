/-
  A part of the proofs over this seat.
  (The texts KsRow3, one behind the other.)
-/
import Derived.Test.YtapkbaihdcabnaaRw
set_option linter.unusedSimpArgs false
set_option linter.unusedVariables false
set_option linter.unusedSectionVars false
section
namespace Go.Proofs.Ytapkbaihdcabnaa
open Go Go.ChangeShapes Go.WideShapes Go.ChangeAt Go.WideMaps Go.WideElems Go.RowKit Go.Ab
set_option maxRecDepth 100000
def turnTy : Ty := .struct [IT, IT]
theorem turn_of {cs : List AV} (h : Cel turnTy cs) : ∃ (a b : Int), AV.agg cs = .agg [I64 a, I64 b] := by
  obtain ⟨_, _, rfl, ⟨a, rfl, _⟩, _, _, rfl, ⟨b, rfl, _⟩, rfl⟩ := h
  exact ⟨a, b, rfl⟩
theorem ty49 : tyOf Try.prog 12 49 = some turnTy := by kernel_rfl
theorem u49 : ∃ fs, Try.prog.underlying 49 = some (.struct fs) := isSt_of (by kernel_rfl)
end Go.Proofs.Ytapkbaihdcabnaa
end
