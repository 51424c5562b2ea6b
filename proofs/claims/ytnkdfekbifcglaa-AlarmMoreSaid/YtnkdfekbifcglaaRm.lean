/-
  A part of the proofs over this seat.
  (The texts KrRowM, one behind the other.)
-/
import Derived.Test.YtnkdfekbifcglaaRw
import Derived.Test.YtnkdfekbifcglaaP13
set_option linter.unusedSimpArgs false
set_option linter.unusedVariables false
set_option linter.unusedSectionVars false
section
namespace Go.Proofs.Ytnkdfekbifcglaa
open Go Go.ChangeShapes Go.WideShapes Go.ChangeAt Go.WideMaps Go.WideElems Go.RowKit Go.Ab
set_option maxRecDepth 100000
def moreTy : Ty := .struct [IT, IT, IT, IT, IT, pasTy]
theorem more_of {cs : List AV} (h : Cel moreTy cs) : ∃ x : T.Mr, AV.agg cs = T.encX x := by
  obtain ⟨_, _, rfl, ⟨a, rfl, _⟩, _, _, rfl, ⟨b, rfl, _⟩, _, _, rfl, ⟨c, rfl, _⟩, _, _, rfl, ⟨d, rfl, _⟩, _, _, rfl, ⟨e, rfl, _⟩, _, _, rfl, ⟨_, _, rfl, ⟨f, rfl, _⟩, _, _, rfl, ⟨g, rfl, _⟩, _, _, rfl, ⟨i, rfl, _⟩, _, _, rfl, ⟨j, rfl, _⟩, rfl⟩, rfl⟩ := h
  exact ⟨⟨a, b, c, d, e, ⟨f, g, i, j⟩⟩, rfl⟩
theorem ty59 : tyOf Try.prog 12 59 = some moreTy := by kernel_rfl
theorem u59 : ∃ fs, Try.prog.underlying 59 = some (.struct fs) := isSt_of (by kernel_rfl)
end Go.Proofs.Ytnkdfekbifcglaa
end
