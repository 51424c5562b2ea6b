/-
  A part of the proofs over this seat.
  (The texts KsRow2, one behind the other.)
-/
import Derived.Test.YtapkbaihdcabnaaRw
set_option linter.unusedSimpArgs false
set_option linter.unusedVariables false
set_option linter.unusedSectionVars false
section
namespace Go.Proofs.Ytapkbaihdcabnaa
open Go Go.ChangeShapes Go.WideShapes Go.ChangeAt Go.WideMaps Go.WideElems Go.RowKit Go.Ab
set_option maxRecDepth 100000
theorem reps_of {es : List AV} (h : ∀ e ∈ es, ∃ cs, Cel reportTy cs ∧ e = mkA reportTy cs) : ∃ l : List T.Rp, AV.sl es .unk = T.encRs l := by
  obtain ⟨l, rfl⟩ := list_of (f := T.encR) (fun cs h => report_of0 h) h
  exact ⟨l, rfl⟩
theorem ty23 : tyOf Try.prog 12 23 = some (.slice reportTy) := by kernel_rfl
theorem u23 : Try.prog.underlying 23 = some (.slice 52) := by kernel_rfl
end Go.Proofs.Ytapkbaihdcabnaa
end
