/-
  A part of the proofs over this seat.
  (The texts KqRow2, one behind the other.)
-/
import Derived.Test.YtlmhadnbcmjaeaaGreatRw
import Derived.Test.YtlmhadnbcmjaeaaGreatP10
set_option linter.unusedSimpArgs false
set_option linter.unusedVariables false
set_option linter.unusedSectionVars false
section
namespace Go.Proofs.YtlmhadnbcmjaeaaGreat
open Go Go.ChangeShapes Go.WideShapes Go.ChangeAt Go.WideMaps Go.WideElems Go.RowKit Go.Ab
set_option maxRecDepth 100000
def callTy : Ty := .struct [IT, IT, IT, IT, IT]
theorem call_of {cs : List AV} (h : Cel callTy cs) : ∃ x : T.Cl, mkA callTy cs = T.encC x := by
  obtain ⟨_, _, rfl, ⟨a, rfl, _⟩, _, _, rfl, ⟨b, rfl, _⟩, _, _, rfl, ⟨c, rfl, _⟩, _, _, rfl, ⟨d, rfl, _⟩, _, _, rfl, ⟨e, rfl, _⟩, rfl⟩ := h
  exact ⟨⟨a, b, c, d, e⟩, rfl⟩
theorem calls_of {es : List AV} (h : ∀ e ∈ es, ∃ cs, Cel callTy cs ∧ e = mkA callTy cs) : ∃ l : List T.Cl, AV.sl es .unk = T.encCs l := by
  obtain ⟨l, rfl⟩ := list_of (f := T.encC) (fun cs => call_of) h
  exact ⟨l, rfl⟩
def askTy : Ty := .struct [IT, IT, IT]
theorem ask_of {cs : List AV} (h : Cel askTy cs) : ∃ x : T.Ak, AV.agg cs = T.encA x := by
  obtain ⟨_, _, rfl, ⟨a, rfl, _⟩, _, _, rfl, ⟨b, rfl, _⟩, _, _, rfl, ⟨c, rfl, _⟩, rfl⟩ := h
  exact ⟨⟨a, b, c⟩, rfl⟩
theorem ty25 : tyOf Tryz.prog 9 25 = some (.slice callTy) := by kernel_rfl
theorem u25 : Tryz.prog.underlying 25 = some (.slice 57) := by kernel_rfl
theorem ty27 : tyOf Tryz.prog 9 27 = some askTy := by kernel_rfl
theorem u27 : ∃ fs, Tryz.prog.underlying 27 = some (.struct fs) := isSt_of (by kernel_rfl)
end Go.Proofs.YtlmhadnbcmjaeaaGreat
end
