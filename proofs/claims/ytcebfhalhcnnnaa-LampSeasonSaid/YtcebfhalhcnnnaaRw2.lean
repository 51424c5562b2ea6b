/-
  A part of the proofs over this seat.
  (The texts KlRow2, one behind the other.)
-/
import Derived.Test.YtcebfhalhcnnnaaRw
set_option linter.unusedSimpArgs false
set_option linter.unusedVariables false
set_option linter.unusedSectionVars false
section
namespace Go.Proofs.Ytcebfhalhcnnnaa
open Go Go.ChangeShapes Go.WideShapes Go.ChangeAt Go.WideMaps Go.WideElems Go.RowKit Go.Ab
set_option maxRecDepth 100000
def seasonTy : Ty := .struct [IT, .slice IT, .slice IT]
theorem season_of {cs : List AV} (h : Cel seasonTy cs) : ∃ (a : Int) (b c : List Int), AV.agg cs = .agg [I64 a, T.encIs b, T.encIs c] := by
  obtain ⟨_, _, rfl, ⟨a, rfl, _⟩, _, _, rfl, ⟨e1, rfl, _, h1⟩, _, _, rfl, ⟨e2, rfl, _, h2⟩, rfl⟩ := h
  obtain ⟨l1, g1⟩ := ints_of h1
  obtain ⟨l2, g2⟩ := ints_of h2
  exact ⟨a, l1, l2, by show AV.agg [I64 a, .sl e1 .unk, .sl e2 .unk] = _; rw [g1, g2]⟩
theorem ty61 : tyOf Try.prog 12 61 = some seasonTy := by kernel_rfl
theorem u61 : ∃ fs, Try.prog.underlying 61 = some (.struct fs) := isSt_of (by kernel_rfl)
theorem ty33 : tyOf Try.prog 12 33 = some (.slice IT) := by kernel_rfl
theorem u33 : Try.prog.underlying 33 = some (.slice 3) := by kernel_rfl
end Go.Proofs.Ytcebfhalhcnnnaa
end
