/-
  A part of the proofs over this seat.
  (The texts KcK28, one behind the other.)
-/
import Derived.Test.YtaenhjnmmdaokaaP15
import Derived.Test.YtaenhjnmmdaokaaP8
set_option linter.unusedSimpArgs false
set_option linter.unusedVariables false
set_option linter.unusedSectionVars false
section
namespace Go.Ab.T
set_option maxRecDepth 8000
set_option maxHeartbeats 4000000
theorem tillR_len (P : List Ch → Bool) (v : Ev) : (tillR P v).length ≤ v.cs.length := by
  unfold tillR
  split
  · exact tillsM_len P v
  · simp
theorem CountFlaws_ok (v : Ev) : RV ft 10 [encE v] (.bool true) := by
  refine RV_of ft10 rfl ?_
  simp only [c10, r10]
  cases hf : farB v
  rotate_left
  · simp only [go_sem, Nat.reduceEqDiff, Nat.reduceAdd, Nat.reduceLT, Nat.reduceLeDiff, reduceIte, WB30, WVH_eq (Far_ok v), true_and, hf, WB13, WVH_eq works_ok]
  have hS := SE.of_far hf
  have hF := Few.of_far hf
  have hn := hF.n
  have hw : ∀ v : Ev, writeCells (.agg [.sl [] .tight, .sl [] .tight, .sl [] .tight, .sl [] .tight]) 0 [encIs v.pr, encIs v.se, encIs v.st, encCs v.cs] = some (encE v) := fun _ => rfl
  have eA : ∀ v : Ev, (encE v).isAgg = true := fun _ => rfl
  have s1 := sameInts_ok (tillR gP v) (tillR gP v) (by have := tillR_len gP v; omega)
  have s2 := sameInts_ok (tillR sP v) (tillR sP v) (by have := tillR_len sP v; omega)
  rw [decide_eq_true rfl] at s1 s2
  simp only [go_sem, Nat.reduceEqDiff, Nat.reduceAdd, Nat.reduceLT, Nat.reduceLeDiff, reduceIte, WB30, WVH_eq (Far_ok v), true_and, hf, WB28, WVH_eq (Copy_ok hF), ECells, EEta, eA, hw, WB15, WVH_eq (Fewest_ok hS), WB37, WVH_eq (FewestR_ok hf), WB21, WVH_eq (Guilty_ok hS), WB38, WVH_eq (GuiltyR_ok hf), WB17, WVH_eq (Suspects_ok hS), WB39, WVH_eq (SuspectsR_ok hf), WB35, WVH_eq s1, WVH_eq s2, WB36, WVH_eq (same_self hS), WB13, WVH_eq works_ok]
end Go.Ab.T
end
