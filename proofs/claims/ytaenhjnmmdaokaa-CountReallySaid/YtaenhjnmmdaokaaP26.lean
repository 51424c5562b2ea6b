/-
  A part of the proofs over this seat.
  (The texts KcK35, one behind the other.)
-/
import Derived.Test.YtaenhjnmmdaokaaP25
import Derived.Test.YtaenhjnmmdaokaaP18
import Derived.Test.YtaenhjnmmdaokaaP8
set_option linter.unusedSimpArgs false
set_option linter.unusedVariables false
set_option linter.unusedSectionVars false
section
namespace Go.Ab.T
set_option maxRecDepth 8000
set_option maxHeartbeats 1000000
theorem CountReally_ok (v : Ev) (till sh : Int) : RV ft 11 [encE v, I64 till, I64 sh] (.bool true) := by
  refine RV_of ft11 rfl ?_
  simp only [c11, r11]
  cases hf : farB v
  rotate_left
  · simp only [go_sem, Nat.reduceEqDiff, Nat.reduceAdd, Nat.reduceLT, Nat.reduceLeDiff, reduceIte, WB30, WVH_eq (Far_ok v), true_and, hf, WB13, WVH_eq works_ok]
  have hS := SE.of_far hf
  have hF := Few.of_far hf
  have hw : ∀ v : Ev, writeCells (.agg [.sl [] .tight, .sl [] .tight, .sl [] .tight, .sl [] .tight]) 0 [encIs v.pr, encIs v.se, encIs v.st, encCs v.cs] = some (encE v) := fun _ => rfl
  have eA : ∀ v : Ev, (encE v).isAgg = true := fun _ => rfl
  have sC : ∀ a b : Int, (encS a b).cells = [I64 a, I64 b] := fun _ _ => rfl
  have sA : ∀ a b : Int, (encS a b).isAgg = true := fun _ _ => rfl
  have sE : ∀ a b : Int, AV.agg [I64 a, I64 b] = encS a b := fun _ _ => rfl
  have sw : ∀ a b c d : Int, writeCells (encS a b) 0 [I64 c, I64 d] = some (encS c d) := fun _ _ _ _ => rfl
  have hE : ∀ a b : Int, eqAV true [.i, .i] (encS a b) (encS a b) = some true := fun a b => by
    simp [eqAV, encS, eqs, eq1]
  by_cases he : errT v 0 0 = 0
  rotate_left
  · simp only [go_sem, Nat.reduceEqDiff, Nat.reduceAdd, Nat.reduceLT, Nat.reduceLeDiff, reduceIte, WB30, WVH_eq (Far_ok v), true_and, hf, WB28, WVH_eq (Copy_ok hF), ECells, EEta, eA, hw, WB16, WVH_eq (Really_ok hS till sh), WB40, WVH_eq (ReallyR_ok hf till sh), WB24, WVH_eq (Missing_ok hS till), WB41, WVH_eq (MissingR_ok hf till), sC, sA, sE, sw, hE, bne_self_eq_false, WB27, WVH_eq (Explain_no hS he), WB42, WVH_eq (CheckTruthR_ok hf), bne_iff_ne.2 he, List.length_nil, Int.natCast_zero, show decide ((0 : Int) < 0) = false from rfl, WB13, WVH_eq works_ok, Bool.not_true, Bool.not_false, Bool.false_eq_true]
  obtain ⟨h, _, _, ht⟩ := errT0 he
  obtain ⟨ls, ⟨hT, hfl⟩, hEx⟩ := Explain_ok h ht
  have hFe := FewestR_ok hf
  have hCh := CheckTruthR_ok hf
  rw [he] at hCh
  rw [he, if_pos rfl] at hFe
  have hIs : RV ft 18 [encE v, encIss ls] (.bool true) := by have := IsTruth_ok h ls; rwa [(isTrB_iff h).2 hT] at this
  have hAl := All_ok h hT
  rw [hfl] at hAl
  simp only [go_sem, Nat.reduceEqDiff, Nat.reduceAdd, Nat.reduceLT, Nat.reduceLeDiff, reduceIte, WB30, WVH_eq (Far_ok v), true_and, hf, WB28, WVH_eq (Copy_ok hF), ECells, EEta, eA, hw, WB16, WVH_eq (Really_ok hS till sh), WB40, WVH_eq (ReallyR_ok hf till sh), WB24, WVH_eq (Missing_ok hS till), WB41, WVH_eq (MissingR_ok hf till), sC, sA, sE, sw, hE, bne_self_eq_false, WB27, WVH_eq hEx, WB42, WVH_eq hCh, WB37, WVH_eq hFe, WB18, WVH_eq hIs, WB20, WVH_eq hAl, WB13, WVH_eq works_ok, Bool.not_true, Bool.not_false, Bool.false_eq_true]
end Go.Ab.T
end
