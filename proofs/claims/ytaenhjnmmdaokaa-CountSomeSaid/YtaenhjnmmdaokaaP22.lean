/-
  A part of the proofs over this seat.
  (The texts KcK33, one behind the other.)
-/
import Derived.Test.YtaenhjnmmdaokaaP18
import Derived.Test.YtaenhjnmmdaokaaP8
set_option linter.unusedSimpArgs false
set_option linter.unusedVariables false
set_option linter.unusedSectionVars false
section
namespace Go.Ab.T
set_option maxRecDepth 8000
set_option maxHeartbeats 1000000
theorem CountSome_ok (v : Ev) : RV ft 5 [encE v] (.bool true) := by
  refine RV_of ft5 rfl ?_
  simp only [c5, r5]
  cases hv : (!farB v && evOK v)
  · simp only [go_sem, Nat.reduceEqDiff, Nat.reduceAdd, Nat.reduceLT, Nat.reduceLeDiff, reduceIte, WB12, WVH_eq (valid_ok v), true_and, hv, Bool.not_false, WB13, WVH_eq works_ok]
  have hv' := hv
  rw [Bool.and_eq_true, Bool.not_eq_true'] at hv'
  have hS := SE.of_far hv'.1
  have h := (EV_of hv'.1 hv'.2).toEV4
  have hk3 := h.k3
  have hn4 := h.n4
  have hn1 := h.n1
  have hsl := h.sl
  have hFe := Fewest_ok hS
  have hss : v.se.sum = (toV v.se).sum := toV_sum (by omega)
  simp only [go_sem, Nat.reduceEqDiff, Nat.reduceAdd, Nat.reduceLT, Nat.reduceLeDiff, reduceIte, WB12, WVH_eq (valid_ok v), true_and, hv, Bool.not_true]
  refine WL_inv (α := Nat × List Ctr × Int) (fun q e mm => e 1 = .ptr 0 0 0 ∧ e 3 = I64 q.2.2 ∧ e 4 = I64 0 ∧ e 5 = I64 q.1 ∧ v.cs.drop q.1 = q.2.1 ∧ q.2.2 + rolls q.2.1 = rolls v.cs ∧ (0 ≤ q.2.2 ∧ q.2.2 ≤ 20 * (q.1 : Int)) ∧ mm = ⟨[.live [encE v] 4], []⟩) (fun q => q.2.1.length) (0, v.cs, 0) ?_ ?_
  · simp only [go_sem, Nat.reduceEqDiff, Nat.reduceAdd, Nat.reduceLT, Nat.reduceLeDiff, reduceIte]
    ((repeat' apply And.intro) <;> first | trivial | rfl | assumption | omega | (exact Int.zero_add _))
  rintro ⟨k, r, n⟩ e m ⟨g1, g3, g4, g5, hd, hq, hn, rfl⟩
  dsimp only at g3 g5 hd hq hn
  cases r with
  | cons c r =>
    obtain ⟨hk, hd2, hlt⟩ := drop_cons hd
    have hco := h.cs c (List.mem_of_getElem? hk)
    have hro := hco.ro
    simp only [rolls] at hq
    simp only [go_sem, Nat.reduceEqDiff, Nat.reduceAdd, Nat.reduceLT, Nat.reduceLeDiff, reduceIte, g1, g3, g4, g5, ECells, dec_lt hlt, Cs_idx hk, CCells, CEta, WB26, WVH_eq (Roll_ok hco.s), true_and, wrap_i64 (n + roll c) (by omega) (by omega), wrap_n1 k (by omega)]
    refine Nx_of (k + 1, r, n + roll c) (by simp) ?_
    simp only [go_sem, Nat.reduceEqDiff, Nat.reduceAdd, Nat.reduceLT, Nat.reduceLeDiff, reduceIte, g1, g4]
    ((repeat' apply And.intro) <;> first | trivial | rfl | assumption | omega | (exact hd2) | ((simp only [Int.natCast_add]; omega)))
  | nil =>
    have h3 := drop_nil hd
    simp only [rolls, Int.add_zero] at hq
    subst hq
    simp only [go_sem, Nat.reduceEqDiff, Nat.reduceAdd, Nat.reduceLT, Nat.reduceLeDiff, reduceIte, g1, g3, g4, g5, ECells, dec_ge h3]
    refine WL_inv (α := Nat × List Int × Int) (fun q e mm => e 1 = .ptr 0 0 0 ∧ e 3 = I64 (rolls v.cs) ∧ e 4 = I64 q.2.2 ∧ e 6 = I64 q.1 ∧ v.se.drop q.1 = q.2.1 ∧ q.2.2 + q.2.1.sum = v.se.sum ∧ (0 ≤ q.2.2 ∧ q.2.2 ≤ 80 * (q.1 : Int)) ∧ mm = ⟨[.live [encE v] 4], []⟩) (fun q => q.2.1.length) (0, v.se, 0) ?_ ?_
    · simp only [go_sem, Nat.reduceEqDiff, Nat.reduceAdd, Nat.reduceLT, Nat.reduceLeDiff, reduceIte, g1, g3, g4]
      ((repeat' apply And.intro) <;> first | trivial | rfl | assumption | omega | (exact Int.zero_add _))
    clear g1 g3 g4 g5
    rintro ⟨i, r', n⟩ e m ⟨g1, g3, g4, g6, fd, fq, hn', rfl⟩
    dsimp only at g4 g6 fd fq hn'
    cases r' with
    | cons x r' =>
      obtain ⟨hki, fd2, hlti⟩ := drop_cons fd
      have hx := h.se x (List.mem_of_getElem? hki)
      rw [List.sum_cons] at fq
      simp only [go_sem, Nat.reduceEqDiff, Nat.reduceAdd, Nat.reduceLT, Nat.reduceLeDiff, reduceIte, g1, g3, g4, g6, ECells, dec_lt hlti, Is_idx hki, wrap_i64 (n + x) (by omega) (by omega), wrap_n1 i (by omega)]
      refine Nx_of (i + 1, r', n + x) (by simp) ?_
      simp only [go_sem, Nat.reduceEqDiff, Nat.reduceAdd, Nat.reduceLT, Nat.reduceLeDiff, reduceIte, g1, g3]
      ((repeat' apply And.intro) <;> first | trivial | rfl | assumption | omega | (exact fd2) | ((simp only [Int.natCast_add]; omega)))
    | nil =>
      have h4 := drop_nil fd
      rw [List.sum_nil, Int.add_zero] at fq
      subst fq
      cases ht : hasTr v
      · have e0 : errT v 0 0 = 3 := by
          unfold errT
          rw [if_pos hv'.2, if_pos (by rw [Bool.and_eq_true, inR_iff, inR_iff]; have := h.k1; omega), ht]; rfl
        have z3 : ¬ ((3 : Int) = 0) := by omega
        have hEx := Explain_no hS (by rw [e0]; exact z3)
        rw [e0, if_neg z3] at hFe
        rw [e0] at hEx
        have hb : (rolls v.cs == v.se.sum) = false := by rw [hss]; exact ht
        simp only [go_sem, Nat.reduceEqDiff, Nat.reduceAdd, Nat.reduceLT, Nat.reduceLeDiff, reduceIte, g1, g3, g4, g6, ECells, dec_ge h4, WB15, WVH_eq hFe, true_and, WB27, WVH_eq hEx, show ((3 : Int) == 0) = false from rfl, hb, List.length_nil, Int.natCast_zero, show decide ((0 : Int) < 0) = false from rfl, WB13, WVH_eq works_ok, Bool.false_eq_true]
      · have e0 : errT v 0 0 = 0 := errT00 h ht
        rw [e0, if_pos rfl] at hFe
        obtain ⟨ls, ⟨hT, hf⟩, hEx⟩ := Explain_ok h ht
        have hlen : ls.length = v.cs.length := by have := IsT_len hT.2; rwa [List.length_map] at this
        have hb : (rolls v.cs == v.se.sum) = true := by rw [hss]; exact ht
        simp only [go_sem, Nat.reduceEqDiff, Nat.reduceAdd, Nat.reduceLT, Nat.reduceLeDiff, reduceIte, g1, g3, g4, g6, ECells, dec_ge h4, WB15, WVH_eq hFe, true_and, WB27, WVH_eq hEx, hb, decide_eq_true (show (0 : Int) < (ls.length : Int) by omega), WB13, WVH_eq works_ok, Bool.false_eq_true]
end Go.Ab.T
end
