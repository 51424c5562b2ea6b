/-
  A part of the proofs over this seat.
  (The texts KsK14, one behind the other.)
-/
import Derived.Test.YtapkbaihdcabnaaP5
set_option linter.unusedSimpArgs false
set_option linter.unusedVariables false
set_option linter.unusedSectionVars false
section
namespace Go.Ab.T
set_option maxRecDepth 8000
set_option maxHeartbeats 4000000
theorem totG_snoc (b : Bk) (w : Int) (a : Ac) (l : List Ct) (c : Ct) : totG b w a (l ++ [c]) = totS b w (totG b w a l) c := by
  unfold totG; rw [List.foldl_append]; rfl
theorem ShareCents_run (b : Bk) (w : Int) : RV ft 3 [encB b, I64 w] (.bool true) := by
  refine RV_of ft3 rfl ?_
  simp only [c3, r3]
  cases h1 : farM b
  case true => simp only [go_sem, Nat.reduceEqDiff, Nat.reduceAdd, Nat.reduceLT, Nat.reduceLeDiff, reduceIte, WB14, WVH_eq (Far_ok b), true_and, h1, WB16, WVH_eq works_ok]
  have hF := farM_NF h1
  by_cases h0 : chk b = 0
  case neg => simp only [go_sem, Nat.reduceEqDiff, Nat.reduceAdd, Nat.reduceLT, Nat.reduceLeDiff, reduceIte, WB14, WVH_eq (Far_ok b), true_and, h1, WB15, WVH_eq (CheckR_ok b hF), ne0 h0, WB16, WVH_eq works_ok]
  have hC := CheckR_ok b hF
  rw [h0] at hC
  have z : ((0 : Int) != 0) = false := rfl
  cases c1 : decide (w < 0)
  case true => simp only [go_sem, Nat.reduceEqDiff, Nat.reduceAdd, Nat.reduceLT, Nat.reduceLeDiff, reduceIte, WB14, WVH_eq (Far_ok b), true_and, h1, WB15, WVH_eq hC, z, c1, WB16, WVH_eq works_ok]
  cases c2 : decide (99 < w)
  case true => simp only [go_sem, Nat.reduceEqDiff, Nat.reduceAdd, Nat.reduceLT, Nat.reduceLeDiff, reduceIte, WB14, WVH_eq (Far_ok b), true_and, h1, WB15, WVH_eq hC, z, c1, c2, WB16, WVH_eq works_ok]
  have k1 := of_decide_eq_false c1
  have k2 := of_decide_eq_false c2
  have hb := chk_BV h0
  have cl := hb.cl
  have hT := Total_ok b hF w
  rw [totMM_some h0 (by omega) (by omega)] at hT
  have tB : AcB (totM b w) 1000000000 := (totG_AcB hb w b.cs (fun c h => hb.cv c h) zA_AcB).mono (by omega)
  have tbal := totG_bal hb (fun c hc w => acc_bal hb hc w) w b.cs (a := zA) (fun c h => hb.cv c h) rfl rfl
  have tru : (totM b w).ru = 0 := totG_ru w b.cs rfl
  have hbal := balanced_ok (totM b w) tB (by omega) tbal.1 tbal.2
  have hru : ((totM b w).ru != 0) = false := by rw [tru]; rfl
  simp only [go_sem, Nat.reduceEqDiff, Nat.reduceAdd, Nat.reduceLT, Nat.reduceLeDiff, reduceIte, WB14, WVH_eq (Far_ok b), true_and, h1, WB15, WVH_eq hC, z, c1, c2, WB17, WVH_eq hT, WB18, WVH_eq hbal, hru]
  refine WL_inv (α := Nat × List Ct × Ac) (fun q e mm => e 1 = I64 w ∧ e 2 = .ptr 0 0 0 ∧ e 5 = .ptr 1 0 0 ∧ e 7 = .ptr 2 0 0 ∧ e 8 = I64 q.1 ∧ b.cs.drop q.1 = q.2.1 ∧ totG b w q.2.2 q.2.1 = totM b w ∧ q.2.2.ru = 0 ∧ AcB q.2.2 (q.1 * 100000000) ∧ ∃ bl tk, mm = ⟨.live [encB b] 3 :: .live [encA (totM b w)] 6 :: .live [encA q.2.2] 6 :: bl, tk⟩) (fun q => q.2.1.length) (0, b.cs, zA) ?_ ?_
  · simp only [go_sem, Nat.reduceEqDiff, Nat.reduceAdd, Nat.reduceLT, Nat.reduceLeDiff, reduceIte]
    exact ⟨trivial, trivial, trivial, trivial, rfl, trivial, rfl, rfl, zA_AcB, _, _, rfl⟩
  rintro ⟨k, r, a⟩ e m ⟨g1, g2, g5, g7, g8, hd, hq, har, hA, bl, tk, rfl⟩
  dsimp only at g8 hd hq hA har
  cases r with
  | nil =>
    have h3 := drop_nil hd
    have hq : a = totM b w := hq
    subst hq
    simp only [go_sem, Nat.reduceEqDiff, Nat.reduceAdd, Nat.reduceLT, Nat.reduceLeDiff, reduceIte, g1, g2, g5, g7, g8, dec_ge h3, eqA_self, Bool.false_eq_true, if_false, WB16, WVH_eq works_ok, true_and]
  | cons x r =>
    obtain ⟨hk, hd2, hlt⟩ := drop_cons hd
    have hm := List.mem_of_getElem? hk
    have hc := hb.cv x hm
    have hfx := hb.find hm
    rw [totG_cons] at hq
    have hA2 := totS_AcB hb hc w hA
    have hW := Week_ok b hF x.film w
    cases hx : inR w x.fi x.la
    · have e1 : totS b w a x = a := by unfold totS; rw [hx]; rfl
      rw [e1] at hq hA2
      have hwm : weekM b x.film w = (zA, 1) := by unfold weekM; rw [if_pos h0, hfx]; dsimp only; rw [hx]; rfl
      rw [hwm] at hW
      cases d1 : decide (w < x.fi)
      · have d2 : decide (x.la < w) = true := by
          have := of_decide_eq_false d1
          refine decide_eq_true (Int.not_le.1 fun h => ?_)
          have := inR_iff.2 ⟨Int.not_lt.1 this, h⟩
          rw [hx] at this; cases this
        simp only [go_sem, Nat.reduceEqDiff, Nat.reduceAdd, Nat.reduceLT, Nat.reduceLeDiff, reduceIte, g1, g2, g5, g7, g8, dec_lt hlt, Cs_idx hk, WB19, WVH_eq hW, true_and, d1, d2, show ((1 : Int) != 1) = false from rfl, wrap_n1 k (by omega)]
        refine Nx_of (k + 1, r, a) (by simp) ?_
        simp only [go_sem, Nat.reduceEqDiff, Nat.reduceAdd, Nat.reduceLT, Nat.reduceLeDiff, reduceIte, g1, g2, g5, g7]
        exact ⟨trivial, trivial, trivial, trivial, trivial, hd2, hq, har, hA2.mono (by omega), _, _, rfl⟩
      · simp only [go_sem, Nat.reduceEqDiff, Nat.reduceAdd, Nat.reduceLT, Nat.reduceLeDiff, reduceIte, g1, g2, g5, g7, g8, dec_lt hlt, Cs_idx hk, WB19, WVH_eq hW, true_and, d1, show ((1 : Int) != 1) = false from rfl, wrap_n1 k (by omega)]
        refine Nx_of (k + 1, r, a) (by simp) ?_
        simp only [go_sem, Nat.reduceEqDiff, Nat.reduceAdd, Nat.reduceLT, Nat.reduceLeDiff, reduceIte, g1, g2, g5, g7]
        exact ⟨trivial, trivial, trivial, trivial, trivial, hd2, hq, har, hA2.mono (by omega), _, _, rfl⟩
    · have e1 : totS b w a x = tog a (acc b x w) := by unfold totS; rw [hx]; rfl
      rw [e1] at hq hA2
      obtain ⟨i0, i1⟩ := inR_iff.1 hx
      rw [weekM_some h0 hfx i0 i1] at hW
      have hB := (acc_AcB hb hc w).mono (show (100000000 : Int) ≤ 1000000000 by omega)
      have hbl := acc_bal hb hc w
      have hA' := hA.mono (show (k : Int) * 100000000 ≤ 1000000000 by omega)
      have d1 : decide (w < x.fi) = false := decide_eq_false (by omega)
      have d2 : decide (x.la < w) = false := decide_eq_false (by omega)
      generalize acc b x w = c at hq hA2 hB hW hbl
      have hbal := balanced_ok c hB (by omega) hbl.1 hbl.2
      simp only [go_sem, Nat.reduceEqDiff, Nat.reduceAdd, Nat.reduceLT, Nat.reduceLeDiff, reduceIte, g1, g2, g5, g7, g8, dec_lt hlt, Cs_idx hk, WB19, WVH_eq hW, true_and, d1, d2, z, WB18, WVH_eq hbal, wA1, har, aW hA'.g0 hA'.g1 hB.g0 hB.g1 (by omega), aW hA'.t0 hA'.t1 hB.t0 hB.t1 (by omega), aW hA'.n0 hA'.n1 hB.n0 hB.n1 (by omega), aW hA'.s0 hA'.s1 hB.s0 hB.s1 (by omega), aW hA'.h0 hA'.h1 hB.h0 hB.h1 (by omega), wrap_n1 k (by omega)]
      refine Nx_of (k + 1, r, tog a c) (by simp) ?_
      simp only [go_sem, Nat.reduceEqDiff, Nat.reduceAdd, Nat.reduceLT, Nat.reduceLeDiff, reduceIte, g1, g2, g5, g7]
      exact ⟨trivial, trivial, trivial, trivial, trivial, hd2, hq, rfl, hA2.mono (by omega), _, _, rfl⟩
end Go.Ab.T
end
