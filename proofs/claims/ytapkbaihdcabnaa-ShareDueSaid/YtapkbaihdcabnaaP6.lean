/-
  A part of the proofs over this seat.
  (The texts KsK13, one behind the other.)
-/
import Derived.Test.YtapkbaihdcabnaaP5
set_option linter.unusedSimpArgs false
set_option linter.unusedVariables false
set_option linter.unusedSectionVars false
section
namespace Go.Ab.T
set_option maxRecDepth 8000
set_option maxHeartbeats 4000000
theorem ShareDue_run (b : Bk) (x : Ak) : RV ft 8 [encB b, encX x] (.bool true) := by
  refine RV_of ft8 rfl ?_
  simp only [c8, r8]
  have hV := valid_ok b x.f x.w x.s
  cases hv : validM b x.f x.w
  case false =>
    rw [hv] at hV
    simp only [go_sem, Nat.reduceEqDiff, Nat.reduceAdd, Nat.reduceLT, Nat.reduceLeDiff, reduceIte, WB20, WVH_eq hV, true_and, WB16, WVH_eq works_ok]
  rw [hv] at hV
  obtain ⟨h1, h0, c, hs, i0, i1⟩ := validM_iff hv
  have hF := farM_NF h1
  have hb := chk_BV h0
  have hc := hb.cv c (findC_mem hs).1
  have a0 := hc.a0
  have a1 := hc.a1
  have a2 := hc.a2
  have hf := Contract_ok b x.f hF.c
  rw [hs] at hf
  have hW := Week_ok b hF x.f x.w
  rw [weekM_some h0 hs i0 i1] at hW
  have hD := Due_ok b hF x.f x.w
  rw [dueMM_some h0 hs (by omega) (by omega)] at hD
  have hE := Due_ok b hF x.f 99
  rw [dueMM_some h0 hs (by omega) (by omega)] at hE
  have bW := acc_bound hb hc x.w
  have bB := dueM_bound hb hc (x.w - 1)
  have z : ((0 : Int) != 0) = false := rfl
  have z2 : ((0 : Int) == 0) = true := rfl
  have main : dueM b c (x.w - 1) ≤ dueM b c x.w ∧ (x.w = c.fi → dueM b c (x.w - 1) = 0) ∧ (x.w < c.la → dueM b c x.w = dueM b c (x.w - 1) + (acc b c x.w).sh) ∧ (¬x.w < c.la → dueM b c x.w = max (dueM b c (x.w - 1) + (acc b c x.w).sh) c.gu ∧ dueM b c 99 = dueM b c x.w) := by
    have p1 : x.w < c.la → dueM b c x.w = dueM b c (x.w - 1) + (acc b c x.w).sh := fun h => due_step i0 h
    have p2 : ¬x.w < c.la → dueM b c x.w = max (dueM b c (x.w - 1) + (acc b c x.w).sh) c.gu ∧ dueM b c 99 = dueM b c x.w := fun h => by
      have e : x.w = c.la := by omega
      rw [e]
      exact ⟨due_last hc.a1, due_end (by omega)⟩
    refine ⟨?_, fun h => by rw [h]; exact due_first hc.a1, p1, p2⟩
    by_cases h : x.w < c.la
    · have := p1 h; omega
    · have := (p2 h).1; omega
  obtain ⟨m1, m2, m3, m4⟩ := main
  generalize hB : dueM b c (x.w - 1) = B at m1 m2 m3 m4 bB
  generalize hA : dueM b c x.w = A at m1 m3 m4 hD
  have w1 : IntKind.i64.wrap (B + (acc b c x.w).sh) = B + (acc b c x.w).sh := wrap_i64 _ (by omega) (by omega)
  have w0 : IntKind.i64.wrap (x.w - 1) = x.w - 1 := wrap_i64 _ (by omega) (by omega)
  have c1 : decide (A < B) = false := decide_eq_false (by omega)
  have hBq : x.w > 0 → RV ft 23 [encB b, I64 x.f, I64 (x.w - 1)] (.tup [I64 B, I64 0]) := fun h => by
    have := Due_ok b hF x.f (x.w - 1)
    rw [dueMM_some h0 hs (by omega) (by omega), hB] at this
    exact this
  have hB0 : ¬x.w > 0 → B = 0 := fun h => by
    have e : x.w = c.fi := by omega
    exact m2 e
  generalize dueM b c 99 = D99 at m4 hE
  have fshare : fldAt (encA (acc b c x.w)) 3 none = some (I64 (acc b c x.w).sh) := rfl
  cases e4 : decide (x.w < c.la)
  case' true => have q : (A == B + (acc b c x.w).sh) = true := beq_iff_eq.2 (m3 (of_decide_eq_true e4))
  case' false => obtain ⟨m6, m5⟩ := m4 (of_decide_eq_false e4)
  case' false => subst m5
  case' false => have q : (D99 == max (B + (acc b c x.w).sh) c.gu) = true := beq_iff_eq.2 m6
  all_goals
    cases e1 : decide (0 < x.w)
    case' true => have hBp := hBq (of_decide_eq_true e1)
    case' false => have hBz := hB0 (of_decide_eq_false e1)
    case' false => subst hBz
  all_goals cases e2 : (x.w == c.fi)
  all_goals try (have e3 := m2 (by simpa using e2); subst e3)
  all_goals first
    | simp only [go_sem, Nat.reduceEqDiff, Nat.reduceAdd, Nat.reduceLT, Nat.reduceLeDiff, reduceIte, WB20, WVH_eq hV, true_and, WB21, WVH_eq hf, Option.getD, Option.isSome, WB19, WVH_eq hW, WB23, WVH_eq hD, WVH_eq hE, z, z2, e1, c1, e2, w1, WB16, WVH_eq works_ok, e4, q, WVH_eq hBp, w0]
    | simp only [go_sem, Nat.reduceEqDiff, Nat.reduceAdd, Nat.reduceLT, Nat.reduceLeDiff, reduceIte, WB20, WVH_eq hV, true_and, WB21, WVH_eq hf, Option.getD, Option.isSome, WB19, WVH_eq hW, WB23, WVH_eq hD, WVH_eq hE, z, z2, e1, c1, e2, w1, WB16, WVH_eq works_ok, e4, q]
end Go.Ab.T
end
