/-
  A part of the proofs over this seat.
  (The texts KsK15, one behind the other.)
-/
import Derived.Test.YtapkbaihdcabnaaP5
set_option linter.unusedSimpArgs false
set_option linter.unusedVariables false
set_option linter.unusedSectionVars false
section
namespace Go.Ab.T
set_option maxRecDepth 8000
set_option maxHeartbeats 4000000
theorem milG_max (net a : Int) (t : Ti) : (if t.fr ≤ net then max a t.mi else a) = if (t.fr ≤ net ∧ a < t.mi) then t.mi else a := by
  by_cases h1 : t.fr ≤ net
  · by_cases h2 : a < t.mi
    · rw [if_pos h1, if_pos ⟨h1, h2⟩]; omega
    · rw [if_pos h1, if_neg (fun h => h2 h.2)]; omega
  · rw [if_neg h1, if_neg (fun h => h1 h.1)]
/-- Which of three numbers is the greatest, the first of such. -/
def RR (s1 s2 fl M R : Int) : Prop := (R = 1 ∧ s1 = M ∧ s2 ≤ s1 ∧ fl ≤ s1) ∨ (R = 2 ∧ s2 = M ∧ s1 < s2 ∧ fl ≤ s2) ∨ (R = 3 ∧ fl = M ∧ s1 < fl ∧ s2 < fl)
theorem ShareRule_run (b : Bk) (x : Ak) : RV ft 4 [encB b, encX x] (.bool true) := by
  refine RV_of ft4 rfl ?_
  simp only [c4, r4]
  have hV := valid_ok b x.f x.w x.s
  cases hv : validM b x.f x.w
  case false =>
    rw [hv] at hV
    simp only [go_sem, Nat.reduceEqDiff, Nat.reduceAdd, Nat.reduceLT, Nat.reduceLeDiff, reduceIte, WB20, WVH_eq hV, true_and, WB16, WVH_eq works_ok]
  rw [hv] at hV
  obtain ⟨h1, h0, c, hs, i0, i1⟩ := validM_iff hv
  have hF := farM_NF h1
  have hb := chk_BV h0
  have hc := hb.cv c (findC_mem hs).1
  have a0 := hc.a0
  have a1 := hc.a1
  have a2 := hc.a2
  have s0 := hc.s0
  have s1 := hc.s1
  have tl := hc.t1
  have hf := Contract_ok b x.f hF.c
  rw [hs] at hf
  have hW := Week_ok b hF x.f x.w
  rw [weekM_some h0 hs i0 i1] at hW
  have hAc := acc_AcB hb hc x.w
  have hbal := acc_bal hb hc x.w
  have hg := gross_bound hb.rv c.film x.w
  have hn := net_bound hb.x0 hb.x1 hg.1
  obtain ⟨g, hgv⟩ : ∃ g, g = gross b.rs c.film x.w := ⟨_, rfl⟩
  obtain ⟨n, hnv⟩ : ∃ n, n = netOf b.tax g := ⟨_, rfl⟩
  have hacc : acc b c x.w = ⟨g, mlr g b.tax, n, min (most c x.w n) n, n - min (most c x.w n) n, ruleOf c x.w n⟩ := by rw [hnv, hgv]; rfl
  rw [← hgv, ← hnv] at hn
  rw [hacc] at hW hAc hbal
  have hB := balanced_ok _ hAc (by omega) hbal.1 hbal.2
  have z : ((0 : Int) != 0) = false := rfl
  have cN : decide ((1000000000 : Int) < n) = false := decide_eq_false (by omega)
  have w1 : IntKind.i64.wrap (x.w - c.fi) = x.w - c.fi := wrap_i64 _ (by omega) (by omega)
  have w2 : IntKind.i64.wrap ((c.st.length : Int) - 1) = (c.st.length : Int) - 1 := wrap_i64 _ (by omega) (by omega)
  obtain ⟨p0, p1⟩ := step_get hc x.w i0
  -- which step
  have hidx : ∀ j : Int, j = min (x.w - c.fi) ((c.st.length : Int) - 1) → ∀ m, idxAt m (encIs c.st) (I64 j) 1 = some (.pv (I64 (stepOf c x.w)) 0) := fun j hj m => by
    subst hj; exact Is_idxI p0 p1 m
  have hB' : RV ft 18 [AV.agg [I64 g, I64 (mlr g b.tax), I64 n, I64 (min (most c x.w n) n), I64 (n - min (most c x.w n) n), I64 (ruleOf c x.w n)]] (.bool true) := hB
  have hW' : RV ft 19 [encB b, I64 x.f, I64 x.w] (.tup [AV.agg [I64 g, I64 (mlr g b.tax), I64 n, I64 (min (most c x.w n) n), I64 (n - min (most c x.w n) n), I64 (ruleOf c x.w n)], I64 0]) := hW
  have hm := mille_bound hc x.w n
  have u0 := hc.n0
  have u1 := hc.n1
  have l0 := hc.l0
  have l1 := hc.l1
  have b2 := mlr_bound hn.1 hm.1 hm.2
  have b3 := mlr_bound (x := max 0 (n - c.nut)) (by omega) hc.o0 hc.o1
  have w4 : IntKind.i64.wrap (n * mille c x.w n) = n * mille c x.w n := wrap_i64 _ (by omega) (by omega)
  have w5 : IntKind.i64.wrap ((n * mille c x.w n).tdiv 1000) = sh1 c x.w n := by
    show IntKind.i64.wrap (mlr n (mille c x.w n)) = _
    exact wrap_i64 _ (by omega) (by omega)
  have w6 : IntKind.i64.wrap (n - c.nut) = n - c.nut := wrap_i64 _ (by omega) (by omega)
  have kz : decide ((1000 : Int) = 0) = false := rfl
  have s1' := sh1_bound hc (w := x.w) hn.1
  have s2' := sh2_bound hc hn.1
  have hRR : RR (sh1 c x.w n) (sh2 c n) c.fl (most c x.w n) (ruleOf c x.w n) := by
    unfold RR ruleOf
    cases q1 : (most c x.w n == sh1 c x.w n)
    · cases q2 : (most c x.w n == sh2 c n)
      · rw [beq_eq_false_iff_ne] at q1 q2
        unfold most at q1 q2 ⊢
        exact .inr (.inr ⟨rfl, by omega, by omega, by omega⟩)
      · rw [beq_eq_false_iff_ne] at q1
        rw [beq_iff_eq] at q2
        unfold most at q1 q2 ⊢
        exact .inr (.inl ⟨rfl, by omega, by omega, by omega⟩)
    · rw [beq_iff_eq] at q1
      unfold most at q1 ⊢
      exact .inl ⟨rfl, by omega, by omega, by omega⟩
  cases q1 : decide ((c.st.length : Int) ≤ x.w - c.fi)
  case' true => have hi := hidx ((c.st.length : Int) - 1) (by have := of_decide_eq_true q1; omega)
  case' false => have hi := hidx (x.w - c.fi) (by have := of_decide_eq_false q1; omega)
  all_goals
    simp only [go_sem, Nat.reduceEqDiff, Nat.reduceAdd, Nat.reduceLT, Nat.reduceLeDiff, reduceIte, WB20, WVH_eq hV, true_and, WB21, WVH_eq hf, Option.getD, Option.isSome, WB19, WVH_eq hW', z, WB18, WVH_eq hB', cN, w1, w2, q1, hi]
    refine WL_inv (α := Nat × List Ti × Int) (fun q e mm => e 5 = .ptr 2 0 0 ∧ e 7 = .ptr 3 0 0 ∧ e 10 = I64 q.2.2 ∧ e 11 = I64 q.1 ∧ c.ti.drop q.1 = q.2.1 ∧ milG n q.2.2 q.2.1 = mille c x.w n ∧ ∃ b0 b1 tk, mm = ⟨[b0, b1, .live [encC c] 9, .live [AV.agg [I64 g, I64 (mlr g b.tax), I64 n, I64 (min (most c x.w n) n), I64 (n - min (most c x.w n) n), I64 (ruleOf c x.w n)]] 6], tk⟩) (fun q => q.2.1.length) (0, c.ti, stepOf c x.w) ?_ ?_
    · simp only [go_sem, Nat.reduceEqDiff, Nat.reduceAdd, Nat.reduceLT, Nat.reduceLeDiff, reduceIte]
      exact ⟨trivial, trivial, trivial, rfl, trivial, rfl, _, _, _, rfl⟩
    rintro ⟨k, r, v⟩ e m ⟨g5, g7, g10, g11, hd, hq, b0, b1, tk, rfl⟩
    dsimp only at g10 g11 hd hq
    cases r with
    | cons y r =>
      obtain ⟨hk, hd2, hlt⟩ := drop_cons hd
      rw [milG_cons, milG_max] at hq
      cases d1 : decide (y.fr ≤ n)
      · rw [if_neg (fun h => of_decide_eq_false d1 h.1)] at hq
        simp only [go_sem, Nat.reduceEqDiff, Nat.reduceAdd, Nat.reduceLT, Nat.reduceLeDiff, reduceIte, g5, g7, g10, g11, dec_lt hlt, Ts_idx hk, d1, wrap_n1 k (by omega)]
        refine Nx_of (k + 1, r, v) (by simp) ?_
        simp only [go_sem, Nat.reduceEqDiff, Nat.reduceAdd, Nat.reduceLT, Nat.reduceLeDiff, reduceIte, g5, g7, g10]
        exact ⟨trivial, trivial, trivial, trivial, hd2, hq, _, _, _, rfl⟩
      cases d2 : decide (v < y.mi)
      · rw [if_neg (fun h => of_decide_eq_false d2 h.2)] at hq
        simp only [go_sem, Nat.reduceEqDiff, Nat.reduceAdd, Nat.reduceLT, Nat.reduceLeDiff, reduceIte, g5, g7, g10, g11, dec_lt hlt, Ts_idx hk, d1, d2, wrap_n1 k (by omega)]
        refine Nx_of (k + 1, r, v) (by simp) ?_
        simp only [go_sem, Nat.reduceEqDiff, Nat.reduceAdd, Nat.reduceLT, Nat.reduceLeDiff, reduceIte, g5, g7, g10]
        exact ⟨trivial, trivial, trivial, trivial, hd2, hq, _, _, _, rfl⟩
      · rw [if_pos ⟨of_decide_eq_true d1, of_decide_eq_true d2⟩] at hq
        simp only [go_sem, Nat.reduceEqDiff, Nat.reduceAdd, Nat.reduceLT, Nat.reduceLeDiff, reduceIte, g5, g7, g10, g11, dec_lt hlt, Ts_idx hk, d1, d2, wrap_n1 k (by omega)]
        refine Nx_of (k + 1, r, y.mi) (by simp) ?_
        simp only [go_sem, Nat.reduceEqDiff, Nat.reduceAdd, Nat.reduceLT, Nat.reduceLeDiff, reduceIte, g5, g7]
        exact ⟨trivial, trivial, trivial, trivial, hd2, hq, _, _, _, rfl⟩
    | nil =>
    have h3 := drop_nil hd
    have hv : v = mille c x.w n := hq
    subst hv
    simp only [go_sem, Nat.reduceEqDiff, Nat.reduceAdd, Nat.reduceLT, Nat.reduceLeDiff, reduceIte, g5, g7, g10, g11, dec_ge h3, kz, w4, w5, w6]
    cases d3 : decide (c.nut < n)
    case true =>
      have e3 := of_decide_eq_true d3
      have hmx : max 0 (n - c.nut) = n - c.nut := by omega
      rw [hmx] at b3
      have w7 : IntKind.i64.wrap ((n - c.nut) * c.ov) = (n - c.nut) * c.ov := wrap_i64 _ (by omega) (by omega)
      have w8 : IntKind.i64.wrap (((n - c.nut) * c.ov).tdiv 1000) = sh2 c n := by
        unfold sh2
        rw [hmx]
        show IntKind.i64.wrap (mlr (n - c.nut) c.ov) = _
        exact wrap_i64 _ (by omega) (by omega)
      have w9 : ∀ (B0 B1 B2 B3 : Blk) (es : List AV) (tk : List (Nat × Nat)), idxAt ⟨[B0, B1, B2, B3, .live es 1], tk⟩ (.ref 4 0 4) (I64 2) 1 = some (.ptr 4 2 0) := fun _ _ _ _ _ _ => rfl
      simp only [go_sem, Nat.reduceEqDiff, Nat.reduceAdd, Nat.reduceLT, Nat.reduceLeDiff, reduceIte, g5, g7, g10, g11, d3, kz, w6, w7, w8, w9]
      generalize sh1 c x.w n = S1 at hRR s1' ⊢
      generalize sh2 c n = S2 at hRR ⊢
      generalize c.fl = F at hRR ⊢
      generalize most c x.w n = M at hRR ⊢
      generalize ruleOf c x.w n = R at hRR ⊢
      have ix : ∀ (q : Nat) (B0 B1 B2 B3 : Blk) (es : List AV) (tk : List (Nat × Nat)), q < 4 → idxAt ⟨[B0, B1, B2, B3, .live es 1], tk⟩ (.ref 4 0 4) (I64 (q : Int)) 1 = some (.ptr 4 q 0) := fun q B0 B1 B2 B3 es tk hq => by
        rw [idxAt_ref, if_pos ⟨by omega, rfl⟩]; simp
      have hix1 := fun B0 B1 B2 B3 es tk => ix 1 B0 B1 B2 B3 es tk (by omega)
      have hix2 := fun B0 B1 B2 B3 es tk => ix 2 B0 B1 B2 B3 es tk (by omega)
      have hix3 := fun B0 B1 B2 B3 es tk => ix 3 B0 B1 B2 B3 es tk (by omega)
      rw [show ((1 : Nat) : Int) = 1 from rfl] at hix1
      rw [show ((2 : Nat) : Int) = 2 from rfl] at hix2
      rw [show ((3 : Nat) : Int) = 3 from rfl] at hix3
      rcases hRR with ⟨rfl, rfl, o1, o2⟩ | ⟨rfl, rfl, o1, o2⟩ | ⟨rfl, rfl, o1, o2⟩
      · have hmn : (min S1 n != min n S1) = false := by rw [Int.min_comm]; simp
        simp only [go_sem, Nat.reduceEqDiff, Nat.reduceAdd, Nat.reduceLT, Nat.reduceLeDiff, reduceIte, g7, hix1, hmn, show decide ((1 : Int) < 1) = false from rfl, show decide ((3 : Int) < 1) = false from rfl]
        refine WL_inv (α := Nat) (fun q e mm => e 7 = .ptr 3 0 0 ∧ e 12 = .ref 4 0 4 ∧ e 13 = I64 q ∧ 1 ≤ q ∧ q ≤ 4 ∧ mm = ⟨[b0, b1, .live [encC c] 9, .live [AV.agg [I64 g, I64 (mlr g b.tax), I64 n, I64 (min S1 n), I64 (n - min S1 n), I64 1]] 6, .live [I64 0, I64 S1, I64 S2, I64 F] 1], tk⟩) (fun q => 4 - q) 1 ?_ ?_
        · simp only [go_sem, Nat.reduceEqDiff, Nat.reduceAdd, Nat.reduceLT, Nat.reduceLeDiff, reduceIte, g7]
          try ((repeat' apply And.intro) <;> first | trivial | rfl | exact ⟨_, _, rfl⟩ | omega | assumption)
        rintro q e m ⟨g7, g12, g13, hq1, hq4, rfl⟩
        rcases (by omega : q = 1 ∨ q = 2 ∨ q = 3 ∨ q = 4) with rfl | rfl | rfl | rfl
        · have cast : (((1 : Nat) : Int)) = 1 := rfl
          have wq : IntKind.i64.wrap ((1 : Int) + 1) = ((2 : Nat) : Int) := rfl
          rw [cast] at g13
          simp only [go_sem, Nat.reduceEqDiff, Nat.reduceAdd, Nat.reduceLT, Nat.reduceLeDiff, reduceIte, g7, g12, g13, show decide ((1 : Int) ≤ 3) = true from rfl, show decide ((1 : Int) < 1) = false from rfl, decide_eq_false (show ¬(S1 < S1) by omega), hix1, hix1, wq]
          refine Nx_of 2 (by omega) ?_
          simp only [go_sem, Nat.reduceEqDiff, Nat.reduceAdd, Nat.reduceLT, Nat.reduceLeDiff, reduceIte, g7, g12]
        · have cast : (((2 : Nat) : Int)) = 2 := rfl
          have wq : IntKind.i64.wrap ((2 : Int) + 1) = ((3 : Nat) : Int) := rfl
          rw [cast] at g13
          simp only [go_sem, Nat.reduceEqDiff, Nat.reduceAdd, Nat.reduceLT, Nat.reduceLeDiff, reduceIte, g7, g12, g13, show decide ((2 : Int) ≤ 3) = true from rfl, show decide ((2 : Int) < 1) = false from rfl, decide_eq_false (show ¬(S1 < S2) by omega), hix2, hix1, wq]
          refine Nx_of 3 (by omega) ?_
          simp only [go_sem, Nat.reduceEqDiff, Nat.reduceAdd, Nat.reduceLT, Nat.reduceLeDiff, reduceIte, g7, g12]
        · have cast : (((3 : Nat) : Int)) = 3 := rfl
          have wq : IntKind.i64.wrap ((3 : Int) + 1) = ((4 : Nat) : Int) := rfl
          rw [cast] at g13
          simp only [go_sem, Nat.reduceEqDiff, Nat.reduceAdd, Nat.reduceLT, Nat.reduceLeDiff, reduceIte, g7, g12, g13, show decide ((3 : Int) ≤ 3) = true from rfl, show decide ((3 : Int) < 1) = false from rfl, decide_eq_false (show ¬(S1 < F) by omega), hix3, hix1, wq]
          refine Nx_of 4 (by omega) ?_
          simp only [go_sem, Nat.reduceEqDiff, Nat.reduceAdd, Nat.reduceLT, Nat.reduceLeDiff, reduceIte, g7, g12]
        · have cast : (((4 : Nat) : Int)) = 4 := rfl
          rw [cast] at g13
          simp only [go_sem, Nat.reduceEqDiff, Nat.reduceAdd, Nat.reduceLT, Nat.reduceLeDiff, reduceIte, g7, g12, g13, show decide ((4 : Int) ≤ 3) = false from rfl, WB16, WVH_eq works_ok, true_and]
      · have hmn : (min S2 n != min n S2) = false := by rw [Int.min_comm]; simp
        simp only [go_sem, Nat.reduceEqDiff, Nat.reduceAdd, Nat.reduceLT, Nat.reduceLeDiff, reduceIte, g7, hix2, hmn, show decide ((2 : Int) < 1) = false from rfl, show decide ((3 : Int) < 2) = false from rfl]
        refine WL_inv (α := Nat) (fun q e mm => e 7 = .ptr 3 0 0 ∧ e 12 = .ref 4 0 4 ∧ e 13 = I64 q ∧ 1 ≤ q ∧ q ≤ 4 ∧ mm = ⟨[b0, b1, .live [encC c] 9, .live [AV.agg [I64 g, I64 (mlr g b.tax), I64 n, I64 (min S2 n), I64 (n - min S2 n), I64 2]] 6, .live [I64 0, I64 S1, I64 S2, I64 F] 1], tk⟩) (fun q => 4 - q) 1 ?_ ?_
        · simp only [go_sem, Nat.reduceEqDiff, Nat.reduceAdd, Nat.reduceLT, Nat.reduceLeDiff, reduceIte, g7]
          try ((repeat' apply And.intro) <;> first | trivial | rfl | exact ⟨_, _, rfl⟩ | omega | assumption)
        rintro q e m ⟨g7, g12, g13, hq1, hq4, rfl⟩
        rcases (by omega : q = 1 ∨ q = 2 ∨ q = 3 ∨ q = 4) with rfl | rfl | rfl | rfl
        · have cast : (((1 : Nat) : Int)) = 1 := rfl
          have wq : IntKind.i64.wrap ((1 : Int) + 1) = ((2 : Nat) : Int) := rfl
          rw [cast] at g13
          simp only [go_sem, Nat.reduceEqDiff, Nat.reduceAdd, Nat.reduceLT, Nat.reduceLeDiff, reduceIte, g7, g12, g13, show decide ((1 : Int) ≤ 3) = true from rfl, show decide ((1 : Int) < 2) = true from rfl, decide_eq_false (show ¬(S2 < S1) by omega), beq_eq_false_iff_ne.2 (show S1 ≠ S2 by omega), hix1, hix2, wq]
          refine Nx_of 2 (by omega) ?_
          simp only [go_sem, Nat.reduceEqDiff, Nat.reduceAdd, Nat.reduceLT, Nat.reduceLeDiff, reduceIte, g7, g12]
        · have cast : (((2 : Nat) : Int)) = 2 := rfl
          have wq : IntKind.i64.wrap ((2 : Int) + 1) = ((3 : Nat) : Int) := rfl
          rw [cast] at g13
          simp only [go_sem, Nat.reduceEqDiff, Nat.reduceAdd, Nat.reduceLT, Nat.reduceLeDiff, reduceIte, g7, g12, g13, show decide ((2 : Int) ≤ 3) = true from rfl, show decide ((2 : Int) < 2) = false from rfl, decide_eq_false (show ¬(S2 < S2) by omega), hix2, hix2, wq]
          refine Nx_of 3 (by omega) ?_
          simp only [go_sem, Nat.reduceEqDiff, Nat.reduceAdd, Nat.reduceLT, Nat.reduceLeDiff, reduceIte, g7, g12]
        · have cast : (((3 : Nat) : Int)) = 3 := rfl
          have wq : IntKind.i64.wrap ((3 : Int) + 1) = ((4 : Nat) : Int) := rfl
          rw [cast] at g13
          simp only [go_sem, Nat.reduceEqDiff, Nat.reduceAdd, Nat.reduceLT, Nat.reduceLeDiff, reduceIte, g7, g12, g13, show decide ((3 : Int) ≤ 3) = true from rfl, show decide ((3 : Int) < 2) = false from rfl, decide_eq_false (show ¬(S2 < F) by omega), hix3, hix2, wq]
          refine Nx_of 4 (by omega) ?_
          simp only [go_sem, Nat.reduceEqDiff, Nat.reduceAdd, Nat.reduceLT, Nat.reduceLeDiff, reduceIte, g7, g12]
        · have cast : (((4 : Nat) : Int)) = 4 := rfl
          rw [cast] at g13
          simp only [go_sem, Nat.reduceEqDiff, Nat.reduceAdd, Nat.reduceLT, Nat.reduceLeDiff, reduceIte, g7, g12, g13, show decide ((4 : Int) ≤ 3) = false from rfl, WB16, WVH_eq works_ok, true_and]
      · have hmn : (min F n != min n F) = false := by rw [Int.min_comm]; simp
        simp only [go_sem, Nat.reduceEqDiff, Nat.reduceAdd, Nat.reduceLT, Nat.reduceLeDiff, reduceIte, g7, hix3, hmn, show decide ((3 : Int) < 1) = false from rfl, show decide ((3 : Int) < 3) = false from rfl]
        refine WL_inv (α := Nat) (fun q e mm => e 7 = .ptr 3 0 0 ∧ e 12 = .ref 4 0 4 ∧ e 13 = I64 q ∧ 1 ≤ q ∧ q ≤ 4 ∧ mm = ⟨[b0, b1, .live [encC c] 9, .live [AV.agg [I64 g, I64 (mlr g b.tax), I64 n, I64 (min F n), I64 (n - min F n), I64 3]] 6, .live [I64 0, I64 S1, I64 S2, I64 F] 1], tk⟩) (fun q => 4 - q) 1 ?_ ?_
        · simp only [go_sem, Nat.reduceEqDiff, Nat.reduceAdd, Nat.reduceLT, Nat.reduceLeDiff, reduceIte, g7]
          try ((repeat' apply And.intro) <;> first | trivial | rfl | exact ⟨_, _, rfl⟩ | omega | assumption)
        rintro q e m ⟨g7, g12, g13, hq1, hq4, rfl⟩
        rcases (by omega : q = 1 ∨ q = 2 ∨ q = 3 ∨ q = 4) with rfl | rfl | rfl | rfl
        · have cast : (((1 : Nat) : Int)) = 1 := rfl
          have wq : IntKind.i64.wrap ((1 : Int) + 1) = ((2 : Nat) : Int) := rfl
          rw [cast] at g13
          simp only [go_sem, Nat.reduceEqDiff, Nat.reduceAdd, Nat.reduceLT, Nat.reduceLeDiff, reduceIte, g7, g12, g13, show decide ((1 : Int) ≤ 3) = true from rfl, show decide ((1 : Int) < 3) = true from rfl, decide_eq_false (show ¬(F < S1) by omega), beq_eq_false_iff_ne.2 (show S1 ≠ F by omega), hix1, hix3, wq]
          refine Nx_of 2 (by omega) ?_
          simp only [go_sem, Nat.reduceEqDiff, Nat.reduceAdd, Nat.reduceLT, Nat.reduceLeDiff, reduceIte, g7, g12]
        · have cast : (((2 : Nat) : Int)) = 2 := rfl
          have wq : IntKind.i64.wrap ((2 : Int) + 1) = ((3 : Nat) : Int) := rfl
          rw [cast] at g13
          simp only [go_sem, Nat.reduceEqDiff, Nat.reduceAdd, Nat.reduceLT, Nat.reduceLeDiff, reduceIte, g7, g12, g13, show decide ((2 : Int) ≤ 3) = true from rfl, show decide ((2 : Int) < 3) = true from rfl, decide_eq_false (show ¬(F < S2) by omega), beq_eq_false_iff_ne.2 (show S2 ≠ F by omega), hix2, hix3, wq]
          refine Nx_of 3 (by omega) ?_
          simp only [go_sem, Nat.reduceEqDiff, Nat.reduceAdd, Nat.reduceLT, Nat.reduceLeDiff, reduceIte, g7, g12]
        · have cast : (((3 : Nat) : Int)) = 3 := rfl
          have wq : IntKind.i64.wrap ((3 : Int) + 1) = ((4 : Nat) : Int) := rfl
          rw [cast] at g13
          simp only [go_sem, Nat.reduceEqDiff, Nat.reduceAdd, Nat.reduceLT, Nat.reduceLeDiff, reduceIte, g7, g12, g13, show decide ((3 : Int) ≤ 3) = true from rfl, show decide ((3 : Int) < 3) = false from rfl, decide_eq_false (show ¬(F < F) by omega), hix3, hix3, wq]
          refine Nx_of 4 (by omega) ?_
          simp only [go_sem, Nat.reduceEqDiff, Nat.reduceAdd, Nat.reduceLT, Nat.reduceLeDiff, reduceIte, g7, g12]
        · have cast : (((4 : Nat) : Int)) = 4 := rfl
          rw [cast] at g13
          simp only [go_sem, Nat.reduceEqDiff, Nat.reduceAdd, Nat.reduceLT, Nat.reduceLeDiff, reduceIte, g7, g12, g13, show decide ((4 : Int) ≤ 3) = false from rfl, WB16, WVH_eq works_ok, true_and]
    case false =>
      have hz2 : sh2 c n = 0 := by
        have e3 := of_decide_eq_false d3
        unfold sh2
        rw [show max 0 (n - c.nut) = 0 by omega]
        simp [mlr]
      rw [hz2] at hRR
      simp only [go_sem, Nat.reduceEqDiff, Nat.reduceAdd, Nat.reduceLT, Nat.reduceLeDiff, reduceIte, g5, g7, g10, g11, d3, kz]
      generalize sh1 c x.w n = S1 at hRR s1' ⊢
      generalize c.fl = F at hRR ⊢
      generalize most c x.w n = M at hRR ⊢
      generalize ruleOf c x.w n = R at hRR ⊢
      have ix : ∀ (q : Nat) (B0 B1 B2 B3 : Blk) (es : List AV) (tk : List (Nat × Nat)), q < 4 → idxAt ⟨[B0, B1, B2, B3, .live es 1], tk⟩ (.ref 4 0 4) (I64 (q : Int)) 1 = some (.ptr 4 q 0) := fun q B0 B1 B2 B3 es tk hq => by
        rw [idxAt_ref, if_pos ⟨by omega, rfl⟩]; simp
      have hix1 := fun B0 B1 B2 B3 es tk => ix 1 B0 B1 B2 B3 es tk (by omega)
      have hix2 := fun B0 B1 B2 B3 es tk => ix 2 B0 B1 B2 B3 es tk (by omega)
      have hix3 := fun B0 B1 B2 B3 es tk => ix 3 B0 B1 B2 B3 es tk (by omega)
      rw [show ((1 : Nat) : Int) = 1 from rfl] at hix1
      rw [show ((2 : Nat) : Int) = 2 from rfl] at hix2
      rw [show ((3 : Nat) : Int) = 3 from rfl] at hix3
      rcases hRR with ⟨rfl, rfl, o1, o2⟩ | ⟨rfl, rfl, o1, o2⟩ | ⟨rfl, rfl, o1, o2⟩
      · have hmn : (min S1 n != min n S1) = false := by rw [Int.min_comm]; simp
        simp only [go_sem, Nat.reduceEqDiff, Nat.reduceAdd, Nat.reduceLT, Nat.reduceLeDiff, reduceIte, g7, hix1, hmn, show decide ((1 : Int) < 1) = false from rfl, show decide ((3 : Int) < 1) = false from rfl]
        refine WL_inv (α := Nat) (fun q e mm => e 7 = .ptr 3 0 0 ∧ e 12 = .ref 4 0 4 ∧ e 13 = I64 q ∧ 1 ≤ q ∧ q ≤ 4 ∧ mm = ⟨[b0, b1, .live [encC c] 9, .live [AV.agg [I64 g, I64 (mlr g b.tax), I64 n, I64 (min S1 n), I64 (n - min S1 n), I64 1]] 6, .live [I64 0, I64 S1, I64 (0 : Int), I64 F] 1], tk⟩) (fun q => 4 - q) 1 ?_ ?_
        · simp only [go_sem, Nat.reduceEqDiff, Nat.reduceAdd, Nat.reduceLT, Nat.reduceLeDiff, reduceIte, g7]
          try ((repeat' apply And.intro) <;> first | trivial | rfl | exact ⟨_, _, rfl⟩ | omega | assumption)
        rintro q e m ⟨g7, g12, g13, hq1, hq4, rfl⟩
        rcases (by omega : q = 1 ∨ q = 2 ∨ q = 3 ∨ q = 4) with rfl | rfl | rfl | rfl
        · have cast : (((1 : Nat) : Int)) = 1 := rfl
          have wq : IntKind.i64.wrap ((1 : Int) + 1) = ((2 : Nat) : Int) := rfl
          rw [cast] at g13
          simp only [go_sem, Nat.reduceEqDiff, Nat.reduceAdd, Nat.reduceLT, Nat.reduceLeDiff, reduceIte, g7, g12, g13, show decide ((1 : Int) ≤ 3) = true from rfl, show decide ((1 : Int) < 1) = false from rfl, decide_eq_false (show ¬(S1 < S1) by omega), hix1, hix1, wq]
          refine Nx_of 2 (by omega) ?_
          simp only [go_sem, Nat.reduceEqDiff, Nat.reduceAdd, Nat.reduceLT, Nat.reduceLeDiff, reduceIte, g7, g12]
        · have cast : (((2 : Nat) : Int)) = 2 := rfl
          have wq : IntKind.i64.wrap ((2 : Int) + 1) = ((3 : Nat) : Int) := rfl
          rw [cast] at g13
          simp only [go_sem, Nat.reduceEqDiff, Nat.reduceAdd, Nat.reduceLT, Nat.reduceLeDiff, reduceIte, g7, g12, g13, show decide ((2 : Int) ≤ 3) = true from rfl, show decide ((2 : Int) < 1) = false from rfl, decide_eq_false (show ¬(S1 < (0 : Int)) by omega), hix2, hix1, wq]
          refine Nx_of 3 (by omega) ?_
          simp only [go_sem, Nat.reduceEqDiff, Nat.reduceAdd, Nat.reduceLT, Nat.reduceLeDiff, reduceIte, g7, g12]
        · have cast : (((3 : Nat) : Int)) = 3 := rfl
          have wq : IntKind.i64.wrap ((3 : Int) + 1) = ((4 : Nat) : Int) := rfl
          rw [cast] at g13
          simp only [go_sem, Nat.reduceEqDiff, Nat.reduceAdd, Nat.reduceLT, Nat.reduceLeDiff, reduceIte, g7, g12, g13, show decide ((3 : Int) ≤ 3) = true from rfl, show decide ((3 : Int) < 1) = false from rfl, decide_eq_false (show ¬(S1 < F) by omega), hix3, hix1, wq]
          refine Nx_of 4 (by omega) ?_
          simp only [go_sem, Nat.reduceEqDiff, Nat.reduceAdd, Nat.reduceLT, Nat.reduceLeDiff, reduceIte, g7, g12]
        · have cast : (((4 : Nat) : Int)) = 4 := rfl
          rw [cast] at g13
          simp only [go_sem, Nat.reduceEqDiff, Nat.reduceAdd, Nat.reduceLT, Nat.reduceLeDiff, reduceIte, g7, g12, g13, show decide ((4 : Int) ≤ 3) = false from rfl, WB16, WVH_eq works_ok, true_and]
      · exact absurd o1 (by omega)
      · have hmn : (min F n != min n F) = false := by rw [Int.min_comm]; simp
        simp only [go_sem, Nat.reduceEqDiff, Nat.reduceAdd, Nat.reduceLT, Nat.reduceLeDiff, reduceIte, g7, hix3, hmn, show decide ((3 : Int) < 1) = false from rfl, show decide ((3 : Int) < 3) = false from rfl]
        refine WL_inv (α := Nat) (fun q e mm => e 7 = .ptr 3 0 0 ∧ e 12 = .ref 4 0 4 ∧ e 13 = I64 q ∧ 1 ≤ q ∧ q ≤ 4 ∧ mm = ⟨[b0, b1, .live [encC c] 9, .live [AV.agg [I64 g, I64 (mlr g b.tax), I64 n, I64 (min F n), I64 (n - min F n), I64 3]] 6, .live [I64 0, I64 S1, I64 (0 : Int), I64 F] 1], tk⟩) (fun q => 4 - q) 1 ?_ ?_
        · simp only [go_sem, Nat.reduceEqDiff, Nat.reduceAdd, Nat.reduceLT, Nat.reduceLeDiff, reduceIte, g7]
          try ((repeat' apply And.intro) <;> first | trivial | rfl | exact ⟨_, _, rfl⟩ | omega | assumption)
        rintro q e m ⟨g7, g12, g13, hq1, hq4, rfl⟩
        rcases (by omega : q = 1 ∨ q = 2 ∨ q = 3 ∨ q = 4) with rfl | rfl | rfl | rfl
        · have cast : (((1 : Nat) : Int)) = 1 := rfl
          have wq : IntKind.i64.wrap ((1 : Int) + 1) = ((2 : Nat) : Int) := rfl
          rw [cast] at g13
          simp only [go_sem, Nat.reduceEqDiff, Nat.reduceAdd, Nat.reduceLT, Nat.reduceLeDiff, reduceIte, g7, g12, g13, show decide ((1 : Int) ≤ 3) = true from rfl, show decide ((1 : Int) < 3) = true from rfl, decide_eq_false (show ¬(F < S1) by omega), beq_eq_false_iff_ne.2 (show S1 ≠ F by omega), hix1, hix3, wq]
          refine Nx_of 2 (by omega) ?_
          simp only [go_sem, Nat.reduceEqDiff, Nat.reduceAdd, Nat.reduceLT, Nat.reduceLeDiff, reduceIte, g7, g12]
        · have cast : (((2 : Nat) : Int)) = 2 := rfl
          have wq : IntKind.i64.wrap ((2 : Int) + 1) = ((3 : Nat) : Int) := rfl
          rw [cast] at g13
          simp only [go_sem, Nat.reduceEqDiff, Nat.reduceAdd, Nat.reduceLT, Nat.reduceLeDiff, reduceIte, g7, g12, g13, show decide ((2 : Int) ≤ 3) = true from rfl, show decide ((2 : Int) < 3) = true from rfl, decide_eq_false (show ¬(F < (0 : Int)) by omega), beq_eq_false_iff_ne.2 (show (0 : Int) ≠ F by omega), hix2, hix3, wq]
          refine Nx_of 3 (by omega) ?_
          simp only [go_sem, Nat.reduceEqDiff, Nat.reduceAdd, Nat.reduceLT, Nat.reduceLeDiff, reduceIte, g7, g12]
        · have cast : (((3 : Nat) : Int)) = 3 := rfl
          have wq : IntKind.i64.wrap ((3 : Int) + 1) = ((4 : Nat) : Int) := rfl
          rw [cast] at g13
          simp only [go_sem, Nat.reduceEqDiff, Nat.reduceAdd, Nat.reduceLT, Nat.reduceLeDiff, reduceIte, g7, g12, g13, show decide ((3 : Int) ≤ 3) = true from rfl, show decide ((3 : Int) < 3) = false from rfl, decide_eq_false (show ¬(F < F) by omega), hix3, hix3, wq]
          refine Nx_of 4 (by omega) ?_
          simp only [go_sem, Nat.reduceEqDiff, Nat.reduceAdd, Nat.reduceLT, Nat.reduceLeDiff, reduceIte, g7, g12]
        · have cast : (((4 : Nat) : Int)) = 4 := rfl
          rw [cast] at g13
          simp only [go_sem, Nat.reduceEqDiff, Nat.reduceAdd, Nat.reduceLT, Nat.reduceLeDiff, reduceIte, g7, g12, g13, show decide ((4 : Int) ≤ 3) = false from rfl, WB16, WVH_eq works_ok, true_and]
end Go.Ab.T
end
