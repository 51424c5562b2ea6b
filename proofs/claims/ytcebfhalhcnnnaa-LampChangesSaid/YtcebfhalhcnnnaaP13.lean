/-
  A part of the proofs over this seat.
  (The texts KlK20 KlK21, one behind the other.)
-/
import Derived.Test.YtcebfhalhcnnnaaP11
import Derived.Test.YtcebfhalhcnnnaaP5
set_option linter.unusedSimpArgs false
set_option linter.unusedVariables false
set_option linter.unusedSectionVars false
section
namespace Go.Ab.T
set_option maxRecDepth 8000
set_option maxHeartbeats 4000000
/-- The reference's changes. -/
theorem ChangesR_ok (l : Lm) (b : Int) (days : List Int) (hl : l.gs.length < 1073741824) : RV ft 31 [encL l, I64 b, encIs days] (.tup [encIs (chM true l b days).1, I64 (chM true l b days).2]) := by
  refine RV_of ft31 rfl ?_
  simp only [c31, r31]
  have hD := CheckDays_ok l b days hl
  have hcd : cdM l b days = if okL l = true then (if (hrR b && (decide ((days.length : Int) ≤ 30) && days.all hrR)) = true then 0 else 1) else 90 := by
    unfold cdM
    rw [show (!decide ((30 : Int) < (days.length : Int))) = decide ((days.length : Int) ≤ 30) from by
      rw [Bool.eq_iff_iff, Bool.not_eq_true', decide_eq_false_iff_not, decide_eq_true_eq]; omega]
  rw [hcd] at hD
  unfold chM
  by_cases ho : okL l = true
  case neg =>
    rw [if_neg ho] at hD ⊢
    simp only [go_sem, Nat.reduceEqDiff, Nat.reduceAdd, Nat.reduceLT, Nat.reduceLeDiff, reduceIte, LCells, LEta, WB38, WVH_eq hD, true_and, show ((90 : Int) != 0) = true from rfl]
    rfl
  have hv := okL_iff.1 ho
  rw [if_pos ho] at hD ⊢
  by_cases hc : (hrR b && (decide ((days.length : Int) ≤ 30) && days.all hrR)) = true
  case neg =>
    rw [if_neg hc] at hD ⊢
    simp only [go_sem, Nat.reduceEqDiff, Nat.reduceAdd, Nat.reduceLT, Nat.reduceLeDiff, reduceIte, LCells, LEta, WB38, WVH_eq hD, true_and, show ((1 : Int) != 0) = true from rfl]
    rfl
  rw [if_pos hc] at hD ⊢
  rw [Bool.and_eq_true, Bool.and_eq_true, List.all_eq_true, decide_eq_true_eq] at hc
  obtain ⟨hb, hdl, hda⟩ := hc
  obtain ⟨b0, b1⟩ := inR_iff.1 (show inR b 0 40 = true from hb)
  have hd : ∀ h ∈ days, 0 ≤ h ∧ h ≤ 40 := fun h hh => inR_iff.1 (show inR h 0 40 = true from hda h hh)
  have hr1 := hv.r1
  have hgn := skN_le hv (xs := linM l) (Int.le_refl 0)
  have hnew : ∀ h : Int, 0 ≤ h ∧ h ≤ 40 → RV ft 39 [encL l, encNs (linM l), I64 0, I64 h] (.bool (decide (h ≤ skN l (linM l) 0))) := fun h hh => by
    have h5 := cs_eq hv (xs := linM l) (a := 0) (b := 0) (Int.le_refl 0) (Int.le_refl 0) (.inl rfl) hh.1
    rw [Int.sub_zero] at h5
    rw [← h5]
    exact CanShow_ok hv _ (by have := linM_len hv; omega) (fun x hx => linM_NV hv hx) (Int.le_refl 0) (by omega) hh.1 (by omega)
  generalize hG : skN l (linM l) 0 = gn at *
  obtain ⟨tot, hT⟩ : ∃ tot, tot = chF true gn 0 (skN l (truM l) b - b) days := ⟨_, rfl⟩
  rw [← hT]
  simp only [go_sem, Nat.reduceEqDiff, Nat.reduceAdd, Nat.reduceLT, Nat.reduceLeDiff, reduceIte, LCells, LEta, WB38, WVH_eq hD, true_and, show ((0 : Int) != 0) = false from rfl, WB69, WVH_eq (Old_ok hv)]
  refine WL_inv (α := Nat × Int × Int × List Ln × List Int × List Int × AV) (fun q e mm => e 1 = I64 q.2.1 ∧ e 2 = encIs days ∧ e 3 = .ptr 0 0 0 ∧ e 9 = encNs q.2.2.2.1 ∧ e 10 = q.2.2.2.2.2.2 ∧ e 11 = I64 q.1 ∧ days.drop q.1 = q.2.2.2.2.2.1 ∧ StL l b q.2.2.2.1 q.2.2.1 ∧ 0 ≤ q.2.2.1 ∧ q.2.2.1 ≤ q.2.1 ∧ q.2.1 ≤ 40 ∧ (q.2.1 = q.2.2.1 ∨ q.2.1 ≤ skN l q.2.2.2.1 q.2.2.1) ∧ q.2.2.2.2.1.length ≤ q.1 ∧ (chF true gn q.1 (skN l q.2.2.2.1 q.2.2.1 - q.2.1) q.2.2.2.2.2.1).map (q.2.2.2.2.1 ++ ·) = tot ∧ ∃ bl tk, mm = ⟨.live [encL l] 9 :: bl, tk⟩ ∧ Acc 3 (q.2.2.2.2.1.map I64) q.2.2.2.2.2.2 tk) (fun q => q.2.2.2.2.2.1.length) (0, b, b, truM l, [], days, .sl [] .tight) ?_ ?_
  · simp only [go_sem, Nat.reduceEqDiff, Nat.reduceAdd, Nat.reduceLT, Nat.reduceLeDiff, reduceIte]
    refine ⟨trivial, trivial, trivial, trivial, trivial, rfl, trivial, .inl ⟨rfl, rfl⟩, b0, Int.le_refl _, b1, .inl trivial, trivial, ?_, _, _, rfl, Acc_nil 3⟩
    rw [hT]
    cases chF true gn 0 (skN l (truM l) b - b) days <;> rfl
  rintro ⟨k, bb, a, xs, acc, r, v⟩ e m ⟨e1, e2, e3, e9, e10, e11, hdr, hst, a0, ab, b40, hbb, hac, hq, bl, tk, rfl, hA⟩
  dsimp only at e1 e9 e10 e11 hdr hst a0 ab b40 hbb hac hq hA
  obtain ⟨hxN, hxl⟩ := hst.nv hv
  cases r with
  | nil =>
    have h3 := drop_nil hdr
    simp only [go_sem, Nat.reduceEqDiff, Nat.reduceAdd, Nat.reduceLT, Nat.reduceLeDiff, reduceIte, e1, e2, e3, e9, e10, e11, dec_ge h3]
    rw [show chF true gn k (skN l xs a - bb) [] = some [] from rfl, Option.map_some, List.append_nil] at hq
    rw [hA.snap, ← hq]
    show AV.tup [.sl ((acc.map I64).map (Ab.snap _ 10)) .unk, _] = _
    rw [List.map_map]; rfl
  | cons h r =>
    obtain ⟨hk, hd2, hlt⟩ := drop_cons hdr
    have hh := hd h (List.mem_of_getElem? hk)
    have hN := hnew h hh
    have hO : RV ft 39 [encL l, encNs xs, I64 bb, I64 h] (.bool (decide (h ≤ skN l xs a - bb))) := by
      rw [← cs_eq hv a0 ab hbb hh.1]
      exact CanShow_ok hv xs (by omega) hxN (by omega) (by omega) hh.1 (by omega)
    have hsk := skN_le hv (xs := xs) a0
    have w1 : IntKind.i64.wrap (bb + h) = bb + h := wrap_i64 _ (by omega) (by omega)
    have w2 : IntKind.i64.wrap (0 + h) = h := by rw [wrap_i64 _ (by omega) (by omega)]; omega
    rw [chF_cons] at hq
    cases c1 : decide (h ≤ gn)
    · have c1' := of_decide_eq_false c1
      rw [if_pos ⟨rfl, by omega⟩] at hq
      rw [c1] at hN
      simp only [go_sem, Nat.reduceEqDiff, Nat.reduceAdd, Nat.reduceLT, Nat.reduceLeDiff, reduceIte, e1, e2, e3, e9, e10, e11, dec_lt hlt, Is_idx hk, LEta, WB40, WVH_eq (New_ok hv), WB39, WVH_eq hN, true_and]
      rw [← hq]; rfl
    have c1' := of_decide_eq_true c1
    rw [if_neg (by omega)] at hq
    rw [c1] at hN
    cases c2 : decide (h ≤ skN l xs a - bb)
    · have c2' := of_decide_eq_false c2
      rw [c2] at hO
      rw [if_pos (by omega), if_neg (by omega)] at hq
      simp only [go_sem, Nat.reduceEqDiff, Nat.reduceAdd, Nat.reduceLT, Nat.reduceLeDiff, reduceIte, e1, e2, e3, e9, e10, e11, dec_lt hlt, Is_idx hk, LEta, WB40, WVH_eq (New_ok hv), WB39, WVH_eq hN, WVH_eq hO, true_and]
      refine hA.app (cellsI acc) rfl (by rw [List.length_map]; unfold limit; omega) fun v' tk' hA' => ?_
      simp only [go_sem, Nat.reduceEqDiff, Nat.reduceAdd, Nat.reduceLT, Nat.reduceLeDiff, reduceIte, e1, e2, e3, e9, e10, e11, Is_idx hk, LEta, WB40, WVH_eq (New_ok hv), true_and, w2, wrap_n1 k (by omega)]
      refine Nx_of (k + 1, h, 0, linM l, acc ++ [(k : Int)], r, v') (by simp) ?_
      simp only [go_sem, Nat.reduceEqDiff, Nat.reduceAdd, Nat.reduceLT, Nat.reduceLeDiff, reduceIte, e2, e3]
      refine ⟨trivial, trivial, trivial, trivial, trivial, trivial, hd2, .inr ⟨rfl, rfl⟩, Int.le_refl 0, hh.1, by omega, .inr (by rw [hG]; exact c1'), by rw [List.length_append, List.length_singleton]; omega, ?_, _, _, rfl, by simpa using hA'⟩
      rw [← hq, hG]
      cases chF true gn (k + 1) (gn - h) r with
      | none => rfl
      | some c => simp
    · have c2' := of_decide_eq_true c2
      rw [c2] at hO
      rw [if_neg (by omega)] at hq
      simp only [go_sem, Nat.reduceEqDiff, Nat.reduceAdd, Nat.reduceLT, Nat.reduceLeDiff, reduceIte, e1, e2, e3, e9, e10, e11, dec_lt hlt, Is_idx hk, LEta, WB40, WVH_eq (New_ok hv), WB39, WVH_eq hN, WVH_eq hO, true_and, w1, wrap_n1 k (by omega)]
      refine Nx_of (k + 1, bb + h, a, xs, acc, r, v) (by simp) ?_
      simp only [go_sem, Nat.reduceEqDiff, Nat.reduceAdd, Nat.reduceLT, Nat.reduceLeDiff, reduceIte, e2, e3, e9, e10]
      refine ⟨trivial, trivial, trivial, trivial, trivial, trivial, hd2, hst, a0, by omega, by omega, .inr (by omega), by omega, ?_, _, _, rfl, hA⟩
      rw [← hq, show skN l xs a - (bb + h) = skN l xs a - bb - h by omega]
end Go.Ab.T
end

section
namespace Go.Ab.T
set_option maxRecDepth 8000
set_option maxHeartbeats 4000000
theorem app_copy (bl : List Blk) (days : List Int) (h : days.length ≤ 1000) : ∃ tk toks, appendAt ⟨bl, []⟩ false (.sl [] .tight) (encIs days) 3 1 8 = some (.sl (days.map I64) tk, ⟨bl, toks⟩) := by
  have h2 : (0 + days.length) * (8 + 1) ≤ limit := by unfold limit; omega
  cases days with
  | nil => exact ⟨_, _, rfl⟩
  | cons x r =>
    refine ⟨.at 0, [((x :: r).length, 3)], ?_⟩
    simp only [appendAt, encIs, Mem.elems, Is_hd, List.length_nil, List.length_map, h2, hdSz, true_and, appTk]
    simp
    rfl
theorem snI_any (m : Mem) (q : Nat) (l : List Int) (tk : Tk) : Ab.snap m (q + 2) (.sl (l.map I64) tk) = encIs l := by
  show AV.sl ((l.map I64).map (Ab.snap m (q + 1))) .unk = _
  rw [List.map_map, show Ab.snap m (q + 1) ∘ I64 = I64 from funext (fun _ => rfl)]; rfl
theorem hotI_any (q : Nat) (l : List Int) (tk : Tk) : hot (q + 2) (.sl (l.map I64) tk) = false := by
  show (l.map I64).any (hot (q + 1)) = false
  rw [List.any_map, List.any_eq_false]; intro x _; simp only [Function.comp]; rw [show hot (q + 1) (I64 x) = false from rfl]; decide
theorem LampChanges_of (hCh : ∀ (l : Lm) (b : Int) (days : List Int), l.gs.length < 1073741824 → days.length < 1073741824 → RV ft 30 [encL l, I64 b, encIs days] (.tup [encIs (chM true l b days).1, I64 (chM true l b days).2])) (l : Lm) (b : Int) (days : List Int) : RV ft 5 [encL l, I64 b, encIs days] (.bool true) := by
  refine RV_of ft5 rfl ?_
  simp only [c5, r5]
  have hF := Far_ok l
  cases hf : farM l
  case true =>
    rw [hf] at hF
    simp only [go_sem, Nat.reduceEqDiff, Nat.reduceAdd, Nat.reduceLT, Nat.reduceLeDiff, reduceIte, WB12, WVH_eq hF, true_and, WB13, WVH_eq works_ok]
  have h40 := rdM_len hf
  have hl : l.gs.length < 1073741824 := by omega
  rw [hf] at hF
  cases c60 : decide ((60 : Int) < (days.length : Int))
  case true => simp only [go_sem, Nat.reduceEqDiff, Nat.reduceAdd, Nat.reduceLT, Nat.reduceLeDiff, reduceIte, WB12, WVH_eq hF, c60, true_and, WB13, WVH_eq works_ok]
  have c60' := of_decide_eq_false c60
  have hC := Copy_ok l (by omega)
  have hP := hCh l b days hl (by omega)
  have hR := ChangesR_ok l b days hl
  have hcl : (chM true l b days).1.length < 1073741824 := by
    unfold chM
    split
    · split
      · split
        · simp
        · rename_i c hc
          have := (chF_ge _ _ _ _ hc).1
          show c.length < _
          omega
      · simp
    · simp
  generalize chM true l b days = R at hP hR hcl
  have hS := sameInts_ok R.1 R.1 hcl
  rw [beq_self_eq_true] at hS
  obtain ⟨tk, toks, ha⟩ := app_copy [.live [encL l] 9] days (by omega)
  simp only [go_sem, Nat.reduceEqDiff, Nat.reduceAdd, Nat.reduceLT, Nat.reduceLeDiff, reduceIte, WB12, WVH_eq hF, c60, true_and, WF14, WVH_eq hC, ha, snI_any _ 10, hotI_any 10, WB30, WVH_eq hP, WB31, WVH_eq hR, WB23, WVH_eq hS, beq_self_eq_true, WB13, WVH_eq works_ok]
theorem LampChanges_run (l : Lm) (b : Int) (days : List Int) : RV ft 5 [encL l, I64 b, encIs days] (.bool true) := LampChanges_of Changes_ok l b days
end Go.Ab.T
end
