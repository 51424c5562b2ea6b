/-
  A part of the proofs over this seat.
  (The texts KrK12 KrK13, one behind the other.)
-/
import Derived.Test.YtnkdfekbifcglaaP9
import Derived.Test.YtnkdfekbifcglaaA5
import Derived.KernelRfl
set_option linter.unusedSimpArgs false
set_option linter.unusedVariables false
set_option linter.unusedSectionVars false
section
namespace Go.Ab.T
set_option maxRecDepth 8000
set_option maxHeartbeats 1000000
theorem shut_len (h : Ho) (i : Nat) : (shutH h i).s.length = h.s.length := by unfold shutH; simp
theorem HV_shut {h : Ho} (hV : HV h) {i : Nat} (hi : i < h.s.length) : HV (shutH h i) := by
  refine ⟨hV.n1, hV.n6, hV.pe, by rw [shut_len]; exact hV.sl, fun q hq => ?_⟩
  unfold shutH at hq
  rcases List.mem_or_eq_of_mem_set hq with hq | rfl
  · exact hV.sv q hq
  · obtain ⟨a, b, c, d, e, f, g, j, k⟩ := hV.sv _ (pq_mem hi)
    exact ⟨a, b, c, d, e, Int.le_refl _, by show (0 : Int) ≤ 20; omega, j, k⟩
theorem HV.pne {h : Ho} (hV : HV h) : h.p ≠ [] := by intro e; have := hV.n1; rw [e] at this; simp at this
theorem Shut_ok {h : Ho} (hV : HV h) {i : Nat} (hi : i < h.s.length) : RV ft 31 [encH h, I64 (i : Int)] (.tup [encH (shutH h i), I64 0]) := by
  refine RV_of ft31 rfl ?_
  simp only [c31, r31]
  have n6 := hV.n6
  have sl := hV.sl
  have hc := Check_ok h (by omega) (by omega)
  rw [if_pos (vHo_iff.2 hV)] at hc
  have w := wrap_i64 ((h.s.length : Int) - 1) (by omega) (by omega)
  have b := isW_iff.2 (⟨by omega, by omega⟩ : (0 : Int) ≤ (i : Int) ∧ (i : Int) ≤ (h.s.length : Int) - 1)
  have hS := shut_ok hV.pne (by omega) (by omega) hi
  have hE : (encH (shutH h i)).cells = [encIs (shutH h i).p, encPs (shutH h i).s] := rfl
  have hE2 : (encH (shutH h i)).solids = true := rfl
  simp only [go_sem, Nat.reduceEqDiff, Nat.reduceAdd, Nat.reduceLT, Nat.reduceLeDiff, reduceIte, HEta, WB14, WVH_eq hc, true_and, bne_self_eq_false, HCells, w, WB53, WVH_eq (isWithin_ok _ _ _), b, WB54, WVH_eq hS, hE, hE2]
open Classical in
noncomputable def needL (h : Ho) (T : Int) (k : Nat) : List Int := ((List.range k).filter fun i => !decide (canE (shutH h i) T)).map fun i : Nat => (i : Int)
open Classical in
theorem needL_succ (h : Ho) (T : Int) (k : Nat) : needL h T (k + 1) = needL h T k ++ (if decide (canE (shutH h k) T) = true then [] else [(k : Int)]) := by
  unfold needL
  rw [List.range_succ, List.filter_append, List.map_append]
  cases hd : decide (canE (shutH h k) T) <;> simp [hd]
theorem needL_len (h : Ho) (T : Int) (k : Nat) : (needL h T k).length ≤ k := by
  unfold needL
  rw [List.length_map]
  exact Nat.le_trans (List.length_filter_le _ _) (by simp)
theorem Needed_ok {h : Ho} (hV : HV h) {T : Int} (hT0 : 0 ≤ T) (hT : T ≤ 60) : RV ft 33 [encH h, I64 T] (.tup [encIs (needL h T h.s.length), I64 0]) := by
  refine RV_of ft33 rfl ?_
  simp only [c33, r33]
  have n6 := hV.n6
  have sl := hV.sl
  have hc := checkMinute_ok h (by omega) (by omega) T
  rw [errM_0 hV hT0 hT] at hc
  simp only [go_sem, Nat.reduceEqDiff, Nat.reduceAdd, Nat.reduceLT, Nat.reduceLeDiff, reduceIte, HEta, WB40, WVH_eq hc, true_and, bne_self_eq_false]
  refine WL_inv (α := Nat × AV × List (Nat × Nat)) (fun q e mm => e 1 = I64 T ∧ e 2 = .ptr 0 0 0 ∧ e 7 = q.2.1 ∧ e 17 = I64 h.s.length ∧ e 18 = I64 q.1 ∧ q.1 ≤ h.s.length ∧ AccT [] 3 ((needL h T q.1).map I64) q.2.1 q.2.2 ∧ mm = ⟨[.live [encH h] 2], q.2.2⟩) (fun q => h.s.length - q.1) (0, .sl [] .tight, []) ?_ ?_
  · simp only [go_sem, Nat.reduceEqDiff, Nat.reduceAdd, Nat.reduceLT, Nat.reduceLeDiff, reduceIte, HCells]
    exact ⟨trivial, trivial, trivial, trivial, rfl, Nat.zero_le _, AccT_nil _ _, trivial⟩
  rintro ⟨i, v, tk⟩ e mm ⟨g1, g2, g7, g17, g18, hi, hA, rfl⟩
  dsimp only at g7 g18 hi hA
  by_cases hlt : i < h.s.length
  · have hS := shut_ok hV.pne (by omega) (by omega) hlt
    have hE := canEmpty_ok (HV_shut hV hlt) hT0 hT
    cases hd : @decide (canE (shutH h i) T) (Classical.propDecidable _)
    · rw [hd] at hE
      obtain ⟨v3, tk3, a1, a2⟩ := hA.app (y := I64 (i : Int)) (sz := 1) (by' := 8) (fun e he => by obtain ⟨x, _, rfl⟩ := List.mem_map.1 he; rfl) rfl (by have := needL_len h T i; rw [List.length_map]; unfold limit; omega) .tight
      have a1B := a1 [.live [encH h] 2]
      simp only [go_sem, Nat.reduceEqDiff, Nat.reduceAdd, Nat.reduceLT, Nat.reduceLeDiff, reduceIte, g1, g2, g7, g17, g18, dec_lt hlt, HEta, WB54, WVH_eq hS, WB52, WVH_eq hE, true_and, a1B, wrap_n1 i (by omega)]
      refine Nx_of (i + 1, v3, tk3) (by show h.s.length - (i + 1) < h.s.length - i; omega) ?_
      simp only [go_sem, Nat.reduceEqDiff, Nat.reduceAdd, Nat.reduceLT, Nat.reduceLeDiff, reduceIte, g1, g2, g17]
      rw [needL_succ, hd, List.map_append]
      exact ⟨trivial, trivial, trivial, trivial, trivial, hlt, a2, trivial⟩
    · rw [hd] at hE
      simp only [go_sem, Nat.reduceEqDiff, Nat.reduceAdd, Nat.reduceLT, Nat.reduceLeDiff, reduceIte, g1, g2, g7, g17, g18, dec_lt hlt, HEta, WB54, WVH_eq hS, WB52, WVH_eq hE, true_and, wrap_n1 i (by omega)]
      refine Nx_of (i + 1, v, tk) (by show h.s.length - (i + 1) < h.s.length - i; omega) ?_
      simp only [go_sem, Nat.reduceEqDiff, Nat.reduceAdd, Nat.reduceLT, Nat.reduceLeDiff, reduceIte, g1, g2, g7, g17]
      rw [needL_succ, hd]
      simp only [if_true, List.append_nil]
      exact ⟨trivial, trivial, trivial, trivial, trivial, hlt, hA, trivial⟩
  · have hie : i = h.s.length := by omega
    subst hie
    obtain ⟨t, rfl⟩ := hA.sl
    simp only [go_sem, Nat.reduceEqDiff, Nat.reduceAdd, Nat.reduceLT, Nat.reduceLeDiff, reduceIte, g1, g2, g7, g17, g18, dec_ge (Nat.le_refl h.s.length)]
    have h9 := snIs' ⟨[.live [encH h] 2], tk⟩ 9 (needL h T h.s.length) t
    exact congrArg (fun x => AV.tup [x, I64 0]) h9
/-! ### The example -/
def hE : Ho := ⟨[5, 4], [⟨0, 1, 2, 1⟩, ⟨0, -1, 1, 2⟩, ⟨1, -1, 3, 1⟩, ⟨1, 0, 1, 1⟩]⟩
theorem hE_V : HV hE := vHo_iff.1 (by decide)
theorem IsM_plan {h : Ho} (hV : HV h) {T : Int} (hT : 0 ≤ T) {l : List Mv} (hP : PlanOK h T l) {H : Nat → Int} (hH : HrOK h T H) {n : Int} (h1 : outL h l = n) (h2 : bnd h T H = n) : IsM h T n := ⟨⟨H, hH, h2⟩, fun H' hH' => by rw [← h1]; exact weak hV hT hP hH'⟩
def pl2 : List Mv := [⟨0, 0, 2⟩, ⟨0, 1, 1⟩, ⟨0, 2, 3⟩, ⟨1, 2, 3⟩]
def pl3 : List Mv := [⟨0, 0, 2⟩, ⟨0, 1, 1⟩, ⟨0, 2, 3⟩, ⟨1, 0, 1⟩, ⟨1, 1, 1⟩, ⟨1, 2, 3⟩, ⟨2, 2, 1⟩]
theorem usedL_out {l : List Mv} {M : Nat} (hM : ∀ x ∈ l, x.mi < M) {i m : Int} (hm : (M : Int) ≤ m) : usedL l i m = 0 := by
  unfold usedL
  induction l with
  | nil => rfl
  | cons a r ih =>
    rw [lsum_cons, ih fun x hx => hM x (by simp [hx]), if_neg (by have := hM a (by simp); omega)]; rfl
theorem PlanOK_dec {h : Ho} {T : Nat} {l : List Mv} (M : Nat) (hw : ∀ q ∈ h.s, 0 ≤ q.wd) (h0 : (l.all fun x => (((decide (0 ≤ x.mi) && decide (0 ≤ x.pa)) && decide (x.pa < h.s.length)) && (decide (1 ≤ x.pe) && decide (x.mi + wkQ h x ≤ T))) && decide (x.mi < M)) = true)
    (h1 : ((List.range h.s.length).all fun i => (List.range M).all fun m => decide (usedL l i m ≤ (pq h i).wd)) = true)
    (h2 : ((List.range h.p.length).all fun r => (List.range (T + 1)).all fun m => decide (0 ≤ pp h r - leftL h l r m + cameL h l r m)) = true) : PlanOK h T l := by
  simp only [List.all_eq_true, Bool.and_eq_true, decide_eq_true_eq, List.mem_range] at h0 h1 h2
  refine ⟨fun x hx => ?_, fun i m hi => ?_, fun r m hr hm => h2 r hr m (by omega)⟩
  · obtain ⟨⟨⟨⟨a, b⟩, c⟩, d, e⟩, f⟩ := h0 x hx
    exact ⟨a, b, c, d, e⟩
  · by_cases hm : m < M
    · exact h1 i hi m hm
    · rw [usedL_out (fun x hx => (h0 x hx).2) (show (M : Int) ≤ (m : Int) by omega)]
      exact hw _ (pq_mem hi)
theorem HrOK_dec {h : Ho} {T : Int} {H : Nat → Int} (h0 : ((List.range h.p.length).all fun r => decide (0 ≤ H r) && decide (H r ≤ T + 1)) = true) : HrOK h T H := by
  simp only [List.all_eq_true, Bool.and_eq_true, decide_eq_true_eq, List.mem_range] at h0
  exact h0
theorem M2 : IsM hE 2 7 := IsM_plan hE_V (by decide) (PlanOK_dec (T := 2) 2 (by decide) (by decide) (by decide) (by decide) : PlanOK hE ((2 : Nat) : Int) pl2) (HrOK_dec (H := hf [0, 0]) (by decide)) (by decide) (by decide)
theorem M3 : IsM hE 3 9 := IsM_plan hE_V (by decide) (PlanOK_dec (T := 3) 3 (by decide) (by decide) (by decide) (by decide) : PlanOK hE ((3 : Nat) : Int) pl3) (HrOK_dec (H := hf [2, 3]) (by decide)) (by decide) (by decide)
theorem M3s : IsM (shutH hE 3) 3 9 := IsM_plan (HV_shut hE_V (by decide)) (by decide) (PlanOK_dec (T := 3) 3 (by decide) (by decide) (by decide) (by decide) : PlanOK (shutH hE 3) ((3 : Nat) : Int) pl3) (HrOK_dec (H := hf [2, 3]) (by decide)) (by decide) (by decide)
theorem E3 : canE hE 3 := (M3.canE hE_V (by decide)).1 (by decide)
theorem E2 : ¬canE hE 2 := fun h => by have := (M2.canE hE_V (by decide)).2 h; revert this; decide
theorem IsE3 : IsE hE 3 := ⟨by omega, E3, fun k hk hc => E2 (canE_mono hE_V (by omega) (show (k : Int) ≤ 2 by omega) hc)⟩
theorem N3 : needL hE 3 4 = [0, 1, 2] := by
  have s3 : canE (shutH hE 3) 3 := (M3s.canE (HV_shut hE_V (by decide)) (by decide)).1 (by decide)
  have s0 : ¬canE (shutH hE 0) 3 := fun hc => by have := hc (hf [0, 3]) (HrOK_dec (by decide)); revert this; decide
  have s1 : ¬canE (shutH hE 1) 3 := fun hc => by have := hc (hf [0, 3]) (HrOK_dec (by decide)); revert this; decide
  have s2 : ¬canE (shutH hE 2) 3 := fun hc => by have := hc (hf [0, 0]) (HrOK_dec (by decide)); revert this; decide
  show needL hE 3 (0 + 1 + 1 + 1 + 1) = _
  rw [needL_succ, needL_succ, needL_succ, needL_succ]
  simp [needL, s0, s1, s2, s3]
theorem RVw_Example : RV ft 37 [] (encH hE) := RV_of_run2 30 (by kernel_rfl)
end Go.Ab.T
end

section
namespace Go.Ab.T
set_option maxRecDepth 8000
set_option maxHeartbeats 1000000
def exP : AV := .sl [.agg [.int .i64 0, .int .i64 0, .int .i64 2], .agg [.int .i64 0, .int .i64 1, .int .i64 1], .agg [.int .i64 0, .int .i64 2, .int .i64 3], .agg [.int .i64 1, .int .i64 2, .int .i64 3]] .unk
theorem RVw_Gone : RV ft 16 [encH hE, I64 2, exP] (.tup [I64 7, I64 0]) := RV_of_run2 100 (by kernel_rfl)
theorem RVw_same : RV ft 18 [encIs [0, 1, 2], .sl [.int .i64 0, .int .i64 1, .int .i64 2] .unk] (.bool true) := RV_of_run2 100 (by kernel_rfl)
theorem works_ok : RV ft 12 [] (.bool true) := by
  obtain ⟨n, h1, hM⟩ := Most_ok hE_V (T := 2) (by omega) (by omega)
  obtain rfl := h1.uniq M2
  have hEm : RV ft 29 [encH hE] (.tup [I64 3, I64 0]) := by
    rcases Empty_ok hE_V with ⟨m, hm, h2⟩ | ⟨hn, _⟩
    · obtain rfl := hm.uniq IsE3; exact h2
    · exact absurd (canE_mono hE_V (by omega) (by omega) E3) hn
  have hN := Needed_ok hE_V (T := 3) (by omega) (by omega)
  rw [show hE.s.length = 4 from rfl, N3] at hN
  refine RV_of ft12 rfl ?_
  simp only [c12, r12]
  have hS : (encH hE).solids = true := rfl
  simp only [go_sem, Nat.reduceEqDiff, Nat.reduceAdd, Nat.reduceLT, Nat.reduceLeDiff, reduceIte, HEta, WB37, WVH_eq RVw_Example, true_and, hS, WB21, WVH_eq hM, WB29, WVH_eq hEm, WB33, WVH_eq hN]
  have hG := RVw_Gone
  unfold exP at hG
  simp only [go_sem, Nat.reduceEqDiff, Nat.reduceAdd, Nat.reduceLT, Nat.reduceLeDiff, reduceIte, WB16, WVH_eq hG, true_and, beq_self_eq_true, WB18, WVH_eq RVw_same]
theorem IsM.le_all {h : Ho} (hV : HV h) {T n : Int} (hT : 0 ≤ T) (hm : IsM h T n) : n ≤ allP h := by
  have h1 := hm.le (fun _ => T + 1) fun r hr => ⟨by show 0 ≤ T + 1; omega, Int.le_refl _⟩
  rwa [bnd_top h hV hT] at h1
theorem canE_0 {h : Ho} (hV : HV h) (hc : canE h 0) : allP h = 0 := by
  have h1 := hc (fun _ => 0) fun r hr => ⟨Int.le_refl _, by show (0 : Int) ≤ 0 + 1; omega⟩
  have h2 : bnd h 0 (fun _ => 0) = 0 := by
    unfold bnd
    rw [sumR_z (n := h.p.length) fun r hr => if_neg (show ¬(0 : Int) < 0 by omega), sumR_z (n := h.s.length) fun i hi => sumR_z fun m hm => ?_]
    · rfl
    · have hq := hV.sv _ (pq_mem hi)
      have := nM_lt hq.k0 hm
      have := hq.k0
      omega
  have h3 := (sumL_bd h.p hV.pe).1
  unfold allP at h1 ⊢
  unfold allP at *
  omega
theorem Earliest_ok (h : Ho) : RV ft 7 [encH h] (.bool true) := by
  refine RV_of ft7 rfl ?_
  simp only [c7, r7]
  cases hr : readyB h 0
  · have hR := ready_ok h 0
    rw [hr] at hR
    simp only [go_sem, Nat.reduceEqDiff, Nat.reduceAdd, Nat.reduceLT, Nat.reduceLeDiff, reduceIte, HEta, WB35, WVH_eq hR, true_and, WB12, WVH_eq works_ok]
  · have hR := ready_ok h 0
    rw [hr] at hR
    obtain ⟨hV, n3, s5, a12, _, _⟩ := ready_iff'.1 hr
    have hA := All_ok hV
    rcases Empty_ok hV with ⟨m, hm, h2⟩ | ⟨hn, h2⟩
    · obtain ⟨n, h3, h4⟩ := Most_ok hV (T := m) (by omega) (by have := hm.le; omega)
      obtain rfl := (h3.canE hV (by omega)).2 hm.yes
      have d1 : decide ((m : Int) < 0) = false := decide_eq_false (by omega)
      have d2 : decide ((60 : Int) < (m : Int)) = false := decide_eq_false (by have := hm.le; omega)
      by_cases h0 : m = 0
      · subst h0
        have e0 := canE_0 hV hm.yes
        rw [e0] at hA h4
        have e1 : ((0 : Nat) : Int) = 0 := rfl
        rw [e1] at h4 h2
        simp only [go_sem, Nat.reduceEqDiff, Nat.reduceAdd, Nat.reduceLT, Nat.reduceLeDiff, reduceIte, HEta, WB35, WVH_eq hR, true_and, WB12, WVH_eq works_ok, WB29, WVH_eq h2, WB21, WVH_eq h4, WB36, WVH_eq hA, bne_self_eq_false, beq_self_eq_true, show decide ((0 : Int) < 0) = false from rfl, show decide ((60 : Int) < 0) = false from rfl]
      · obtain ⟨n', h5, h6⟩ := Most_ok hV (T := ((m - 1 : Nat) : Int)) (by omega) (by have := hm.le; omega)
        have w : IntKind.i64.wrap ((m : Int) - 1) = ((m - 1 : Nat) : Int) := by rw [wrap_i64 _ (by have := hm.le; omega) (by have := hm.le; omega)]; omega
        have e0 : ((m : Int) == 0) = false := by simpa using h0
        have d3 : decide (n' < allP h) = true := decide_eq_true (by
          have := h5.le_all hV (by omega)
          have : n' ≠ allP h := fun he => hm.no (m - 1) (by omega) ((h5.canE hV (by omega)).1 he)
          omega)
        simp only [go_sem, Nat.reduceEqDiff, Nat.reduceAdd, Nat.reduceLT, Nat.reduceLeDiff, reduceIte, HEta, WB35, WVH_eq hR, true_and, WB12, WVH_eq works_ok, WB29, WVH_eq h2, WB21, WVH_eq h4, WVH_eq h6, WB36, WVH_eq hA, bne_self_eq_false, beq_self_eq_true, d1, d2, e0, w, d3]
    · obtain ⟨n', h5, h6⟩ := Most_ok hV (T := 10) (by omega) (by omega)
      have d3 : decide (n' < allP h) = true := decide_eq_true (by
        have := h5.le_all hV (by omega)
        have : n' ≠ allP h := fun he => hn (canE_mono hV (by omega) (by omega) ((h5.canE hV (by omega)).1 he))
        omega)
      simp only [go_sem, Nat.reduceEqDiff, Nat.reduceAdd, Nat.reduceLT, Nat.reduceLeDiff, reduceIte, HEta, WB35, WVH_eq hR, true_and, WB12, WVH_eq works_ok, WB29, WVH_eq h2, WB21, WVH_eq h6, WB36, WVH_eq hA, show ((3 : Int) != 0) = true from rfl, beq_self_eq_true, d3]
end Go.Ab.T
end
