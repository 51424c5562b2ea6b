/-
  A part of the proofs over this seat.
  (The texts KzK22, one behind the other.)
-/
import Derived.Test.YtedkegliicileaaP11
set_option linter.unusedSimpArgs false
set_option linter.unusedVariables false
set_option linter.unusedSectionVars false
section
namespace Go.Ab.T
set_option maxRecDepth 8000
set_option maxHeartbeats 4000000
theorem eqvB2 (a b : Bool) : eqAV false [.b] (.bool a) (.bool b) = some (a == b) := by
  show eqs [.b] [.bool a] [.bool b] = _
  rw [eqs_b, eqs_nil]; simp
theorem fewQ_spec {h : Hs} {l : List Sl} (hV : LV h l) : (fewQ h l = (0, 3) ∧ ∀ j, 1 ≤ j → j < 5 → feas h j l = false) ∨ ∃ n : Nat, fewQ h l = ((n : Int), 0) ∧ 1 ≤ n ∧ n < 5 ∧ feas h n l = true ∧ ∀ j, 1 ≤ j → j < n → feas h j l = false := by
  unfold fewQ
  rw [if_pos (chk_0.2 hV)]
  exact fewGo_spec' (p := fun k => feas h k l) (g := fewGo h l) (fun _ => rfl) (fun _ _ => rfl) 4 1
theorem lateGo_teams (h : Hs) (n : Int) : ∀ (l : List Sl) (rd id : Int → Int) (k : Int), lateGo { h with teams := n } l rd id k = lateGo h l rd id k
  | [], _, _, _ => rfl
  | s :: l, rd, id, k => by
    rw [lateGo, lateGo]
    have he : evH { h with teams := n } true s rd id = evH h true s rd id := rfl
    simp only [he, lateGo_teams h n l]
theorem TurnFewest_run (h : Hs) (l : List Sl) (tms : List Int) : RV ft 7 [encH h, encSs l, encI tms] (.bool true) := by
  refine RV_of ft7 rfl ?_
  simp only [c7, r7]
  cases hv : validL h l
  case false => simp only [go_sem, Nat.reduceEqDiff, Nat.reduceAdd, Nat.reduceLT, Nat.reduceLeDiff, reduceIte, and_self, decide_true, decide_false, beq_self_eq_true, HCells, HEta, WB13, snH, hotH, snSs, hotSs, WVH_eq (valid_ok h l), hv, true_and, WB15, WVH_eq works_ok]
  have hV := validL_iff.1 hv
  have hH := hV.H
  have hl12 := hV.len
  cases g6 : decide ((6 : Int) < (l.length : Int))
  case true => simp only [go_sem, Nat.reduceEqDiff, Nat.reduceAdd, Nat.reduceLT, Nat.reduceLeDiff, reduceIte, and_self, decide_true, decide_false, beq_self_eq_true, HCells, HEta, WB13, snH, hotH, snSs, hotSs, WVH_eq (valid_ok h l), hv, true_and, Ss_len, g6, WB15, WVH_eq works_ok]
  cases gl : ((tms.length : Int) != (l.length : Int))
  case true => simp only [go_sem, Nat.reduceEqDiff, Nat.reduceAdd, Nat.reduceLT, Nat.reduceLeDiff, reduceIte, and_self, decide_true, decide_false, beq_self_eq_true, HCells, HEta, WB13, snH, hotH, snSs, hotSs, WVH_eq (valid_ok h l), hv, true_and, Ss_len, g6, I_len, gl, WB15, WVH_eq works_ok]
  have hts : tms.length = l.length := by simp [bne] at gl; omega
  have hA := Assign_ok h l
  have hFw := Fewest_ok h l
  have t0 := hH.t0
  have t1 := hH.t1
  have h00 : ((0 : Int) != 0) = false := rfl
  have h00e : ((0 : Int) == 0) = true := rfl
  have h30 : ((3 : Int) != 0) = true := rfl
  have h33 : ((3 : Int) != 3) = false := rfl
  have h30e : ((3 : Int) == 0) = false := rfl
  have hm1 : ((-1 : Int) != -1) = false := rfl
  have bTT : (true == true) = true := rfl
  have bFF : (false == false) = true := rfl
  have hW2 := With_ok l tms hts (by omega)
  obtain ⟨g, hg⟩ : ∃ g : Hs, g = { h with teams := 4 } := ⟨_, rfl⟩
  have hwg : writeCells (encH h) 0 [I64 4] = some (encH g) := by rw [hg]; rfl
  have hck := CheckR_ok g (withT l tms)
  obtain ⟨N, hN⟩ : ∃ N, N = (fewQ h l).1 := ⟨_, rfl⟩
  obtain ⟨E, hE⟩ : ∃ E, E = (fewQ h l).2 := ⟨_, rfl⟩
  rw [← hN, ← hE] at hFw
  -- what the end needs
  have hend : chk g (withT l tms) = 0 → ∃ L : Int × Int, RV ft 17 [encH g, encSs (withT l tms)] (.tup [I64 L.1, I64 L.2, I64 0]) ∧ (decide (0 ≤ L.1) = true ∨ (decide (0 ≤ L.1) = false ∧ E = 0 ∧ decide (N ≤ max 1 (cntT tms 4 : Int)) = true)) := by
    intro hc
    have hV2 := chk_0.1 hc
    refine ⟨_, LateV_ok hV2, ?_⟩
    have hL : lateE g (withT l tms) = lateGo h (withT l tms) zeroI zeroI 0 := by
      unfold lateE; rw [if_pos hc, hg, lateGo_teams]
    rw [hL]
    obtain ⟨k1, k2⟩ := lateGo_free h (l := l) (ts := tms) (rd := zeroI) (id := zeroI) (n := 0) hts (Int.le_refl _)
    cases hf : freeB h l tms zeroI zeroI with
    | false => exact .inl (decide_eq_true (k2 hf))
    | true =>
      have hm := k1.2 hf
      have hr : ∀ t ∈ tms, 0 ≤ t ∧ t < 4 := by
        intro t ht
        rw [List.mem_iff_getElem?] at ht
        obtain ⟨i, hi⟩ := ht
        have hlt : i < l.length := by have := (List.getElem?_eq_some_iff.1 hi).1; omega
        have hw := withT_get (List.getElem?_eq_getElem hlt) hi
        have hS := hV2.S _ (List.mem_of_getElem? hw)
        have a1 : (0 : Int) ≤ t := hS.t0
        have a2 : t ≤ g.teams - 1 := hS.t1
        rw [hg] at a2
        dsimp only at a2
        omega
      have hfm := feas_many hr hf
      have hcl : cntT tms 4 ≤ 4 := by
        have := List.length_filter_le (usedT tms) (List.range 4)
        rw [List.length_range] at this; exact this
      have hfm2 : feas h (max 1 (cntT tms 4)) l = true := feas_mono (by omega) hfm
      refine .inr ⟨decide_eq_false (by omega), ?_⟩
      rcases fewQ_spec hV with ⟨g1, g2⟩ | ⟨n, g1, g2, g3, g4, g5⟩
      · rw [g2 _ (by omega) (by omega)] at hfm2; cases hfm2
      · rw [g1] at hN hE
        refine ⟨hE, decide_eq_true ?_⟩
        have hN' : N = n := hN
        refine Classical.byContradiction fun hn => ?_
        rw [g5 (max 1 (cntT tms 4)) (by omega) (by omega)] at hfm2; cases hfm2
  -- the three ways
  have hway : (E = 0 ∧ 1 ≤ N ∧ N ≤ 4 ∧ N ≤ h.teams ∧ (asgQ h l).2 = 0 ∧ (∀ t ∈ (asgQ h l).1, 0 ≤ t ∧ t < h.teams) ∧ freeB h l (asgQ h l).1 zeroI zeroI = true) ∨ (E = 0 ∧ 1 ≤ N ∧ N ≤ 4 ∧ ¬N ≤ h.teams ∧ asgQ h l = ([], 3)) ∨ (E = 3 ∧ asgQ h l = ([], 3)) := by
    rcases fewQ_spec hV with ⟨g1, g2⟩ | ⟨n, g1, g2, g3, g4, g5⟩
    · right; right
      rw [g1] at hE
      refine ⟨hE, ?_⟩
      rcases asgQ_spec hV with ⟨_, _, _, k4⟩ | ⟨k1, _⟩
      · rw [g2 h.teams.toNat (by omega) (by omega)] at k4; cases k4
      · exact k1
    · rw [g1] at hN hE
      have hN' : N = n := hN
      rcases asgQ_spec hV with ⟨k1, k2, k3, k4⟩ | ⟨k1, k2⟩
      · left
        refine ⟨hE, by omega, by omega, ?_, k1, k2, k3⟩
        refine Classical.byContradiction fun hn => ?_
        rw [g5 h.teams.toNat (by omega) (by omega)] at k4; cases k4
      · right; left
        refine ⟨hE, by omega, by omega, fun hn => ?_, k1⟩
        rw [feas_mono (show n ≤ h.teams.toNat by omega) g4] at k2; cases k2
  rcases hway with ⟨w1, w2, w3, w4, w5, w6, w7⟩ | ⟨w1, w2, w3, w4, w5⟩ | ⟨w1, w5⟩
  case' inl =>
    have ho : (asgQ h l).1.length = l.length := freeB_len h w7
    have hWo := With_ok l (asgQ h l).1 ho (by omega)
    have hVo : LV h (withT l (asgQ h l).1) := withT_LV hV t0 t1 ho w6
    have hcko := CheckV_ok hVo
    have hLo := LateV_ok hVo
    rw [with_late (n := h.teams) hVo ho w7] at hLo
    have holen : ((asgQ h l).1.length : Int) = l.length := by rw [ho]
    have hne : ((l.length : Int) != (l.length : Int)) = false := by simp
    have d1 : decide (N ≤ h.teams) = true := decide_eq_true w4
    have d2 : decide (N < 1) = false := decide_eq_false (by omega)
    have d3 : decide (4 < N) = false := decide_eq_false (by omega)
    rw [w5] at hA
    rw [w1] at hFw
    simp only [go_sem, Nat.reduceEqDiff, Nat.reduceAdd, Nat.reduceLT, Nat.reduceLeDiff, reduceIte, and_self, decide_true, decide_false, beq_self_eq_true, HCells, HEta, WB13, snH, hotH, snSs, hotSs, WVH_eq (valid_ok h l), hv, true_and, Ss_len, g6, I_len, gl, WB24, WVH_eq hFw, WB25, WVH_eq hA, h00, h00e, d1, d2, d3, eqvB2, bTT, if_true, WB26, snI, hotI, WVH_eq hWo, holen, hne, WB27, WVH_eq hcko, WB17, WVH_eq hLo, hm1, WVH_eq hW2, hwg]
  case' inr.inl =>
    have d1 : decide (N ≤ h.teams) = false := decide_eq_false w4
    have d2 : decide (N < 1) = false := decide_eq_false (by omega)
    have d3 : decide (4 < N) = false := decide_eq_false (by omega)
    rw [w5] at hA
    rw [w1] at hFw
    simp only [go_sem, Nat.reduceEqDiff, Nat.reduceAdd, Nat.reduceLT, Nat.reduceLeDiff, reduceIte, and_self, decide_true, decide_false, beq_self_eq_true, HCells, HEta, WB13, snH, hotH, snSs, hotSs, WVH_eq (valid_ok h l), hv, true_and, Ss_len, g6, I_len, gl, WB24, WVH_eq hFw, WB25, WVH_eq hA, h00, h00e, h30, h33, h30e, d1, d2, d3, eqvB2, bFF, if_true, WB26, snI, hotI, WVH_eq hW2, WB27, hwg]
  case' inr.inr =>
    rw [w5] at hA
    rw [w1] at hFw
    simp only [go_sem, Nat.reduceEqDiff, Nat.reduceAdd, Nat.reduceLT, Nat.reduceLeDiff, reduceIte, and_self, decide_true, decide_false, beq_self_eq_true, HCells, HEta, WB13, snH, hotH, snSs, hotSs, WVH_eq (valid_ok h l), hv, true_and, Ss_len, g6, I_len, gl, WB24, WVH_eq hFw, WB25, WVH_eq hA, h00, h00e, h30, h33, h30e, eqvB2, bFF, if_true, WB26, snI, hotI, WVH_eq hW2, WB27, hwg]
  all_goals
    by_cases hc : chk g (withT l tms) = 0
    case neg => simp only [go_sem, Nat.reduceEqDiff, Nat.reduceAdd, Nat.reduceLT, Nat.reduceLeDiff, reduceIte, and_self, decide_true, decide_false, beq_self_eq_true, WVH_eq hck, chk_ne hc, true_and, WB15, WVH_eq works_ok]
    rw [hc] at hck
    obtain ⟨L, hLa, hLc⟩ := hend hc
    simp only [go_sem, Nat.reduceEqDiff, Nat.reduceAdd, Nat.reduceLT, Nat.reduceLeDiff, reduceIte, and_self, decide_true, decide_false, beq_self_eq_true, WVH_eq hck, h00, true_and]
    refine WL_inv (α := Nat) (fun k e mm => e 2 = encI tms ∧ e 7 = I64 N ∧ e 8 = I64 E ∧ e 15 = .ptr 1 0 0 ∧ e 16 = encSs (withT l tms) ∧ e 17 = I64 (cntT tms k) ∧ e 18 = I64 k ∧ k ≤ 4 ∧ mm = ⟨[.live [encH h] 8, .live [encH g] 8], []⟩) (fun k => 4 - k) 0 ?_ ?_
    · simp only [go_sem, Nat.reduceEqDiff, Nat.reduceAdd, Nat.reduceLT, Nat.reduceLeDiff, reduceIte, and_self, decide_true, decide_false, beq_self_eq_true]
      ((repeat' apply And.intro) <;> first | trivial | rfl | omega | rw [w1])
    rintro k e mm ⟨f2, f7, f8, f15, f16, f17, f18, hk4, rfl⟩
    by_cases hk : k < 4
    · have dk : decide ((k : Int) < 4) = true := decide_eq_true (by omega)
      have hcs := cntT_succ tms k
      have hcb : cntT tms k ≤ k := by
        have := List.length_filter_le (usedT tms) (List.range k)
        rw [List.length_range] at this; exact this
      simp only [go_sem, Nat.reduceEqDiff, Nat.reduceAdd, Nat.reduceLT, Nat.reduceLeDiff, reduceIte, and_self, decide_true, decide_false, beq_self_eq_true, f2, f7, f8, f15, f16, f17, f18, dk]
      refine WL_inv (α := Nat) (fun j e mm => e 2 = encI tms ∧ e 7 = I64 N ∧ e 8 = I64 E ∧ e 15 = .ptr 1 0 0 ∧ e 16 = encSs (withT l tms) ∧ e 17 = I64 (cntT tms k) ∧ e 18 = I64 k ∧ e 19 = I64 j ∧ j ≤ tms.length ∧ (∀ (i : Nat) x, i < j → tms[i]? = some x → (x == (k : Int)) = false) ∧ mm = ⟨[.live [encH h] 8, .live [encH g] 8], []⟩) (fun j => tms.length - j) 0 ?_ ?_
      · simp only [go_sem, Nat.reduceEqDiff, Nat.reduceAdd, Nat.reduceLT, Nat.reduceLeDiff, reduceIte, and_self, decide_true, decide_false, beq_self_eq_true, f2, f7, f8, f15, f16, f17, f18]
        exact ⟨trivial, trivial, trivial, trivial, trivial, trivial, trivial, rfl, Nat.zero_le _, fun i x hi => by omega, trivial⟩
      clear f2 f7 f8 f15 f16 f17 f18 e
      rintro j e mm ⟨f2, f7, f8, f15, f16, f17, f18, f19, hj, hno, rfl⟩
      by_cases hjl : j < tms.length
      · obtain ⟨x, hx⟩ : ∃ x, tms[j]? = some x := ⟨_, List.getElem?_eq_getElem hjl⟩
        cases hxk : (x == (k : Int))
        · simp only [go_sem, Nat.reduceEqDiff, Nat.reduceAdd, Nat.reduceLT, Nat.reduceLeDiff, reduceIte, and_self, decide_true, decide_false, beq_self_eq_true, f2, f7, f8, f15, f16, f17, f18, f19, I_len, dec_lt hjl, I_idx _ hx, encN_eq, hxk, wrap_n1 j (by omega)]
          refine Nx_of (j + 1) (by show tms.length - (j + 1) < tms.length - j; omega) ?_
          simp only [go_sem, Nat.reduceEqDiff, Nat.reduceAdd, Nat.reduceLT, Nat.reduceLeDiff, reduceIte, and_self, decide_true, decide_false, beq_self_eq_true, f2, f7, f8, f15, f16, f17, f18]
          exact ⟨trivial, trivial, trivial, trivial, trivial, trivial, trivial, trivial, hjl, fun i y hi hy => by
            by_cases hij : i = j
            · subst hij; rw [hx] at hy; cases hy; exact hxk
            · exact hno i y (by omega) hy, trivial⟩
        · have hu : usedT tms k = true := List.any_eq_true.2 ⟨x, List.mem_of_getElem? hx, hxk⟩
          rw [if_pos hu] at hcs
          simp only [go_sem, Nat.reduceEqDiff, Nat.reduceAdd, Nat.reduceLT, Nat.reduceLeDiff, reduceIte, and_self, decide_true, decide_false, beq_self_eq_true, f2, f7, f8, f15, f16, f17, f18, f19, I_len, dec_lt hjl, I_idx _ hx, encN_eq, hxk, wrap_n1 k (by omega), wrap_n1 (cntT tms k) (by omega)]
          refine Nx_of (k + 1) (by show 4 - (k + 1) < 4 - k; omega) ?_
          simp only [go_sem, Nat.reduceEqDiff, Nat.reduceAdd, Nat.reduceLT, Nat.reduceLeDiff, reduceIte, and_self, decide_true, decide_false, beq_self_eq_true, f2, f7, f8, f15, f16]
          exact ⟨trivial, trivial, trivial, trivial, trivial, congrArg (fun n : Nat => I64 (n : Int)) hcs.symm, trivial, by omega, trivial⟩
      · have hu : usedT tms k = false := List.any_eq_false.2 fun x hx => by
          rw [List.mem_iff_getElem?] at hx
          obtain ⟨i, hi⟩ := hx
          have := hno i x (by have := (List.getElem?_eq_some_iff.1 hi).1; omega) hi
          simp [this]
        rw [hu, if_neg (by simp), Nat.add_zero] at hcs
        simp only [go_sem, Nat.reduceEqDiff, Nat.reduceAdd, Nat.reduceLT, Nat.reduceLeDiff, reduceIte, and_self, decide_true, decide_false, beq_self_eq_true, f2, f7, f8, f15, f16, f17, f18, f19, I_len, dec_ge (Nat.le_of_not_lt hjl), wrap_n1 k (by omega)]
        refine Nx_of (k + 1) (by show 4 - (k + 1) < 4 - k; omega) ?_
        simp only [go_sem, Nat.reduceEqDiff, Nat.reduceAdd, Nat.reduceLT, Nat.reduceLeDiff, reduceIte, and_self, decide_true, decide_false, beq_self_eq_true, f2, f7, f8, f15, f16, f17]
        exact ⟨trivial, trivial, trivial, trivial, trivial, congrArg (fun n : Nat => I64 (n : Int)) hcs.symm, trivial, by omega, trivial⟩
    obtain rfl : k = 4 := by omega
    have dk : decide (((4 : Nat) : Int) < 4) = false := rfl
    rcases hLc with p1 | ⟨p1, p2, p3⟩
    · simp only [go_sem, Nat.reduceEqDiff, Nat.reduceAdd, Nat.reduceLT, Nat.reduceLeDiff, reduceIte, and_self, decide_true, decide_false, beq_self_eq_true, f2, f7, f8, f15, f16, f17, f18, dk, HCells, HEta, WB17, snH, hotH, snSs, hotSs, WVH_eq hLa, true_and, h00e, p1, WB15, WVH_eq works_ok]
    · first
        | (exfalso; rw [w1] at p2; cases p2; done)
        | (rw [p2] at f8
           simp only [go_sem, Nat.reduceEqDiff, Nat.reduceAdd, Nat.reduceLT, Nat.reduceLeDiff, reduceIte, and_self, decide_true, decide_false, beq_self_eq_true, f2, f7, f8, f15, f16, f17, f18, dk, HCells, HEta, WB17, snH, hotH, snSs, hotSs, WVH_eq hLa, true_and, h00e, p1, p3, WB15, WVH_eq works_ok])
end Go.Ab.T
end
