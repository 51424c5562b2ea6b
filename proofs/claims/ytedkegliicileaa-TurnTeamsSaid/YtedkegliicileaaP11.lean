/-
  A part of the proofs over this seat.
  (The texts KzK21, one behind the other.)
-/
import Derived.Test.YtedkegliicileaaP10
import Derived.Test.YtedkegliicileaaP6
set_option linter.unusedSimpArgs false
set_option linter.unusedVariables false
set_option linter.unusedSectionVars false
section
namespace Go.Ab.T
set_option maxRecDepth 8000
set_option maxHeartbeats 4000000
theorem asgQ_spec {h : Hs} {l : List Sl} (hV : LV h l) : (asgQ h l).2 = 0 ∧ (∀ t ∈ (asgQ h l).1, 0 ≤ t ∧ t < h.teams) ∧ freeB h l (asgQ h l).1 zeroI zeroI = true ∧ feas h h.teams.toNat l = true ∨ asgQ h l = ([], 3) ∧ feas h h.teams.toNat l = false := by
  unfold asgQ feas
  rw [if_pos (chk_0.2 hV)]
  have t0 := hV.H.t0
  cases hs : asg h h.teams.toNat l zeroI zeroI with
  | none => exact .inr ⟨rfl, rfl⟩
  | some ts =>
    obtain ⟨h1, h2⟩ := asg_some hs
    exact .inl ⟨rfl, fun t ht => by have := h2 t ht; omega, h1, rfl⟩
theorem with_late {h : Hs} {l : List Sl} {n : Int} {ts : List Int} (hV : LV { h with teams := n } (withT l ts)) (hl : ts.length = l.length) (hf : freeB h l ts zeroI zeroI = true) : (lateE { h with teams := n } (withT l ts)).1 = -1 := by
  unfold lateE
  rw [if_pos (chk_0.2 hV)]
  have : ∀ (l : List Sl) (rd id : Int → Int) (k : Int), lateGo { h with teams := n } l rd id k = lateGo h l rd id k := by
    intro l
    induction l with
    | nil => intros; rfl
    | cons s l ih =>
      intro rd id k
      rw [lateGo, lateGo]
      have he : evH { h with teams := n } true s rd id = evH h true s rd id := rfl
      simp only [he, ih]
  rw [this]
  exact (lateGo_free h hl (Int.le_refl 0)).1.2 hf
theorem TurnTeams_run (h : Hs) (l : List Sl) : RV ft 11 [encH h, encSs l] (.bool true) := by
  refine RV_of ft11 rfl ?_
  simp only [c11, r11]
  cases hf : decide ((40 : Int) < (l.length : Int))
  case true => simp only [go_sem, Nat.reduceEqDiff, Nat.reduceAdd, Nat.reduceLT, Nat.reduceLeDiff, reduceIte, and_self, decide_true, decide_false, beq_self_eq_true, HCells, HEta, WB30, snSs, hotSs, WVH_eq (Far_ok l), hf, true_and, Ss_len, WB15, WVH_eq works_ok]
  have hf' := of_decide_eq_false hf
  have hA := Assign_ok h l
  have hFw := Fewest_ok h l
  have hFr := FewestR_ok h l
  have hCA := CheckAssign_ok h l
  have e1 : ∀ a : Int, (a != a) = false := fun a => by simp
  have core : ∀ (Q : Prop), Q → Q := fun _ h => h
  have hlen0 : ∀ b : Bool, (b = true → (asgQ h l).1.length = 0) → True := fun _ _ => trivial
  have hemp : (asgQ h l).2 ≠ 0 → (asgQ h l).1 = [] := by
    intro hne
    unfold asgQ at hne ⊢
    split
    · rename_i hc
      rw [if_pos hc] at hne
      cases hs : asg h h.teams.toNat l zeroI zeroI with
      | none => rfl
      | some ts => rw [hs] at hne; exact absurd rfl hne
    · rfl
  have hsp : (decide ((6 : Int) < (l.length : Int)) = true ∧ decide ((l.length : Int) ≤ 12) = true) ∨ (decide ((6 : Int) < (l.length : Int)) = true ∧ decide ((l.length : Int) ≤ 12) = false) ∨ (decide ((6 : Int) < (l.length : Int)) = false ∧ True) := by
    cases decide ((6 : Int) < (l.length : Int)) <;> cases decide ((l.length : Int) ≤ 12) <;> simp
  rcases hsp with ⟨g6, g12⟩ | ⟨g6, g12⟩ | ⟨g6, g12⟩
  · simp only [go_sem, Nat.reduceEqDiff, Nat.reduceAdd, Nat.reduceLT, Nat.reduceLeDiff, reduceIte, and_self, decide_true, decide_false, beq_self_eq_true, HCells, HEta, WB30, snSs, hotSs, WVH_eq (Far_ok l), hf, true_and, Ss_len, g6, g12, WB15, WVH_eq works_ok]
  all_goals
    by_cases he : (asgQ h l).2 = 0
    case neg =>
      have hne : ((asgQ h l).2 != 0) = true := by simp [bne, he]
      have hz : decide ((0 : Int) < ((asgQ h l).1.length : Int)) = false := by rw [hemp he]; rfl
      simp only [go_sem, Nat.reduceEqDiff, Nat.reduceAdd, Nat.reduceLT, Nat.reduceLeDiff, reduceIte, and_self, decide_true, decide_false, beq_self_eq_true, HCells, HEta, WB30, snSs, hotSs, WVH_eq (Far_ok l), hf, true_and, Ss_len, g6, g12, WB20, copied_W l (by omega), cp_shift, cp_join, cp_snap, cp_hot, WB25, snH, hotH, WVH_eq hA, WB24, WVH_eq hFw, WB37, WVH_eq hFr, WB38, WVH_eq hCA, e1, hne, I_len, hz, WB15, WVH_eq works_ok]
    have hc : chk h l = 0 := by
      unfold asgQ at he
      split at he
      · assumption
      · rename_i hc; exact absurd he hc
    have hV := chk_0.1 hc
    rcases asgQ_spec hV with ⟨_, hr, hfree, _⟩ | ⟨h1, _⟩
    case inr => rw [h1] at he; simp at he
    have hts : (asgQ h l).1.length = l.length := freeB_len h hfree
    have hWi := With_ok l (asgQ h l).1 hts (by omega)
    have hV2 : LV h (withT l (asgQ h l).1) := withT_LV hV hV.H.t0 hV.H.t1 hts hr
    have hck := CheckV_ok hV2
    have hLa := LateR_ok h (withT l (asgQ h l).1)
    have hl1 : (lateE h (withT l (asgQ h l).1)).1 = -1 := with_late (n := h.teams) hV2 hts hfree
    rw [hl1, chk_0.2 hV2] at hLa
    rw [he] at hA hCA
    have h00 : ((0 : Int) != 0) = false := rfl
    have hlen : ((asgQ h l).1.length : Int) = l.length := by rw [hts]
    have hne : ((l.length : Int) != (l.length : Int)) = false := by simp
    have hm1 : ((-1 : Int) == -1) = true := rfl
    simp only [go_sem, Nat.reduceEqDiff, Nat.reduceAdd, Nat.reduceLT, Nat.reduceLeDiff, reduceIte, and_self, decide_true, decide_false, beq_self_eq_true, HCells, HEta, WB30, snSs, hotSs, WVH_eq (Far_ok l), hf, true_and, Ss_len, g6, g12, WB20, copied_W l (by omega), cp_shift, cp_join, cp_snap, cp_hot, WB25, snH, hotH, WVH_eq hA, WB24, WVH_eq hFw, WB37, WVH_eq hFr, WB38, WVH_eq hCA, e1, h00, I_len, hlen, hne, WB26, snI, hotI, WVH_eq hWi, WB27, WVH_eq hck, WB33, WVH_eq hLa, hm1, WB15, WVH_eq works_ok]
end Go.Ab.T
end
