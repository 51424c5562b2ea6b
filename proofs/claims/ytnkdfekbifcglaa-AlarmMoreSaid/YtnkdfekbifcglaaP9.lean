/-
  A part of the proofs over this seat.
  (The texts KrK11, one behind the other.)
-/
import Derived.Test.YtnkdfekbifcglaaP8
set_option linter.unusedSimpArgs false
set_option linter.unusedVariables false
set_option linter.unusedSectionVars false
section
namespace Go.Ab.T
set_option maxRecDepth 8000
set_option maxHeartbeats 1000000
theorem vHo_len {h : Ho} (hl : isW h.p.length 1 6 = false ∨ decide ((h.s.length : Int) ≤ 12) = false) : vHo h = false := by
  unfold vHo; rcases hl with hl | hl <;> rw [hl] <;> simp
theorem vHo_p {h : Ho} {x : Int} (hx : x ∈ h.p) (hb : isW x 0 99 = false) : vHo h = false := by
  cases hv : vHo h with
  | false => rfl
  | true => have := (vHo_iff.1 hv).pe x hx; rw [isW_iff.2 this] at hb; cases hb
theorem vHo_s {h : Ho} {q : Pas} (hx : q ∈ h.s) (hb : vPas h.p.length q = false) : vHo h = false := by
  cases hv : vHo h with
  | false => rfl
  | true => have := vPas_iff (by have := (vHo_iff.1 hv).n1; omega) |>.2 ((vHo_iff.1 hv).sv q hx); rw [this] at hb; cases hb
def chkV (b : Bool) : AV := I64 (if b = true then 0 else 110)
def vP2 (n : Int) (q : Pas) : Bool := (((isW q.fr 0 (n - 1) && isW q.to (-1) (n - 1)) && !(q.fr == q.to)) && isW q.wd 0 20) && isW q.wk 1 9
theorem vP2_eq {n : Int} (hn : 1 ≤ n) (q : Pas) : vP2 n q = vPas n q := by
  have h1 := @vPas_iff n q hn
  have h2 : vP2 n q = true ↔ PV n q := by
    unfold vP2
    simp only [Bool.and_eq_true, isW_iff, Bool.not_eq_true', beq_eq_false_iff_ne]
    exact ⟨fun ⟨⟨⟨⟨⟨a, b⟩, c, d⟩, e⟩, f, g⟩, i, j⟩ => ⟨a, by omega, c, by omega, e, f, g, i, j⟩, fun ⟨a, b, c, d, e, f, g, i, j⟩ => ⟨⟨⟨⟨⟨a, by omega⟩, c, by omega⟩, e⟩, f, g⟩, i, j⟩⟩
  cases a : vP2 n q <;> cases b : vPas n q <;> simp_all
theorem refCheck_ok (h : Ho) (hl : h.p.length ≤ 40) (hs : h.s.length ≤ 40) : RV ft 15 [encH h] (chkV (vHo h)) := by
  refine RV_of ft15 rfl ?_
  simp only [c15, r15]
  by_cases hA : isW h.p.length 1 6 = true ∧ decide ((h.s.length : Int) ≤ 12) = true
  · obtain ⟨a1, a3⟩ := hA
    have a3' : decide ((12 : Int) < (h.s.length : Int)) = false := by have := of_decide_eq_true a3; exact decide_eq_false (by omega)
    have a0 := isW_iff.1 a1
    have w1 := wrap_i64 ((h.p.length : Int) - 1) (by omega) (by omega)
    simp only [go_sem, Nat.reduceEqDiff, Nat.reduceAdd, Nat.reduceLT, Nat.reduceLeDiff, reduceIte, WB39, WVH_eq (within_ok _ _ _), true_and, a1, a3', HEta]
    refine WL_inv (α := Nat) (fun q e mm => e 1 = .ptr 0 0 0 ∧ e 3 = I64 q ∧ q ≤ h.p.length ∧ (∀ k x, k < q → h.p[k]? = some x → isW x 0 99 = true) ∧ mm = ⟨[.live [encH h] 2], []⟩) (fun q => h.p.length - q) 0 ?_ ?_
    · simp only [go_sem, Nat.reduceEqDiff, Nat.reduceAdd, Nat.reduceLT, Nat.reduceLeDiff, reduceIte]
      exact ⟨trivial, rfl, Nat.zero_le _, (fun k x hk => by omega), trivial⟩
    rintro i e mm ⟨g1, g3, hi, hI, rfl⟩
    by_cases hlt : i < h.p.length
    · obtain ⟨x, hx⟩ : ∃ x, h.p[i]? = some x := ⟨_, List.getElem?_eq_getElem hlt⟩
      cases hb : isW x 0 99
      · have hv := vHo_p (List.mem_of_getElem? hx) hb
        simp only [go_sem, Nat.reduceEqDiff, Nat.reduceAdd, Nat.reduceLT, Nat.reduceLeDiff, reduceIte, g1, g3, dec_lt hlt, HCells, Is_idx hx, WB39, WVH_eq (within_ok _ _ _), true_and, hb]
        rw [hv]; rfl
      · simp only [go_sem, Nat.reduceEqDiff, Nat.reduceAdd, Nat.reduceLT, Nat.reduceLeDiff, reduceIte, g1, g3, dec_lt hlt, HCells, Is_idx hx, WB39, WVH_eq (within_ok _ _ _), true_and, hb, wrap_n1 i (by omega)]
        refine Nx_of (i + 1) (by show h.p.length - (i + 1) < h.p.length - i; omega) ?_
        simp only [go_sem, Nat.reduceEqDiff, Nat.reduceAdd, Nat.reduceLT, Nat.reduceLeDiff, reduceIte, g1]
        exact ⟨trivial, trivial, hlt, (fun k y hk hy => by
          rcases Nat.lt_or_ge k i with hk2 | hk2
          · exact hI k y hk2 hy
          · obtain rfl : k = i := by omega
            rw [hx] at hy; cases hy; exact hb), trivial⟩
    · have hie : i = h.p.length := by omega
      subst hie
      simp only [go_sem, Nat.reduceEqDiff, Nat.reduceAdd, Nat.reduceLT, Nat.reduceLeDiff, reduceIte, g1, g3, dec_ge (Nat.le_refl h.p.length), HCells]
      refine WL_inv (α := Nat × List Blk) (fun q e mm => e 1 = .ptr 0 0 0 ∧ e 4 = I64 q.1 ∧ q.1 ≤ h.s.length ∧ (∀ k x, k < q.1 → h.s[k]? = some x → vPas h.p.length x = true) ∧ mm = ⟨.live [encH h] 2 :: q.2, []⟩) (fun q => h.s.length - q.1) (0, []) ?_ ?_
      · simp only [go_sem, Nat.reduceEqDiff, Nat.reduceAdd, Nat.reduceLT, Nat.reduceLeDiff, reduceIte, g1]
        exact ⟨trivial, rfl, Nat.zero_le _, (fun k x hk => by omega), trivial⟩
      rintro ⟨i, j⟩ e mm ⟨g1, g4, hi, hJ, rfl⟩
      dsimp only at g4 hi hJ
      by_cases hlt : i < h.s.length
      · obtain ⟨q, hx⟩ : ∃ x, h.s[i]? = some x := ⟨_, List.getElem?_eq_getElem hlt⟩
        have gN : ∀ y : Blk, (j ++ [y])[j.length]? = some y := fun y => by simp
        have sN : ∀ y z : Blk, (j ++ [y]).set j.length z = j ++ [z] := fun y z => by simp
        have hPs : (encP q).solids = true := rfl
        have hv : vP2 h.p.length q = vPas h.p.length q := vP2_eq (by omega) q
        unfold vP2 at hv
        cases b1 : isW q.fr 0 ((h.p.length : Int) - 1) <;> cases b2 : isW q.to (-1) ((h.p.length : Int) - 1) <;> cases b3 : (q.fr == q.to) <;> cases b4 : isW q.wd 0 20 <;> cases b5 : isW q.wk 1 9 <;> rw [b1, b2, b3, b4, b5] at hv <;>
          simp only [go_sem, Nat.reduceEqDiff, Nat.reduceAdd, Nat.reduceLT, Nat.reduceLeDiff, reduceIte, g1, g4, dec_lt hlt, HCells, Ps_idx hx, gN, sN, hPs, PEta, PCells, w1, WB39, WVH_eq (within_ok _ _ _), true_and, b1, b2, b3, b4, b5, wrap_n1 i (by omega)] <;>
          first
          | (have hv2 := vHo_s (List.mem_of_getElem? hx) hv.symm; rw [hv2]; rfl)
          | skip
        refine Nx_of (i + 1, j ++ [.live [encP q] 4]) (by show h.s.length - (i + 1) < h.s.length - i; omega) ?_
        simp only [go_sem, Nat.reduceEqDiff, Nat.reduceAdd, Nat.reduceLT, Nat.reduceLeDiff, reduceIte, g1]
        exact ⟨trivial, trivial, hlt, (fun k y hk hy => by
          rcases Nat.lt_or_ge k i with hk2 | hk2
          · exact hJ k y hk2 hy
          · obtain rfl : k = i := by omega
            rw [hx] at hy; cases hy; exact hv.symm), trivial⟩
      · have hie : i = h.s.length := by omega
        subst hie
        simp only [go_sem, Nat.reduceEqDiff, Nat.reduceAdd, Nat.reduceLT, Nat.reduceLeDiff, reduceIte, g1, g4, dec_ge (Nat.le_refl h.s.length), HCells]
        have hv : vHo h = true := vHo_iff.2 ⟨by omega, by omega, fun x hx => by
          obtain ⟨k, hk, hkx⟩ := List.mem_iff_getElem?.1 hx |>.imp fun k hk => (⟨(List.getElem?_eq_some_iff.1 hk).1, hk⟩ : k < h.p.length ∧ _)
          exact isW_iff.1 (hI k x hk hkx), by have := of_decide_eq_true a3; omega, fun q hq => by
          obtain ⟨k, hk, hkx⟩ := List.mem_iff_getElem?.1 hq |>.imp fun k hk => (⟨(List.getElem?_eq_some_iff.1 hk).1, hk⟩ : k < h.s.length ∧ _)
          exact (vPas_iff (by omega)).1 (hJ k q hk hkx)⟩
        rw [hv]; rfl
  · have hv : vHo h = false := vHo_len (by
      cases a : isW h.p.length 1 6
      · exact .inl rfl
      · cases b : decide ((h.s.length : Int) ≤ 12)
        · exact .inr rfl
        · exact absurd ⟨a, b⟩ hA)
    rw [hv]
    cases a1 : isW h.p.length 1 6
    · simp only [go_sem, Nat.reduceEqDiff, Nat.reduceAdd, Nat.reduceLT, Nat.reduceLeDiff, reduceIte, WB39, WVH_eq (within_ok _ _ _), true_and, a1, HEta]
      rfl
    · have a3' : decide ((12 : Int) < (h.s.length : Int)) = true := by
        refine decide_eq_true ?_
        by_cases h12 : (h.s.length : Int) ≤ 12
        · exact absurd ⟨a1, decide_eq_true h12⟩ hA
        · omega
      simp only [go_sem, Nat.reduceEqDiff, Nat.reduceAdd, Nat.reduceLT, Nat.reduceLeDiff, reduceIte, WB39, WVH_eq (within_ok _ _ _), true_and, a1, a3', HEta]
      rfl
theorem sumL_take (l : List Int) (k : Nat) (x : Int) (hx : l[k]? = some x) : (l.take (k + 1)).sum = (l.take k).sum + x := by
  rw [List.take_add_one, hx]; simp
theorem sumL_bd (l : List Int) (hb : ∀ x ∈ l, 0 ≤ x ∧ x ≤ 99) : 0 ≤ l.sum ∧ l.sum ≤ 99 * l.length := by
  induction l with
  | nil => simp
  | cons a r ih =>
    have := ih fun x hx => hb x (by simp [hx])
    have := hb a (by simp)
    simp only [List.sum_cons, List.length_cons]; omega
theorem All_ok {h : Ho} (hV : HV h) : RV ft 36 [encH h] (I64 (allP h)) := by
  refine RV_of ft36 rfl ?_
  simp only [c36, r36]
  have n6 := hV.n6
  simp only [go_sem, Nat.reduceEqDiff, Nat.reduceAdd, Nat.reduceLT, Nat.reduceLeDiff, reduceIte]
  refine WL_inv (α := Nat) (fun q e mm => e 1 = .ptr 0 0 0 ∧ e 3 = I64 (h.p.take q).sum ∧ e 4 = I64 q ∧ q ≤ h.p.length ∧ mm = ⟨[.live [encH h] 2], []⟩) (fun q => h.p.length - q) 0 ?_ ?_
  · simp only [go_sem, Nat.reduceEqDiff, Nat.reduceAdd, Nat.reduceLT, Nat.reduceLeDiff, reduceIte, HEta]
    exact ⟨trivial, rfl, rfl, Nat.zero_le _, trivial⟩
  rintro i e mm ⟨g1, g3, g4, hi, rfl⟩
  by_cases hlt : i < h.p.length
  · obtain ⟨x, hx⟩ : ∃ x, h.p[i]? = some x := ⟨_, List.getElem?_eq_getElem hlt⟩
    have b1 := hV.pe x (List.mem_of_getElem? hx)
    have b2 := sumL_bd (h.p.take i) fun y hy => hV.pe y (List.mem_of_mem_take hy)
    have b3 : (h.p.take i).length ≤ 6 := by rw [List.length_take]; omega
    have w := wrap_i64 ((h.p.take i).sum + x) (by omega) (by omega)
    simp only [go_sem, Nat.reduceEqDiff, Nat.reduceAdd, Nat.reduceLT, Nat.reduceLeDiff, reduceIte, g1, g3, g4, dec_lt hlt, HCells, Is_idx hx, w, wrap_n1 i (by omega)]
    refine Nx_of (i + 1) (by show h.p.length - (i + 1) < h.p.length - i; omega) ?_
    simp only [go_sem, Nat.reduceEqDiff, Nat.reduceAdd, Nat.reduceLT, Nat.reduceLeDiff, reduceIte, g1]
    exact ⟨trivial, by rw [sumL_take _ _ _ hx], trivial, hlt, trivial⟩
  · have hie : i = h.p.length := by omega
    subst hie
    simp only [go_sem, Nat.reduceEqDiff, Nat.reduceAdd, Nat.reduceLT, Nat.reduceLeDiff, reduceIte, g1, g3, g4, dec_ge (Nat.le_refl h.p.length), HCells]
    rw [List.take_length]; rfl
def farB (h : Ho) : Bool := hugeB h || (vHo h && ((decide (3 < h.p.length) || decide (5 < h.s.length)) || decide (12 < allP h)))
theorem Far_ok (h : Ho) : RV ft 19 [encH h] (.bool (farB h)) := by
  refine RV_of ft19 rfl ?_
  simp only [c19, r19]
  unfold farB
  cases a1 : hugeB h
  · have a1' := a1
    unfold hugeB at a1'
    simp only [Bool.or_eq_false_iff, decide_eq_false_iff_not] at a1'
    have hc := refCheck_ok h (by omega) (by omega)
    have e1 : decide (3 < h.p.length) = decide ((3 : Int) < (h.p.length : Int)) := by rw [decide_eq_decide]; omega
    have e2 : decide (5 < h.s.length) = decide ((5 : Int) < (h.s.length : Int)) := by rw [decide_eq_decide]; omega
    rw [e1, e2]
    unfold chkV at hc
    cases a2 : vHo h
    · rw [a2] at hc
      simp only [Bool.false_eq_true, if_false] at hc
      have e3 : ((110 : Int) == 0) = false := rfl
      simp only [go_sem, Nat.reduceEqDiff, Nat.reduceAdd, Nat.reduceLT, Nat.reduceLeDiff, reduceIte, HEta, WB11, WVH_eq (huge_ok h), WB15, WVH_eq hc, true_and, a1, e3]
    · rw [a2] at hc
      simp only [if_true] at hc
      have hA := All_ok (vHo_iff.1 a2)
      cases a3 : decide ((3 : Int) < (h.p.length : Int)) <;> cases a4 : decide ((5 : Int) < (h.s.length : Int)) <;>
        simp only [go_sem, Nat.reduceEqDiff, Nat.reduceAdd, Nat.reduceLT, Nat.reduceLeDiff, reduceIte, HEta, WB11, WVH_eq (huge_ok h), WB15, WVH_eq hc, true_and, a1, a3, a4, WB36, WVH_eq hA, HCells, beq_self_eq_true]
  · simp only [go_sem, Nat.reduceEqDiff, Nat.reduceAdd, Nat.reduceLT, Nat.reduceLeDiff, reduceIte, HEta, WB11, WVH_eq (huge_ok h), true_and, a1]
def lateB (T : Int) : Bool := decide (10 < T) && decide (T ≤ 60)
def readyB (h : Ho) (T : Int) : Bool := (((!farB h && !lateB T) && vHo h) && decide (0 ≤ T)) && decide (T ≤ 60)
theorem ready_ok (h : Ho) (T : Int) : RV ft 35 [encH h, I64 T] (.bool (readyB h T)) := by
  refine RV_of ft35 rfl ?_
  simp only [c35, r35]
  unfold readyB
  cases a1 : farB h
  · have a1' := a1
    unfold farB hugeB at a1'
    simp only [Bool.or_eq_false_iff, decide_eq_false_iff_not] at a1'
    have hc := refCheck_ok h (by omega) (by omega)
    have hL := late_ok T
    rw [show (decide (10 < T) && decide (T ≤ 60)) = lateB T from rfl] at hL
    unfold chkV at hc
    cases a2 : lateB T <;> cases a3 : vHo h <;> rw [a3] at hc <;> rw [a2] at hL <;> simp only [Bool.false_eq_true, if_false, if_true] at hc <;> cases a4 : decide (0 ≤ T) <;>
      simp only [go_sem, Nat.reduceEqDiff, Nat.reduceAdd, Nat.reduceLT, Nat.reduceLeDiff, reduceIte, HEta, WB19, WVH_eq (Far_ok h), WB20, WVH_eq hL, WB15, WVH_eq hc, true_and, a1, a2, a3, a4, beq_self_eq_true, show ((110 : Int) == 0) = false from rfl]
  · simp only [go_sem, Nat.reduceEqDiff, Nat.reduceAdd, Nat.reduceLT, Nat.reduceLeDiff, reduceIte, HEta, WB19, WVH_eq (Far_ok h), true_and, a1]
structure Rdy (h : Ho) (T : Int) : Prop where
  hV : HV h
  n3 : h.p.length ≤ 3
  s5 : h.s.length ≤ 5
  a12 : allP h ≤ 12
  T0 : 0 ≤ T
  T10 : T ≤ 10
theorem ready_iff' {h : Ho} {T : Int} : readyB h T = true ↔ Rdy h T := by
  unfold readyB farB hugeB lateB
  simp only [Bool.and_eq_true, Bool.not_eq_true', Bool.or_eq_false_iff, Bool.and_eq_false_iff, decide_eq_true_eq, decide_eq_false_iff_not, vHo_iff]
  constructor
  · rintro ⟨⟨⟨⟨⟨⟨a, b⟩, c⟩, d⟩, e⟩, f⟩, g⟩
    rcases c with c | ⟨⟨c1, c2⟩, c3⟩
    · rw [vHo_iff.2 e] at c; cases c
    · exact ⟨e, by omega, by omega, by omega, f, by omega⟩
  · intro r
    obtain ⟨a, b, c, d, e, f⟩ := r
    exact ⟨⟨⟨⟨⟨⟨by omega, by omega⟩, .inr ⟨⟨by omega, by omega⟩, by omega⟩⟩, .inl (by omega)⟩, a⟩, e⟩, by omega⟩
end Go.Ab.T
end
