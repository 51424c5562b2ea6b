/-
  A part of the proofs over this seat.
  (The texts KrK14, one behind the other.)
-/
import Derived.Test.YtnkdfekbifcglaaP10
set_option linter.unusedSimpArgs false
set_option linter.unusedVariables false
set_option linter.unusedSectionVars false
section
namespace Go.Ab.T
set_option maxRecDepth 8000
set_option maxHeartbeats 1000000
/-! ### A shut passage -/
theorem shut_p (h : Ho) (i : Nat) : (shutH h i).p = h.p := rfl
theorem pq_set {h : Ho} {i k : Nat} (hk : k < h.s.length) : pq (shutH h i) k = if i = k then shutP (pq h i) else pq h k := by
  unfold pq shutH
  dsimp only
  rw [List.getElem?_set]
  by_cases hik : i = k
  · subst hik; simp only [if_true, hk, List.getElem?_eq_getElem hk, Option.getD_some]; unfold pq; rw [List.getElem?_eq_getElem hk]; rfl
  · simp [hik]
theorem bnd_shut {h : Ho} (hV : HV h) (i : Nat) (T : Int) (H : Nat → Int) : bnd (shutH h i) T H ≤ bnd h T H := by
  unfold bnd
  rw [shut_len, shut_p]
  refine Int.add_le_add (Int.le_refl _) (sumR_le fun k hk => ?_)
  have e1 : nM T (pq (shutH h i) k) = nM T (pq h k) := by
    rw [pq_set hk]; unfold nM
    split
    · next e => subst e; rfl
    · rfl
  rw [e1]
  refine sumR_le fun m hm => ?_
  have e2 : crB (shutH h i) H k m = crB h H k m := by
    unfold crB
    rw [pq_set hk]
    split
    · next e => subst e; rfl
    · rfl
  rw [e2]
  have e3 : (pq (shutH h i) k).wd ≤ (pq h k).wd := by
    rw [pq_set hk]
    split
    · next e => subst e; exact (hV.sv _ (pq_mem hk)).w0
    · exact Int.le_refl _
  split <;> omega
theorem needL_mem (h : Ho) (T : Int) (n : Nat) {i : Nat} (hi : i < n) : (i : Int) ∈ needL h T n ↔ ¬canE (shutH h i) T := by
  unfold needL
  simp only [List.mem_map, List.mem_filter, List.mem_range, Bool.not_eq_true', decide_eq_false_iff_not]
  exact ⟨fun ⟨a, ⟨_, h2⟩, h3⟩ => by obtain rfl : a = i := by omega
                                    exact h2, fun hc => ⟨i, ⟨hi, hc⟩, rfl⟩⟩
theorem any_take (l : List Int) (p : Int → Bool) {k : Nat} {x : Int} (hx : l[k]? = some x) : (l.take (k + 1)).any p = ((l.take k).any p || p x) := by
  rw [List.take_add_one, hx]; simp
theorem Doors_ok (h : Ho) (i T : Int) : RV ft 9 [encH h, I64 i, I64 T] (.bool true) := by
  refine RV_of ft9 rfl ?_
  simp only [c9, r9]
  have hR := ready_ok h T
  cases hr : readyB h T
  · rw [hr] at hR
    simp only [go_sem, Nat.reduceEqDiff, Nat.reduceAdd, Nat.reduceLT, Nat.reduceLeDiff, reduceIte, HEta, WB35, WVH_eq hR, true_and, WB12, WVH_eq works_ok]
  rw [hr] at hR
  by_cases h0 : i < 0
  · have d0 : decide (i < 0) = true := decide_eq_true h0
    simp only [go_sem, Nat.reduceEqDiff, Nat.reduceAdd, Nat.reduceLT, Nat.reduceLeDiff, reduceIte, HEta, WB35, WVH_eq hR, true_and, WB12, WVH_eq works_ok, d0]
  have d0 : decide (i < 0) = false := decide_eq_false h0
  by_cases h1 : (h.s.length : Int) ≤ i
  · have d1 : decide ((h.s.length : Int) ≤ i) = true := decide_eq_true h1
    simp only [go_sem, Nat.reduceEqDiff, Nat.reduceAdd, Nat.reduceLT, Nat.reduceLeDiff, reduceIte, HEta, WB35, WVH_eq hR, true_and, WB12, WVH_eq works_ok, d0, d1, HCells]
  have d1 : decide ((h.s.length : Int) ≤ i) = false := decide_eq_false h1
  obtain ⟨k, rfl⟩ := Int.eq_ofNat_of_zero_le (show 0 ≤ i by omega)
  obtain ⟨hV, n3, s5, a12, hT0, hT10⟩ := ready_iff'.1 hr
  have hk : k < h.s.length := by omega
  have hVs := HV_shut hV hk
  have hA := All_ok hV
  have hS := Shut_ok hV hk
  have hN := Needed_ok hV hT0 (show T ≤ 60 by omega)
  have hc := refCheck_ok (shutH h k) (by rw [shut_p]; omega) (by rw [shut_len]; omega)
  rw [vHo_iff.2 hVs] at hc
  unfold chkV at hc
  simp only [if_true] at hc
  obtain ⟨n, m1, m2⟩ := Most_ok hV hT0 (show T ≤ 60 by omega)
  obtain ⟨n', m3, m4⟩ := Most_ok hVs hT0 (show T ≤ 60 by omega)
  have hle : n' ≤ n := by
    obtain ⟨H, a, b⟩ := m1.is
    have := m3.le H a
    have := bnd_shut hV k T H
    omega
  have hall : allP (shutH h k) = allP h := rfl
  obtain ⟨L, hL⟩ : ∃ L, L = needL h T h.s.length := ⟨_, rfl⟩
  have hLl : L.length ≤ h.s.length := by rw [hL]; exact needL_len h T _
  have hmem : L.any (fun x => x == (k : Int)) = decide (n' < allP h) := by
    have h2 := needL_mem h T h.s.length hk
    have h3 := m3.canE hVs hT0
    have h4 := m3.le_all hVs hT0
    rw [hall] at h3 h4
    rw [← hL, ← h3] at h2
    by_cases hm : (k : Int) ∈ L
    · rw [decide_eq_true (by have := h2.1 hm; omega), List.any_eq_true]
      exact ⟨_, hm, beq_self_eq_true _⟩
    · rw [decide_eq_false fun hlt => hm (h2.2 (by omega)), List.any_eq_false]
      intro x hx hb
      rw [eq_of_beq hb] at hx
      exact hm hx
  rw [← hL] at hN
  have hq : (shutH h k).s[k]? = some (shutP (pq h k)) := by unfold shutH; simp [hk]
  have hsol : (encH (shutH h k)).solids = true := rfl
  have hcl : (encH (shutH h k)).cells = [encIs (shutH h k).p, encPs (shutH h k).s] := rfl
  have d2 : decide ((h.s.length : Int) < (L.length : Int)) = false := decide_eq_false (by omega)
  have w0 : ((shutP (pq h k)).wd != 0) = false := rfl
  simp only [go_sem, Nat.reduceEqDiff, Nat.reduceAdd, Nat.reduceLT, Nat.reduceLeDiff, reduceIte, HEta, WB35, WVH_eq hR, true_and, WB12, WVH_eq works_ok, d0, d1, HCells, WB31, WVH_eq hS, hsol, hcl, WB33, WVH_eq hN, bne_self_eq_false, WB15, WVH_eq hc, shut_len, Ps_idx hq, d2, w0, WB21, WVH_eq m2, WVH_eq m4]
  refine WL_inv (α := Nat) (fun q e mm => e 1 = I64 k ∧ e 3 = .ptr 0 0 0 ∧ e 9 = encIs L ∧ e 11 = I64 n ∧ e 12 = I64 0 ∧ e 13 = I64 n' ∧ e 14 = I64 0 ∧ e 15 = .bool ((L.take q).any fun x => x == (k : Int)) ∧ e 16 = I64 q ∧ q ≤ L.length ∧ mm = ⟨[.live [encH h] 2, .live [encH (shutH h k)] 2], []⟩) (fun q => L.length - q) 0 ?_ ?_
  · simp only [go_sem, Nat.reduceEqDiff, Nat.reduceAdd, Nat.reduceLT, Nat.reduceLeDiff, reduceIte]
    ((repeat' apply And.intro) <;> first | trivial | rfl | assumption | omega | (rfl) | (exact Nat.zero_le _))
  rintro q e mm ⟨g1, g3, g9, g11, g12, g13, g14, g15, g16, hq2, rfl⟩
  by_cases hlt : q < L.length
  · obtain ⟨x, hx⟩ : ∃ x, L[q]? = some x := ⟨_, List.getElem?_eq_getElem hlt⟩
    have ht := any_take L (fun x => x == (k : Int)) hx
    cases hb : (L.take q).any fun x => x == (k : Int)
    · rw [hb] at g15 ht
      simp only [go_sem, Nat.reduceEqDiff, Nat.reduceAdd, Nat.reduceLT, Nat.reduceLeDiff, reduceIte, g1, g3, g9, g11, g12, g13, g14, g15, g16, dec_lt hlt, Is_idx hx, wrap_n1 q (by omega)]
      refine Nx_of (q + 1) (by show L.length - (q + 1) < L.length - q; omega) ?_
      simp only [go_sem, Nat.reduceEqDiff, Nat.reduceAdd, Nat.reduceLT, Nat.reduceLeDiff, reduceIte, g1, g3, g9, g11, g12, g13, g14]
      rw [ht]
      exact ⟨trivial, trivial, trivial, trivial, trivial, trivial, trivial, rfl, trivial, hlt, trivial⟩
    · rw [hb] at g15 ht
      simp only [go_sem, Nat.reduceEqDiff, Nat.reduceAdd, Nat.reduceLT, Nat.reduceLeDiff, reduceIte, g1, g3, g9, g11, g12, g13, g14, g15, g16, dec_lt hlt, Is_idx hx, wrap_n1 q (by omega)]
      refine Nx_of (q + 1) (by show L.length - (q + 1) < L.length - q; omega) ?_
      simp only [go_sem, Nat.reduceEqDiff, Nat.reduceAdd, Nat.reduceLT, Nat.reduceLeDiff, reduceIte, g1, g3, g9, g11, g12, g13, g14]
      rw [ht]
      exact ⟨trivial, trivial, trivial, trivial, trivial, trivial, trivial, rfl, trivial, hlt, trivial⟩
  · have hqe : q = L.length := by omega
    subst hqe
    rw [List.take_length, hmem] at g15
    have d3 : decide (n' ≤ n) = true := decide_eq_true hle
    cases hd : decide (n' < allP h) <;> rw [hd] at g15 <;>
      simp only [go_sem, Nat.reduceEqDiff, Nat.reduceAdd, Nat.reduceLT, Nat.reduceLeDiff, reduceIte, g1, g3, g9, g11, g12, g13, g14, g15, g16, dec_ge (Nat.le_refl L.length), beq_self_eq_true, d3, HEta, WB36, WVH_eq hA, hd, true_and, WB12, WVH_eq works_ok, Bool.false_eq_true, if_false, if_true]
end Go.Ab.T
end
