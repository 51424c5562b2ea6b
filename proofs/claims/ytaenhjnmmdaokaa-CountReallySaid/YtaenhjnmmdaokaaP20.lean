/-
  A part of the proofs over this seat.
  (The texts KcK27, one behind the other.)
-/
import Derived.Test.YtaenhjnmmdaokaaP21
import Derived.Test.YtaenhjnmmdaokaaP15
set_option linter.unusedSimpArgs false
set_option linter.unusedVariables false
set_option linter.unusedSectionVars false
section
namespace Go.Ab.T
set_option maxRecDepth 8000
set_option maxHeartbeats 1000000
theorem mulTwo (k : Nat) (h : k ≤ 4) : IntKind.i64.wrap (2 * (k : Int)) = 2 * (k : Int) := wrap_i64 _ (by omega) (by omega)
theorem likelyR_ok {v : Ev} (h : EV v) : RV ft 87 [encE v] (.tup [encIsss (if hasTr v = true then lkL v else []), I64 (if hasTr v = true then (likV v 0).2 else 0)]) := by
  have h4 := h.toEV4
  have hn3 := h.n3
  have hT : ∀ i : Nat, i ≤ 8 → RV ft 96 [encE v, .int .i64 0, I64 (i : Int), encIs v.se] (encIsss (trL (toV v.pr) v.cs (i : Int) v.se)) := fun i hi => truthsR_ok h v.cs 0 (i : Int) v.se rfl (Nat.zero_le _) h.sl h.se (by omega) (by omega)
  refine RV_of ft87 rfl ?_
  simp only [c87, r87]
  cases ht : hasTr v
  · rw [if_neg (by simp), if_neg (by simp)]
    simp only [go_sem, Nat.reduceEqDiff, Nat.reduceAdd, Nat.reduceLT, Nat.reduceLeDiff, reduceIte]
    refine WL_inv (α := Nat) (fun q e mm => e 1 = .ptr 0 0 0 ∧ e 4 = I64 q ∧ q ≤ 2 * v.cs.length + 1 ∧ mm = ⟨[.live [encE v] 4], []⟩) (fun q => 2 * v.cs.length + 1 - q) 0 ?_ ?_
    · simp only [go_sem, Nat.reduceEqDiff, Nat.reduceAdd, Nat.reduceLT, Nat.reduceLeDiff, reduceIte]
      ((repeat' apply And.intro) <;> first | trivial | rfl | assumption | omega | (exact Nat.zero_le _))
    rintro i e m ⟨g1, g4, hi, rfl⟩
    by_cases hle : (i : Int) ≤ 2 * v.cs.length
    · have hno := trL_no h4 ht (f := (i : Int)) (by omega)
      have hTi := hT i (by omega)
      rw [hno] at hTi
      simp only [go_sem, Nat.reduceEqDiff, Nat.reduceAdd, Nat.reduceLT, Nat.reduceLeDiff, reduceIte, g1, g4, ECells, mulTwo v.cs.length (by omega), decide_eq_true hle, WB96, WVH_eq hTi, true_and, List.length_nil, Int.natCast_zero, show decide ((0 : Int) < 0) = false from rfl, wrap_n1 i (by omega)]
      refine Nx_of (i + 1) (by show 2 * v.cs.length + 1 - (i + 1) < 2 * v.cs.length + 1 - i; omega) ?_
      simp only [go_sem, Nat.reduceEqDiff, Nat.reduceAdd, Nat.reduceLT, Nat.reduceLeDiff, reduceIte, g1]
      exact ⟨by first | trivial | rfl, by first | trivial | rfl, by omega, by first | trivial | rfl⟩
    · simp only [go_sem, Nat.reduceEqDiff, Nat.reduceAdd, Nat.reduceLT, Nat.reduceLeDiff, reduceIte, g1, g4, ECells, mulTwo v.cs.length (by omega), decide_eq_false hle]
      rfl
  · rw [if_pos rfl, if_pos rfl]
    have hf := few0 h4 ht
    simp only [go_sem, Nat.reduceEqDiff, Nat.reduceAdd, Nat.reduceLT, Nat.reduceLeDiff, reduceIte]
    refine WL_inv (α := Nat) (fun q e mm => e 1 = .ptr 0 0 0 ∧ e 4 = I64 q ∧ (q : Int) ≤ (likV v 0).2 ∧ mm = ⟨[.live [encE v] 4], []⟩) (fun q => (likV v 0).2.toNat - q) 0 ?_ ?_
    · simp only [go_sem, Nat.reduceEqDiff, Nat.reduceAdd, Nat.reduceLT, Nat.reduceLeDiff, reduceIte]
      ((repeat' apply And.intro) <;> first | trivial | rfl | assumption | omega | (exact hf.1))
    rintro i e m ⟨g1, g4, hi, rfl⟩
    have hle : (i : Int) ≤ 2 * v.cs.length := by omega
    have hTi := hT i (by omega)
    by_cases he : (i : Int) = (likV v 0).2
    · have hL : trL (toV v.pr) v.cs (i : Int) v.se = lkL v := by unfold lkL; rw [he]
      rw [hL] at hTi
      have hp : (0 : Int) < ((lkL v).length : Int) := by have := List.length_pos_iff.2 (lkL_ne h4 ht); omega
      simp only [go_sem, Nat.reduceEqDiff, Nat.reduceAdd, Nat.reduceLT, Nat.reduceLeDiff, reduceIte, g1, g4, ECells, mulTwo v.cs.length (by omega), decide_eq_true hle, WB96, WVH_eq hTi, true_and, decide_eq_true hp]
      rw [he]
    · have hno : trL (toV v.pr) v.cs (i : Int) v.se = [] := by
        by_cases hn : trL (toV v.pr) v.cs (i : Int) v.se = []
        · exact hn
        · have := (trL_ne h4 ht (f := (i : Int)) (by omega)).1 hn
          omega
      rw [hno] at hTi
      simp only [go_sem, Nat.reduceEqDiff, Nat.reduceAdd, Nat.reduceLT, Nat.reduceLeDiff, reduceIte, g1, g4, ECells, mulTwo v.cs.length (by omega), decide_eq_true hle, WB96, WVH_eq hTi, true_and, List.length_nil, Int.natCast_zero, show decide ((0 : Int) < 0) = false from rfl, wrap_n1 i (by omega)]
      refine Nx_of (i + 1) (by show (likV v 0).2.toNat - (i + 1) < (likV v 0).2.toNat - i; omega) ?_
      simp only [go_sem, Nat.reduceEqDiff, Nat.reduceAdd, Nat.reduceLT, Nat.reduceLeDiff, reduceIte, g1]
      exact ⟨by first | trivial | rfl, by first | trivial | rfl, by omega, by first | trivial | rfl⟩
def knL (v : Ev) (till sh : Int) : List (List (List Int)) := if errT v till sh = 0 then lkL v else []
theorem knownR_ok {v : Ev} (hf : farB v = false) (till sh : Int) : RV ft 66 [encE v, I64 till, I64 sh] (.tup [encIsss (knL v till sh), I64 (if errT v till sh = 0 then (likV v 0).2 else 0), I64 (errT v till sh)]) := by
  have hS := SE.of_far hf
  have hc := CheckR_ok v hS
  have hc1 := hS.n
  have hc2 := hS.p
  unfold errE at hc
  refine RV_of ft66 rfl ?_
  simp only [c66, r66]
  unfold knL
  have z100 : ¬ ((100 : Int) = 0) := by decide
  have z1 : ¬ ((1 : Int) = 0) := by decide
  have z3 : ¬ ((3 : Int) = 0) := by decide
  by_cases hv : evOK v = true
  rotate_left
  · have he : errT v till sh = 100 := by unfold errT; rw [if_neg hv]
    rw [if_neg hv] at hc
    rw [he, if_neg z100, if_neg z100]
    simp only [go_sem, Nat.reduceEqDiff, Nat.reduceAdd, Nat.reduceLT, Nat.reduceLeDiff, reduceIte, WB29, WVH_eq hc, true_and, show ((100 : Int) != 0) = true from rfl]
    rfl
  rw [if_pos hv] at hc
  have h := EV_of hf hv
  have h4 := h.toEV4
  have hw := fun n lo hi => within_ok n lo hi
  cases w1 : inR till 0 ((v.cs.length : Int) - 1)
  · have he : errT v till sh = 1 := by unfold errT; rw [if_pos hv, w1, Bool.false_and, if_neg (by simp)]
    rw [he, if_neg z1, if_neg z1]
    simp only [go_sem, Nat.reduceEqDiff, Nat.reduceAdd, Nat.reduceLT, Nat.reduceLeDiff, reduceIte, WB29, WVH_eq hc, true_and, bne_self_eq_false, ECells, wrap_i64 ((v.cs.length : Int) - 1) (by omega) (by omega), WB64, WVH_eq (hw till 0 ((v.cs.length : Int) - 1)), w1, Bool.not_false]
    rfl
  cases w2 : inR sh 0 ((v.pr.length : Int) - 1)
  · have he : errT v till sh = 1 := by unfold errT; rw [if_pos hv, w1, w2, Bool.true_and, if_neg (by simp)]
    rw [he, if_neg z1, if_neg z1]
    simp only [go_sem, Nat.reduceEqDiff, Nat.reduceAdd, Nat.reduceLT, Nat.reduceLeDiff, reduceIte, WB29, WVH_eq hc, true_and, bne_self_eq_false, ECells, wrap_i64 ((v.cs.length : Int) - 1) (by omega) (by omega), WB64, WVH_eq (hw till 0 ((v.cs.length : Int) - 1)), w1, Bool.not_true, wrap_i64 ((v.pr.length : Int) - 1) (by omega) (by omega), WVH_eq (hw sh 0 ((v.pr.length : Int) - 1)), w2, Bool.not_false]
    rfl
  have hlk := likelyR_ok h
  cases ht : hasTr v
  · rw [ht, if_neg (by simp), if_neg (by simp)] at hlk
    have he : errT v till sh = 3 := by unfold errT; rw [if_pos hv, w1, w2, Bool.true_and, if_pos rfl, ht, if_neg (by simp)]
    rw [he, if_neg z3, if_neg z3]
    simp only [go_sem, Nat.reduceEqDiff, Nat.reduceAdd, Nat.reduceLT, Nat.reduceLeDiff, reduceIte, WB29, WVH_eq hc, true_and, bne_self_eq_false, ECells, wrap_i64 ((v.cs.length : Int) - 1) (by omega) (by omega), WB64, WVH_eq (hw till 0 ((v.cs.length : Int) - 1)), w1, Bool.not_true, wrap_i64 ((v.pr.length : Int) - 1) (by omega) (by omega), WVH_eq (hw sh 0 ((v.pr.length : Int) - 1)), w2, WB87, WVH_eq hlk, List.length_nil, Int.natCast_zero, show ((0 : Int) == 0) = true from rfl]
    rfl
  · rw [ht, if_pos rfl, if_pos rfl] at hlk
    have he : errT v till sh = 0 := by unfold errT; rw [if_pos hv, w1, w2, Bool.true_and, if_pos rfl, if_pos ht]
    rw [he, if_pos rfl, if_pos rfl]
    have hp : (((lkL v).length : Int) == 0) = false := by rw [beq_eq_false_iff_ne]; have := List.length_pos_iff.2 (lkL_ne h4 ht); omega
    simp only [go_sem, Nat.reduceEqDiff, Nat.reduceAdd, Nat.reduceLT, Nat.reduceLeDiff, reduceIte, WB29, WVH_eq hc, true_and, bne_self_eq_false, ECells, wrap_i64 ((v.cs.length : Int) - 1) (by omega) (by omega), WB64, WVH_eq (hw till 0 ((v.cs.length : Int) - 1)), w1, Bool.not_true, wrap_i64 ((v.pr.length : Int) - 1) (by omega) (by omega), WVH_eq (hw sh 0 ((v.pr.length : Int) - 1)), w2, WB87, WVH_eq hlk, hp]
    show AV.tup [snap _ 11 (encIsss (lkL v)), I64 (likV v 0).2, I64 0] = _
    rw [snIsss _ 7]
theorem FewestR_ok {v : Ev} (hf : farB v = false) : RV ft 37 [encE v] (.tup [I64 (if errT v 0 0 = 0 then (likV v 0).2 else 0), I64 (errT v 0 0)]) := by
  refine RV_of ft37 rfl ?_
  simp only [c37, r37]
  have hk := knownR_ok hf 0 0
  simp only [go_sem, Nat.reduceEqDiff, Nat.reduceAdd, Nat.reduceLT, Nat.reduceLeDiff, reduceIte, WB66, WVH_eq hk, true_and]
  try rfl
theorem flawedR_ok {v : Ev} (h : EV v) (ht : hasTr v = true) (each : Bool) : RV ft 67 [encE v, encIsss (lkL v), .bool each] (encIs (tillsM (if each = true then gP else sP) v)) := by
  have h4 := h.toEV4
  have hn3 := h.n3
  have hLl : (lkL v).length ≤ 134217728 := by
    have := trL_len (toV v.pr) v.cs (likV v 0).2 v.se (by rw [h.sl]; exact h.k3) h.r7
    exact Nat.le_trans this (Nat.le_trans (Nat.pow_le_pow_right (by omega) hn3) (by decide))
  obtain ⟨P, hP⟩ : ∃ P, P = (if each = true then gP else sP) := ⟨_, rfl⟩
  rw [← hP]
  refine RV_of ft67 rfl ?_
  simp only [c67, r67]
  simp only [go_sem, Nat.reduceEqDiff, Nat.reduceAdd, Nat.reduceLT, Nat.reduceLeDiff, reduceIte]
  refine WL_inv (α := Nat × List Int × AV) (fun q e mm => e 1 = encIsss (lkL v) ∧ e 2 = .bool each ∧ e 3 = .ptr 0 0 0 ∧ e 7 = q.2.2 ∧ e 8 = I64 q.1 ∧ q.1 ≤ v.cs.length ∧ q.2.1 = ((List.range q.1).filter (okL P v)).map (fun i : Nat => (i : Int)) ∧ ∃ toks, AppV 3 (q.2.1.map I64) q.2.2 toks ∧ mm = ⟨[.live [encE v] 4], toks⟩) (fun q => v.cs.length - q.1) (0, [], .sl [] .tight) ?_ ?_
  · simp only [go_sem, Nat.reduceEqDiff, Nat.reduceAdd, Nat.reduceLT, Nat.reduceLeDiff, reduceIte]
    exact ⟨by first | trivial | rfl, by first | trivial | rfl, by first | trivial | rfl, by first | trivial | rfl, by first | trivial | rfl, by first | trivial | exact Nat.zero_le _, by first | trivial | rfl, [], .inl ⟨rfl, rfl⟩, by first | trivial | rfl⟩
  rintro ⟨k, D, A⟩ e m ⟨g1, g2, g3, g7, g8, hkl, hD, toks, hA, rfl⟩
  dsimp only at g7 g8 hkl hD hA
  have hDl : D.length ≤ k := by
    rw [hD, List.length_map]
    have := List.length_filter_le (okL P v) (List.range k)
    rw [List.length_range] at this; exact this
  by_cases hk : k < v.cs.length
  rotate_left
  · have : k = v.cs.length := by omega
    subst this
    obtain ⟨tk', rfl⟩ := hA.sl
    simp only [go_sem, Nat.reduceEqDiff, Nat.reduceAdd, Nat.reduceLT, Nat.reduceLeDiff, reduceIte, g1, g2, g3, g7, g8, ECells, dec_ge (Nat.le_refl v.cs.length)]
    rw [hD]
    exact snIsT _ 10 (tillsM P v) .tight
  obtain ⟨c, hc⟩ : ∃ c, v.cs[k]? = some c := ⟨_, List.getElem?_eq_getElem hk⟩
  simp only [go_sem, Nat.reduceEqDiff, Nat.reduceAdd, Nat.reduceLT, Nat.reduceLeDiff, reduceIte, g1, g2, g3, g7, g8, ECells, dec_lt hk]
  obtain ⟨N, hN⟩ : ∃ N, N = (lkL v).countP (wrB (toV v.pr) c k) := ⟨_, rfl⟩
  refine WL_inv (α := Nat × List (List (List Int)) × Nat) (fun q e mm => e 1 = encIsss (lkL v) ∧ e 2 = .bool each ∧ e 3 = .ptr 0 0 0 ∧ e 7 = A ∧ e 8 = I64 k ∧ e 9 = I64 q.2.2 ∧ e 10 = I64 q.1 ∧ (lkL v).drop q.1 = q.2.1 ∧ q.2.2 + q.2.1.countP (wrB (toV v.pr) c k) = N ∧ q.2.2 ≤ q.1 ∧ mm = ⟨[.live [encE v] 4], toks⟩) (fun q => q.2.1.length) (0, lkL v, 0) ?_ ?_
  · simp only [go_sem, Nat.reduceEqDiff, Nat.reduceAdd, Nat.reduceLT, Nat.reduceLeDiff, reduceIte, g1, g2, g3, g7, g8]
    ((repeat' apply And.intro) <;> first | trivial | rfl | assumption | omega | ((rw [Nat.zero_add]; exact hN.symm)) | (exact Nat.zero_le _))
  clear g1 g2 g3 g7 g8
  rintro ⟨i, r, n⟩ e m ⟨g1, g2, g3, g7, g8, g9, g10, hd, hq, hni, rfl⟩
  dsimp only at g9 g10 hd hq hni
  cases r with
  | cons ls r =>
    obtain ⟨hl, hd2, hlt⟩ := drop_cons hd
    obtain ⟨hT, _⟩ := (lkL_mem h4 ht).1 (List.mem_of_getElem? hl)
    have hlen := IsT_len hT.2
    rw [List.length_map] at hlen
    have hlk : ls[k]? = some ls[k] := List.getElem?_eq_getElem (by omega)
    have hFl := Flaws_ok h4 hc (TL.of_tr h4 hT ls[k] (List.mem_of_getElem? hlk))
    have hw : wrB (toV v.pr) c k ls = decide (0 < flw (toV v.pr) c (toV ls[k])) := by unfold wrB; rw [List.getD_eq_getElem?_getD, hlk]; rfl
    rw [List.countP_cons, hw] at hq
    by_cases hfp : 0 < flw (toV v.pr) c (toV ls[k])
    · rw [if_pos (decide_eq_true hfp)] at hq
      simp only [go_sem, Nat.reduceEqDiff, Nat.reduceAdd, Nat.reduceLT, Nat.reduceLeDiff, reduceIte, g1, g2, g3, g7, g8, g9, g10, dec_lt hlt, Isss_idx hl, Iss_idx hlk, WB22, WVH_eq hFl, true_and, decide_eq_true hfp, wrap_n1 n (by omega), wrap_n1 i (by omega)]
      refine Nx_of (i + 1, r, n + 1) (by simp) ?_
      simp only [go_sem, Nat.reduceEqDiff, Nat.reduceAdd, Nat.reduceLT, Nat.reduceLeDiff, reduceIte, g1, g2, g3, g7, g8]
      exact ⟨by first | trivial | rfl, by first | trivial | rfl, by first | trivial | rfl, by first | trivial | rfl, by first | trivial | rfl, by first | trivial | rfl, by first | trivial | rfl, hd2, by omega, by first | trivial | omega, by first | trivial | rfl⟩
    · rw [if_neg (by rw [decide_eq_true_eq]; exact hfp)] at hq
      simp only [go_sem, Nat.reduceEqDiff, Nat.reduceAdd, Nat.reduceLT, Nat.reduceLeDiff, reduceIte, g1, g2, g3, g7, g8, g9, g10, dec_lt hlt, Isss_idx hl, Iss_idx hlk, WB22, WVH_eq hFl, true_and, decide_eq_false hfp, wrap_n1 i (by omega)]
      refine Nx_of (i + 1, r, n) (by simp) ?_
      simp only [go_sem, Nat.reduceEqDiff, Nat.reduceAdd, Nat.reduceLT, Nat.reduceLeDiff, reduceIte, g1, g2, g3, g7, g8, g9]
      exact ⟨by first | trivial | rfl, by first | trivial | rfl, by first | trivial | rfl, by first | trivial | rfl, by first | trivial | rfl, by first | trivial | rfl, by first | trivial | rfl, hd2, by omega, by first | trivial | omega, by first | trivial | rfl⟩
  | nil =>
    have h3 := drop_nil hd
    rw [List.countP_nil, Nat.add_zero] at hq
    subst hq
    have hfil : ((List.range (k + 1)).filter (okL P v)).map (fun i : Nat => (i : Int)) = D ++ (if okL P v k = true then [(k : Int)] else []) := by
      rw [List.range_succ, List.filter_append, List.map_append, ← hD]
      congr 1
      cases hq : okL P v k <;> simp [hq]
    have cs := cnt_sP h4 ht hc
    have cg := cnt_gP h4 ht hc
    rw [← hN] at cs cg
    have yes : okL P v k = true → ∀ (A' : AV) (toks' : List (Nat × Nat)), AppV 3 ((D ++ [(k : Int)]).map I64) A' toks' → D ++ [(k : Int)] = ((List.range (k + 1)).filter (okL P v)).map (fun i : Nat => (i : Int)) := fun hy A' toks' _ => by rw [hfil, if_pos hy]
    have no : okL P v k = false → D = ((List.range (k + 1)).filter (okL P v)).map (fun i : Nat => (i : Int)) := fun hy => by rw [hfil, hy, if_neg (by simp), List.append_nil]
    cases q1 : decide (0 < ((n : Nat) : Int))
    · have hno : okL P v k = false := by
        rw [q1] at cs cg
        rw [Bool.false_and] at cg
        unfold okL
        rw [hP]
        cases each
        · rw [if_neg (by simp)]; exact cs.symm
        · rw [if_pos rfl]; exact cg.symm
      simp only [go_sem, Nat.reduceEqDiff, Nat.reduceAdd, Nat.reduceLT, Nat.reduceLeDiff, reduceIte, g1, g2, g3, g7, g8, g9, g10, dec_ge h3, q1, wrap_n1 k (by omega)]
      refine Nx_of (k + 1, D, A) (by show _ - (k + 1) < _ - k; omega) ?_
      simp only [go_sem, Nat.reduceEqDiff, Nat.reduceAdd, Nat.reduceLT, Nat.reduceLeDiff, reduceIte, g1, g2, g3, g7]
      exact ⟨by first | trivial | rfl, by first | trivial | rfl, by first | trivial | rfl, by first | trivial | rfl, by first | trivial | rfl, hk, by first | exact no hno | (rw [← List.range_succ]; exact no hno), toks, hA, by first | trivial | rfl⟩
    rw [q1] at cs cg
    rw [Bool.true_and] at cg
    have app : ∀ {KK : AV × Mem → Prop}, okL P v k = true → (∀ A' toks', D ++ [(k : Int)] = ((List.range (k + 1)).filter (okL P v)).map (fun i : Nat => (i : Int)) → AppV 3 ((D ++ [(k : Int)]).map I64) A' toks' → KK (A', ⟨[.live [encE v] 4], toks'⟩)) → @OptH _ (appendAt ⟨[.live [encE v] 4], toks⟩ false A (.sl [I64 (k : Int)] .tight) 3 1 8) ⟨KK⟩ := fun {KK} hy hk' => by
      refine hA.app (y := I64 k) (cellsIs D) rfl (by rw [List.length_map]; unfold limit; omega) fun A' toks' hA' _ => ?_
      have hA'' : AppV 3 ((D ++ [(k : Int)]).map I64) A' toks' := by rw [List.map_append]; exact hA'
      exact hk' A' toks' (yes hy A' toks' hA'') hA''
    cases each
    · have hy : okL P v k = true := by unfold okL; rw [hP, if_neg (by simp)]; exact cs.symm
      simp only [go_sem, Nat.reduceEqDiff, Nat.reduceAdd, Nat.reduceLT, Nat.reduceLeDiff, reduceIte, g1, g2, g3, g7, g8, g9, g10, dec_ge h3, q1, Bool.not_false]
      refine app hy fun A' toks' hD' hA' => ?_
      simp only [go_sem, Nat.reduceEqDiff, Nat.reduceAdd, Nat.reduceLT, Nat.reduceLeDiff, reduceIte, g1, g2, g3, g8, wrap_n1 k (by omega)]
      refine Nx_of (k + 1, D ++ [(k : Int)], A') (by show _ - (k + 1) < _ - k; omega) ?_
      simp only [go_sem, Nat.reduceEqDiff, Nat.reduceAdd, Nat.reduceLT, Nat.reduceLeDiff, reduceIte, g1, g2, g3]
      exact ⟨by first | trivial | rfl, by first | trivial | rfl, by first | trivial | rfl, by first | trivial | rfl, by first | trivial | rfl, hk, by first | exact hD' | (rw [← List.range_succ]; exact hD'), toks', hA', by first | trivial | rfl⟩
    · cases q2 : (((n : Nat) : Int) == ((lkL v).length : Int))
      · have hno : okL P v k = false := by unfold okL; rw [hP, if_pos rfl, ← cg]; exact q2
        simp only [go_sem, Nat.reduceEqDiff, Nat.reduceAdd, Nat.reduceLT, Nat.reduceLeDiff, reduceIte, g1, g2, g3, g7, g8, g9, g10, dec_ge h3, q1, Bool.not_true, q2, wrap_n1 k (by omega)]
        refine Nx_of (k + 1, D, A) (by show _ - (k + 1) < _ - k; omega) ?_
        simp only [go_sem, Nat.reduceEqDiff, Nat.reduceAdd, Nat.reduceLT, Nat.reduceLeDiff, reduceIte, g1, g2, g3, g7]
        exact ⟨by first | trivial | rfl, by first | trivial | rfl, by first | trivial | rfl, by first | trivial | rfl, by first | trivial | rfl, hk, by first | exact no hno | (rw [← List.range_succ]; exact no hno), toks, hA, by first | trivial | rfl⟩
      · have hy : okL P v k = true := by unfold okL; rw [hP, if_pos rfl, ← cg]; exact q2
        simp only [go_sem, Nat.reduceEqDiff, Nat.reduceAdd, Nat.reduceLT, Nat.reduceLeDiff, reduceIte, g1, g2, g3, g7, g8, g9, g10, dec_ge h3, q1, Bool.not_true, q2]
        refine app hy fun A' toks' hD' hA' => ?_
        simp only [go_sem, Nat.reduceEqDiff, Nat.reduceAdd, Nat.reduceLT, Nat.reduceLeDiff, reduceIte, g1, g2, g3, g8, wrap_n1 k (by omega)]
        refine Nx_of (k + 1, D ++ [(k : Int)], A') (by show _ - (k + 1) < _ - k; omega) ?_
        simp only [go_sem, Nat.reduceEqDiff, Nat.reduceAdd, Nat.reduceLT, Nat.reduceLeDiff, reduceIte, g1, g2, g3]
        exact ⟨by first | trivial | rfl, by first | trivial | rfl, by first | trivial | rfl, by first | trivial | rfl, by first | trivial | rfl, hk, by first | exact hD' | (rw [← List.range_succ]; exact hD'), toks', hA', by first | trivial | rfl⟩
theorem GuiltyR_ok {v : Ev} (hf : farB v = false) : RV ft 38 [encE v] (.tup [encIs (tillR gP v), I64 (errT v 0 0)]) := by
  refine RV_of ft38 rfl ?_
  simp only [c38, r38]
  have hk := knownR_ok hf 0 0
  unfold knL at hk
  unfold tillR
  by_cases he : errT v 0 0 = 0
  · obtain ⟨h4, _, _, ht⟩ := errT0 he
    have h := EV_of hf (EV4_of.2 h4)
    have hfl := flawedR_ok h ht true
    rw [if_pos rfl] at hfl
    rw [he, if_pos rfl, if_pos rfl] at hk
    rw [he, if_pos rfl]
    simp only [go_sem, Nat.reduceEqDiff, Nat.reduceAdd, Nat.reduceLT, Nat.reduceLeDiff, reduceIte, WB66, WVH_eq hk, true_and, bne_self_eq_false, WB67, WVH_eq hfl]
    try rfl
  · rw [if_neg he, if_neg he] at hk
    rw [if_neg he]
    simp only [go_sem, Nat.reduceEqDiff, Nat.reduceAdd, Nat.reduceLT, Nat.reduceLeDiff, reduceIte, WB66, WVH_eq hk, true_and, bne_iff_ne.2 he]
    try rfl
theorem SuspectsR_ok {v : Ev} (hf : farB v = false) : RV ft 39 [encE v] (.tup [encIs (tillR sP v), I64 (errT v 0 0)]) := by
  refine RV_of ft39 rfl ?_
  simp only [c39, r39]
  have hk := knownR_ok hf 0 0
  unfold knL at hk
  unfold tillR
  by_cases he : errT v 0 0 = 0
  · obtain ⟨h4, _, _, ht⟩ := errT0 he
    have h := EV_of hf (EV4_of.2 h4)
    have hfl := flawedR_ok h ht false
    rw [if_neg (by simp)] at hfl
    rw [he, if_pos rfl, if_pos rfl] at hk
    rw [he, if_pos rfl]
    simp only [go_sem, Nat.reduceEqDiff, Nat.reduceAdd, Nat.reduceLT, Nat.reduceLeDiff, reduceIte, WB66, WVH_eq hk, true_and, bne_self_eq_false, WB67, WVH_eq hfl]
    try rfl
  · rw [if_neg he, if_neg he] at hk
    rw [if_neg he]
    simp only [go_sem, Nat.reduceEqDiff, Nat.reduceAdd, Nat.reduceLT, Nat.reduceLeDiff, reduceIte, WB66, WVH_eq hk, true_and, bne_iff_ne.2 he]
    try rfl
end Go.Ab.T
end
