/-
  A part of the proofs over this seat.
  (The texts KcK18 KcK19, one behind the other.)
-/
import Derived.Test.YtaenhjnmmdaokaaP8
set_option linter.unusedSimpArgs false
set_option linter.unusedVariables false
set_option linter.unusedSectionVars false
section
namespace Go.Ab.T
/-! ### What holds of a truth with the fewest flaws -/
theorem bndF_le (f : Ch → Int) : ∀ (L : List Ch) (s : Int × Int), (bndF f L s).1 ≤ s.1 ∧ s.2 ≤ (bndF f L s).2 ∧ ∀ x ∈ L, (bndF f L s).1 ≤ f x ∧ f x ≤ (bndF f L s).2
  | [], s => ⟨Int.le_refl _, Int.le_refl _, fun x hx => nomatch hx⟩
  | c :: r, s => by
    obtain ⟨h1, h2, h3⟩ := bndF_le f r (min s.1 (f c), max s.2 (f c))
    simp only [bndF]
    dsimp only at h1 h2
    refine ⟨by omega, by omega, fun x hx => ?_⟩
    cases hx with
    | head => omega
    | tail _ hx => exact h3 x hx
theorem bnd_mem (f : Ch → Int) {L : List Ch} {x : Ch} (h : x ∈ L) : (bnd f L).1 ≤ f x ∧ f x ≤ (bnd f L).2 := by
  match L, h with
  | c :: r, h => exact (bndF_le f (c :: r) (f c, f c)).2.2 x h
theorem errT_of {v : Ev} (h : EV4 v) (ht : hasTr v = true) {till sh : Int} (h1 : 0 ≤ till ∧ till < v.cs.length) (h2 : 0 ≤ sh ∧ sh < v.pr.length) : errT v till sh = 0 := by
  unfold errT
  rw [if_pos (EV4_of.2 h), if_pos (by rw [Bool.and_eq_true, inR_iff, inR_iff]; omega), if_pos ht]
theorem errT00 {v : Ev} (h : EV4 v) (ht : hasTr v = true) : errT v 0 0 = 0 := errT_of h ht (by have := h.n1; omega) (by have := h.k1; omega)
theorem tr_has {v : Ev} (h : EV4 v) {ls : List (List Int)} (ht : TrL v ls) : hasTr v = true := by
  unfold hasTr
  rw [beq_iff_eq]
  exact (IsT_sum ht.2).symm
theorem likV_min {v : Ev} (h : EV4 v) (ht : hasTr v = true) {i : Nat} (hi : i < v.cs.length) : IsMinF (toV v.pr) (toV v.se) v.cs (likV v i).2 := by
  unfold likV
  rw [List.getElem?_eq_getElem hi]
  exact (lik_spec (List.getElem?_eq_getElem hi) (hasT_of h ht)).2.1
theorem likV_mem {v : Ev} (h : EV4 v) (ht : hasTr v = true) {i : Nat} {c : Ctr} (hc : v.cs[i]? = some c) {x : Ch} : x ∈ (likV v i).1 ↔ ∃ ts t, IsT (toV v.se) v.cs ts ∧ flT (toV v.pr) v.cs ts = (likV v 0).2 ∧ ts[i]? = some t ∧ x = mkc (toV v.pr) c t := by
  have hi := (List.getElem?_eq_some_iff.1 hc).1
  have e := (likV_min h ht hi).uniq (likV_min h ht (i := 0) (by omega))
  rw [← e]
  unfold likV
  rw [hc]
  exact (lik_spec hc (hasT_of h ht)).2.2 x
theorem few_le {v : Ev} (h : EV4 v) {ls : List (List Int)} (ht : TrL v ls) : 0 ≤ (likV v 0).2 ∧ (likV v 0).2 ≤ flT (toV v.pr) v.cs (ls.map toV) := by
  obtain ⟨⟨ts, h1, h2⟩, h3⟩ := likV_min h (tr_has h ht) (i := 0) (by have := h.n1; omega)
  have := flT_bd (toV v.pr) v.cs ts
  exact ⟨by omega, h3 _ ht.2⟩
theorem few_mem {v : Ev} (h : EV4 v) {ls : List (List Int)} (ht : TrL v ls) (hf : flT (toV v.pr) v.cs (ls.map toV) = (likV v 0).2) {i : Nat} {c : Ctr} (hc : v.cs[i]? = some c) {l : List Int} (hl : ls[i]? = some l) : mkc (toV v.pr) c (toV l) ∈ (likV v i).1 :=
  (likV_mem h (tr_has h ht) hc).2 ⟨_, toV l, ht.2, hf, by rw [List.getElem?_map, hl]; rfl, rfl⟩
theorem tillsM_len (P : List Ch → Bool) (v : Ev) : (tillsM P v).length ≤ v.cs.length := by
  unfold tillsM
  rw [List.length_map]
  exact Nat.le_trans (List.length_filter_le _ _) (by simp)
theorem tillsM_in (P : List Ch → Bool) (v : Ev) {i : Nat} (hi : i < v.cs.length) : (tillsM P v).any (· == (i : Int)) = P (likV v i).1 := by
  rw [Bool.eq_iff_iff, List.any_eq_true]
  unfold tillsM
  constructor
  · rintro ⟨x, hx, e⟩
    obtain ⟨j, hj, rfl⟩ := List.mem_map.1 hx
    have : j = i := by have := beq_iff_eq.1 e; omega
    subst this
    exact (List.mem_filter.1 hj).2
  · intro h
    exact ⟨(i : Int), List.mem_map.2 ⟨i, List.mem_filter.2 ⟨List.mem_range.2 hi, h⟩, rfl⟩, beq_self_eq_true _⟩
theorem gP_at {L : List Ch} {x : Ch} (h : x ∈ L) (hg : gP L = true) : 0 < x.f := by
  unfold gP at hg
  rw [Bool.not_eq_true', List.any_eq_false] at hg
  simpa using hg x h
theorem sP_at {L : List Ch} {x : Ch} (h : x ∈ L) (hx : 0 < x.f) : sP L = true := by
  unfold sP
  rw [List.any_eq_true]
  exact ⟨x, h, decide_eq_true hx⟩
theorem toV_at {l : List Int} {i : Nat} {x : Int} (h3 : l.length ≤ 3) (h : l[i]? = some x) : (toV l).at (i : Int) = x := by
  have hi := (List.getElem?_eq_some_iff.1 h).1
  have hd : l.getD i 0 = x := by rw [List.getD_eq_getElem?_getD, h]; rfl
  have : i = 0 ∨ i = 1 ∨ i = 2 := by omega
  rcases this with rfl | rfl | rfl
  · exact hd
  · exact hd
  · exact hd
end Go.Ab.T
end

section
namespace Go.Ab.T
set_option maxRecDepth 8000
set_option maxHeartbeats 4000000
theorem CountTruth_ok (v : Ev) (ls : List (List Int)) : RV ft 4 [encE v, encIss ls] (.bool true) := by
  refine RV_of ft4 rfl ?_
  simp only [c4, r4]
  cases hv : (!farB v && evOK v)
  · simp only [go_sem, Nat.reduceEqDiff, Nat.reduceAdd, Nat.reduceLT, Nat.reduceLeDiff, reduceIte, WB12, WVH_eq (valid_ok v), true_and, hv, Bool.not_false, WB13, WVH_eq works_ok]
  rw [Bool.and_eq_true, Bool.not_eq_true'] at hv
  have hS := SE.of_far hv.1
  have h := (EV_of hv.1 hv.2).toEV4
  have hval : (!farB v && evOK v) = true := by rw [hv.1, hv.2]; rfl
  cases ht : isTrB v ls
  · simp only [go_sem, Nat.reduceEqDiff, Nat.reduceAdd, Nat.reduceLT, Nat.reduceLeDiff, reduceIte, WB12, WVH_eq (valid_ok v), true_and, hval, Bool.not_true, WB18, WVH_eq (IsTruth_ok h ls), ht, Bool.not_false, WB13, WVH_eq works_ok]
  have hT := (isTrB_iff h).1 ht
  have hH := tr_has h hT
  have h00 := errT00 h hH
  have hF : RV ft 15 [encE v] (.tup [I64 (likV v 0).2, I64 0]) := by have := Fewest_ok hS; rw [if_pos h00, h00] at this; exact this
  have hG : RV ft 21 [encE v] (.tup [encIs (tillsM gP v), I64 0]) := by have := Guilty_ok hS; unfold tillR at this; rw [if_pos h00, h00] at this; exact this
  have hP : RV ft 17 [encE v] (.tup [encIs (tillsM sP v), I64 0]) := by have := Suspects_ok hS; unfold tillR at this; rw [if_pos h00, h00] at this; exact this
  have hA := All_ok h hT
  obtain ⟨hn0, hn1⟩ := few_le h hT
  have hlen : ls.length = v.cs.length := by have := IsT_len hT.2; rwa [List.length_map] at this
  have hn4 := h.n4
  have hk3 := h.k3
  by_cases hlt : (likV v 0).2 < flT (toV v.pr) v.cs (ls.map toV)
  · simp only [go_sem, Nat.reduceEqDiff, Nat.reduceAdd, Nat.reduceLT, Nat.reduceLeDiff, reduceIte, WB12, WVH_eq (valid_ok v), true_and, hval, Bool.not_true, WB18, WVH_eq (IsTruth_ok h ls), ht, WB15, WVH_eq hF, WB20, WVH_eq hA, bne_self_eq_false, decide_eq_false (show ¬ (likV v 0).2 < 0 by omega), decide_eq_false (show ¬ flT (toV v.pr) v.cs (ls.map toV) < (likV v 0).2 by omega), decide_eq_true hlt, WB13, WVH_eq works_ok]
  have heq : flT (toV v.pr) v.cs (ls.map toV) = (likV v 0).2 := by omega
  have gl := tillsM_len gP v
  have sl := tillsM_len sP v
  simp only [go_sem, Nat.reduceEqDiff, Nat.reduceAdd, Nat.reduceLT, Nat.reduceLeDiff, reduceIte, WB12, WVH_eq (valid_ok v), true_and, hval, Bool.not_true, WB18, WVH_eq (IsTruth_ok h ls), ht, WB15, WVH_eq hF, WB20, WVH_eq hA, heq, bne_self_eq_false, decide_eq_false (show ¬ (likV v 0).2 < 0 by omega), decide_eq_false (show ¬ (likV v 0).2 < (likV v 0).2 by omega), WB21, WVH_eq hG, WB17, WVH_eq hP, decide_eq_false (show ¬ (v.cs.length : Int) < ((tillsM gP v).length : Int) by omega), decide_eq_false (show ¬ (v.cs.length : Int) < ((tillsM sP v).length : Int) by omega)]
  have sC : ∀ a b : Int, (encS a b).cells = [I64 a, I64 b] := fun _ _ => rfl
  have sA : ∀ a b : Int, (encS a b).isAgg = true := fun _ _ => rfl
  have sE : ∀ a b : Int, AV.agg [I64 a, I64 b] = encS a b := fun _ _ => rfl
  have sw : ∀ a b c d : Int, writeCells (encS a b) 0 [I64 c, I64 d] = some (encS c d) := fun _ _ _ _ => rfl
  have gJ : ∀ (j : List Blk) (y : Blk), (j ++ [y])[j.length]? = some y := fun j y => by simp
  have sJ : ∀ (j : List Blk) (y z : Blk), (j ++ [y]).set j.length z = j ++ [z] := fun j y z => by simp
  refine WL_inv (α := Nat × List (List Int) × List Blk) (fun q e mm => e 1 = encIss ls ∧ e 2 = .ptr 0 0 0 ∧ e 8 = encIs (tillsM gP v) ∧ e 10 = encIs (tillsM sP v) ∧ e 12 = I64 q.1 ∧ ls.drop q.1 = q.2.1 ∧ mm = ⟨.live [encE v] 4 :: q.2.2, []⟩) (fun q => q.2.1.length) (0, ls, []) ?_ ?_
  · simp only [go_sem, Nat.reduceEqDiff, Nat.reduceAdd, Nat.reduceLT, Nat.reduceLeDiff, reduceIte]
    ((repeat' apply And.intro) <;> first | trivial | rfl | assumption | omega)
  rintro ⟨k, r, j⟩ e m ⟨g1, g2, g8, g10, g12, hd, rfl⟩
  dsimp only at g12 hd
  cases r with
  | nil =>
    have h3 := drop_nil hd
    simp only [go_sem, Nat.reduceEqDiff, Nat.reduceAdd, Nat.reduceLT, Nat.reduceLeDiff, reduceIte, g1, g2, g8, g10, g12, dec_ge (show v.cs.length ≤ k by omega), WB13, WVH_eq works_ok, true_and]
  | cons l r =>
    obtain ⟨hk, hd2, hltk⟩ := drop_cons hd
    have hkc : k < v.cs.length := by omega
    obtain ⟨c, hc⟩ : ∃ c, v.cs[k]? = some c := ⟨_, List.getElem?_eq_getElem hkc⟩
    have hTL := TL.of_tr h hT l (List.mem_of_getElem? hk)
    have hmem := few_mem h hT heq hc hk
    have hFl := Flaws_ok h hc hTL
    have hDue := Due_ok h hc hTL
    have hco := h.cs c (List.mem_of_getElem? hc)
    have hIG : RV ft 23 [encIs (tillsM gP v), I64 (k : Int)] (.bool (gP (likV v k).1)) := by rw [← tillsM_in gP v hkc]; exact in_ok _ _ (by omega)
    have hIS : RV ft 23 [encIs (tillsM sP v), I64 (k : Int)] (.bool (sP (likV v k).1)) := by rw [← tillsM_in sP v hkc]; exact in_ok _ _ (by omega)
    have hM : RV ft 24 [encE v, I64 (k : Int)] (.tup [encS (bnd Ch.m (likV v k).1).1 (bnd Ch.m (likV v k).1).2, I64 0]) := by
      have := Missing_ok hS (k : Int)
      have e0 : errT v (k : Int) 0 = 0 := errT_of h hH (by omega) (by have := h.k1; omega)
      unfold bndR at this
      rw [if_pos e0, e0, Int.toNat_natCast] at this
      exact this
    have hR : ∀ i : Nat, i < v.pr.length → RV ft 16 [encE v, I64 (k : Int), I64 (i : Int)] (.tup [encS (bnd (fun c => c.t.at (i : Int)) (likV v k).1).1 (bnd (fun c => c.t.at (i : Int)) (likV v k).1).2, I64 0]) := by
      intro i hi
      have := Really_ok hS (k : Int) (i : Int)
      have e0 : errT v (k : Int) (i : Int) = 0 := errT_of h hH (by omega) (by omega)
      unfold bndR at this
      rw [if_pos e0, e0, Int.toNat_natCast] at this
      exact this
    have hm := bnd_mem Ch.m hmem
    have hmv : (mkc (toV v.pr) c (toV l)).m = dueL v c l - c.ca := by unfold mkc miss dueL; rfl
    rw [hmv] at hm
    have hdb : -4000000 ≤ dueL v c l ∧ dueL v c l ≤ 4000000 := by
      have hbx : (toV l).bd 20 := by have := toV_bd hTL.bd (by omega) (by omega); simp only [V3.bd]; omega
      have hbb := dot_bd (a := toV l) (p := toV v.pr) (by simp only [V3.bd] at hbx ⊢; omega) h.ppos
      have hfl := hco.fl
      unfold dueL
      omega
    have hx : ∀ i : Nat, ∀ x : Int, l[i]? = some x → (bnd (fun c => c.t.at (i : Int)) (likV v k).1).1 ≤ x ∧ x ≤ (bnd (fun c => c.t.at (i : Int)) (likV v k).1).2 := by
      intro i x hi
      have := bnd_mem (fun c : Ch => c.t.at (i : Int)) hmem
      rwa [show (mkc (toV v.pr) c (toV l)).t.at (i : Int) = x from toV_at (by rw [hTL.len]; omega) hi] at this
    have hca := hco.ca
    have hfb := flw_bd (toV v.pr) c (toV l)
    have hgs : gP (likV v k).1 = true → 0 < flw (toV v.pr) c (toV l) := fun hg => gP_at hmem hg
    have hss : 0 < flw (toV v.pr) c (toV l) → sP (likV v k).1 = true := fun hp => sP_at hmem hp
    have hcase : ((((flw (toV v.pr) c (toV l) == 0) = true ∧ decide (0 < flw (toV v.pr) c (toV l)) = false) ∧ gP (likV v k).1 = false) ∧ sP (likV v k).1 = true) ∨ ((((flw (toV v.pr) c (toV l) == 0) = true ∧ decide (0 < flw (toV v.pr) c (toV l)) = false) ∧ gP (likV v k).1 = false) ∧ sP (likV v k).1 = false) ∨
        ((((flw (toV v.pr) c (toV l) == 0) = false ∧ decide (0 < flw (toV v.pr) c (toV l)) = true) ∧ gP (likV v k).1 = true) ∧ sP (likV v k).1 = true) ∨ ((((flw (toV v.pr) c (toV l) == 0) = false ∧ decide (0 < flw (toV v.pr) c (toV l)) = true) ∧ gP (likV v k).1 = false) ∧ sP (likV v k).1 = true) := by
      by_cases hz : 0 < flw (toV v.pr) c (toV l)
      · have e1 : (flw (toV v.pr) c (toV l) == 0) = false := beq_eq_false_iff_ne.2 (by omega)
        cases hg : gP (likV v k).1
        · exact .inr (.inr (.inr ⟨⟨⟨e1, decide_eq_true hz⟩, rfl⟩, hss hz⟩))
        · exact .inr (.inr (.inl ⟨⟨⟨e1, decide_eq_true hz⟩, rfl⟩, hss hz⟩))
      · have e1 : (flw (toV v.pr) c (toV l) == 0) = true := beq_iff_eq.2 (by omega)
        have e2 : gP (likV v k).1 = false := by
          cases hg : gP (likV v k).1
          · rfl
          · exact absurd (hgs hg) hz
        cases hs : sP (likV v k).1
        · exact .inr (.inl ⟨⟨⟨e1, decide_eq_false hz⟩, e2⟩, rfl⟩)
        · exact .inl ⟨⟨⟨e1, decide_eq_false hz⟩, e2⟩, rfl⟩
    rcases hcase with ⟨⟨⟨q1, q2⟩, q3⟩, q4⟩ | ⟨⟨⟨q1, q2⟩, q3⟩, q4⟩ | ⟨⟨⟨q1, q2⟩, q3⟩, q4⟩ | ⟨⟨⟨q1, q2⟩, q3⟩, q4⟩
    all_goals
      simp only [go_sem, Nat.reduceEqDiff, Nat.reduceAdd, Nat.reduceLT, Nat.reduceLeDiff, reduceIte, g1, g2, g8, g10, g12, dec_lt hkc, Iss_idx hk, WB22, WVH_eq hFl, true_and, q1, q2, q3, q4, WB23, WVH_eq hIG, WVH_eq hIS, Bool.not_true, Bool.not_false, WB24, WVH_eq hM, gJ, sJ, sC, sA, sE, sw, WB25, WVH_eq hDue, Cs_idx hc, CCells, bne_self_eq_false, wrap_i64 (dueL v c l - c.ca) (by omega) (by omega), decide_eq_false (Int.not_lt.2 hm.1), decide_eq_false (Int.not_lt.2 hm.2)]
      refine WL_inv (α := Nat × List Int × List Blk) (fun q e mm => e 1 = encIss ls ∧ e 2 = .ptr 0 0 0 ∧ e 8 = encIs (tillsM gP v) ∧ e 10 = encIs (tillsM sP v) ∧ e 12 = I64 k ∧ e 17 = I64 q.1 ∧ l.drop q.1 = q.2.1 ∧ mm = ⟨.live [encE v] 4 :: q.2.2, []⟩) (fun q => q.2.1.length) (0, l, j ++ [.live [encS (bnd Ch.m (likV v k).1).1 (bnd Ch.m (likV v k).1).2] 2]) ?_ ?_
      · simp only [go_sem, Nat.reduceEqDiff, Nat.reduceAdd, Nat.reduceLT, Nat.reduceLeDiff, reduceIte, g1, g2, g8, g10, g12]
        ((repeat' apply And.intro) <;> first | trivial | rfl | assumption | omega)
      rintro ⟨i, r', j2⟩ e m ⟨f1, f2, f8, f10, f12, f17, fd, rfl⟩
      dsimp only at f17 fd
      cases r' with
      | nil =>
        have h3 := drop_nil fd
        simp only [go_sem, Nat.reduceEqDiff, Nat.reduceAdd, Nat.reduceLT, Nat.reduceLeDiff, reduceIte, f1, f2, f8, f10, f12, f17, dec_ge (show v.pr.length ≤ i by have := hTL.len; omega), wrap_n1 k (by omega)]
        refine Nx_of (k + 1, r, j2) (by simp) ?_
        simp only [go_sem, Nat.reduceEqDiff, Nat.reduceAdd, Nat.reduceLT, Nat.reduceLeDiff, reduceIte, f1, f2, f8, f10, f12]
        ((repeat' apply And.intro) <;> first | trivial | rfl | assumption | omega | (exact hd2))
      | cons x r' =>
        obtain ⟨hki, fd2, hlti⟩ := drop_cons fd
        have hip : i < v.pr.length := by rw [← hTL.len]; exact hlti
        obtain ⟨hx1, hx2⟩ := hx i x hki
        simp only [go_sem, Nat.reduceEqDiff, Nat.reduceAdd, Nat.reduceLT, Nat.reduceLeDiff, reduceIte, f1, f2, f8, f10, f12, f17, dec_lt hip, Iss_idx hk, Is_idx hki, WB16, WVH_eq (hR i hip), true_and, gJ, sJ, sC, sA, sE, sw, bne_self_eq_false, decide_eq_false (Int.not_lt.2 hx1), decide_eq_false (Int.not_lt.2 hx2), wrap_n1 i (by omega)]
        refine Nx_of (i + 1, r', j2 ++ [.live [encS (bnd (fun c => c.t.at (i : Int)) (likV v k).1).1 (bnd (fun c => c.t.at (i : Int)) (likV v k).1).2] 2]) (by simp) ?_
        simp only [go_sem, Nat.reduceEqDiff, Nat.reduceAdd, Nat.reduceLT, Nat.reduceLeDiff, reduceIte, f1, f2, f8, f10, f12]
        ((repeat' apply And.intro) <;> first | trivial | rfl | assumption | omega | (exact fd2))
end Go.Ab.T
end
