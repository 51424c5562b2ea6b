/-
  A part of the proofs over this seat.
  (The texts KcK20, one behind the other.)
-/
import Derived.Test.YtaenhjnmmdaokaaP9
set_option linter.unusedSimpArgs false
set_option linter.unusedVariables false
set_option linter.unusedSectionVars false
section
namespace Go.Ab.T
set_option maxRecDepth 8000
set_option maxHeartbeats 4000000
/-! ### The first part that goes wrong -/
def partC (p : V3) : List Ctr → Nat → V3 → Option (Int × Int) × V3
  | [], _, a => (none, a)
  | c :: r, t, a => if (toV c.so).sum = roll c then (if miss p c (toV c.so) = 0 then partC p r (t + 1) (a.add (toV c.so)) else (some (2, (t : Int)), a)) else (some (1, (t : Int)), a)
def partS (a : V3) : List Int → Nat → Option (Int × Int)
  | [], _ => none
  | n :: r, i => if a.at (i : Int) = n then partS a r (i + 1) else some (3, (i : Int))
def partT : List Int → List Int → Nat → Option (Int × Int)
  | y :: q, x :: r, i => if y < x then some (4, (i : Int)) else partT q r (i + 1)
  | _, _, _ => none
def partV (v : Ev) : Int × Int := match partC (toV v.pr) v.cs 0 V3.zero with
  | (some r, _) => r
  | (none, a) => match partS a v.se 0 with
    | some r => r
    | none => (partT v.se v.st 0).getD (0, -1)
theorem CO.tv {v : Ev} (h : EV4 v) {c : Ctr} (hc : CO v.pr.length c) : (toV c.so).bd 20 ∧ (1 ≤ c.so.length ∧ c.so.length ≤ 3) := by
  have h1 := h.k1
  have h3 := h.k3
  have h2 := hc.len
  have := toV_bd hc.so (by omega) (by omega)
  exact ⟨by simp only [V3.bd]; omega, by omega, by omega⟩
theorem firstPart_ok {v : Ev} (h : EV4 v) : RV ft 44 [encE v] (.tup [I64 (partV v).1, I64 (partV v).2]) := by
  have hk3 := h.k3
  have hk1 := h.k1
  have hn4 := h.n4
  have hsl := h.sl
  have htl := h.tl
  have hpp := h.ppos
  refine RV_of ft44 rfl ?_
  simp only [c44, r44]
  have hw6 : ∀ c : Ctr, writeCells (.agg [.sl [] .tight, I64 0, I64 0, I64 0, I64 0, I64 0]) 0 [encIs c.so, I64 c.fi, I64 c.la, I64 c.vo, I64 c.fl, I64 c.ca] = some (encC c) := fun _ => rfl
  have hw3 : ∀ a b : V3, writeCells (encV b) 0 [I64 a.x, I64 a.y, I64 a.z] = some (encV a) := fun _ _ => rfl
  have hw0 : ∀ a : V3, writeCells (.agg [I64 0, I64 0, I64 0]) 0 [I64 a.x, I64 a.y, I64 a.z] = some (encV a) := fun _ => rfl
  have gJ : ∀ (j : List Blk) (y : Blk), (j ++ [y])[j.length]? = some y := fun j y => by simp
  have gK : ∀ (j : List Blk) (y z : Blk), (j ++ [y] ++ [z])[j.length]? = some y := fun j y z => by simp
  have gL : ∀ (j : List Blk) (y z : Blk), (j ++ [y] ++ [z])[j.length + 1]? = some z := fun j y z => by simp
  have sJ : ∀ (j : List Blk) (y z : Blk), (j ++ [y]).set j.length z = j ++ [z] := fun j y z => by simp
  have sL : ∀ (j : List Blk) (y z w : Blk), (j ++ [y] ++ [z]).set (j.length + 1) w = j ++ [y] ++ [w] := fun j y z w => by simp
  have cA : ∀ c : Ctr, (encC c).isAgg = true := fun _ => rfl
  simp only [go_sem, Nat.reduceEqDiff, Nat.reduceAdd, Nat.reduceLT, Nat.reduceLeDiff, reduceIte, ECells]
  refine WL_inv (α := Nat × List Ctr × V3 × List Blk) (fun q e mm => e 1 = .ptr 0 0 0 ∧ e 4 = .ptr 1 0 0 ∧ e 13 = encCs v.cs ∧ e 14 = I64 v.cs.length ∧ e 15 = I64 q.1 ∧ v.cs.drop q.1 = q.2.1 ∧ partC (toV v.pr) q.2.1 q.1 q.2.2.1 = partC (toV v.pr) v.cs 0 V3.zero ∧ q.2.2.1.bd (20 * (q.1 : Int)) ∧ mm = ⟨.live [encE v] 4 :: .live [encV q.2.2.1] 3 :: q.2.2.2, []⟩) (fun q => q.2.1.length) (0, v.cs, V3.zero, []) ?_ ?_
  · simp only [go_sem, Nat.reduceEqDiff, Nat.reduceAdd, Nat.reduceLT, Nat.reduceLeDiff, reduceIte]
    ((repeat' apply And.intro) <;> first | trivial | rfl | assumption | omega | (exact ⟨by decide, by decide, by decide⟩))
  rintro ⟨k, r, a, j⟩ e m ⟨g1, g4, g13, g14, g15, hd, hq, hab, rfl⟩
  dsimp only at g15 hd hq hab
  cases r with
  | nil =>
    have h3 := drop_nil hd
    simp only [partC] at hq
    simp only [go_sem, Nat.reduceEqDiff, Nat.reduceAdd, Nat.reduceLT, Nat.reduceLeDiff, reduceIte, g1, g4, g13, g14, g15, dec_ge h3, ECells]
    have ix : ∀ (j : List Blk) (i : Nat), i < 3 → aidxAt ⟨.live [encE v] 4 :: .live [encV a] 3 :: j, []⟩ (.ptr 1 0 0) (I64 (i : Int)) 3 1 = some (.ptr 1 0 i) := fun j i hi => by
      rw [aidxAt_ptr, if_pos ⟨⟨by omega, by omega⟩, rfl⟩, Nat.mul_one, Nat.zero_add, Int.toNat_natCast]
    have ld : ∀ (j : List Blk) (i : Nat), i < 3 → loadAt ⟨.live [encE v] 4 :: .live [encV a] 3 :: j, []⟩ (.ptr 1 0 i) none = some (I64 (a.at (i : Int))) := fun j i hi => by
      rw [loadAt_ptr]
      have : i = 0 ∨ i = 1 ∨ i = 2 := by omega
      rcases this with rfl | rfl | rfl <;> rfl
    refine WL_inv (α := Nat × List Int) (fun q e mm => e 1 = .ptr 0 0 0 ∧ e 4 = .ptr 1 0 0 ∧ e 44 = encIs v.se ∧ e 45 = I64 v.se.length ∧ e 46 = I64 q.1 ∧ v.se.drop q.1 = q.2 ∧ partS a q.2 q.1 = partS a v.se 0 ∧ mm = ⟨.live [encE v] 4 :: .live [encV a] 3 :: j, []⟩) (fun q => q.2.length) (0, v.se) ?_ ?_
    · simp only [go_sem, Nat.reduceEqDiff, Nat.reduceAdd, Nat.reduceLT, Nat.reduceLeDiff, reduceIte, g1, g4, g13, g14, g15]
      ((repeat' apply And.intro) <;> first | trivial | rfl | assumption | omega)
    clear g1 g4 g13 g14 g15
    rintro ⟨i, r'⟩ e m ⟨g1, g4, g44, g45, g46, fd, fq, rfl⟩
    dsimp only at g46 fd fq
    cases r' with
    | nil =>
      have h4 := drop_nil fd
      simp only [partS] at fq
      simp only [go_sem, Nat.reduceEqDiff, Nat.reduceAdd, Nat.reduceLT, Nat.reduceLeDiff, reduceIte, g1, g4, g44, g45, g46, dec_ge h4, ECells]
      refine WL_inv (α := Nat × List Int × List Int) (fun q e mm => e 1 = .ptr 0 0 0 ∧ e 59 = encIs v.st ∧ e 60 = I64 v.st.length ∧ e 61 = I64 q.1 ∧ v.st.drop q.1 = q.2.1 ∧ v.se.drop q.1 = q.2.2 ∧ partT q.2.2 q.2.1 q.1 = partT v.se v.st 0 ∧ mm = ⟨.live [encE v] 4 :: .live [encV a] 3 :: j, []⟩) (fun q => q.2.1.length) (0, v.st, v.se) ?_ ?_
      · simp only [go_sem, Nat.reduceEqDiff, Nat.reduceAdd, Nat.reduceLT, Nat.reduceLeDiff, reduceIte, g1, g4, g44, g45, g46]
        ((repeat' apply And.intro) <;> first | trivial | rfl | assumption | omega)
      clear g1 g4 g44 g45 g46
      rintro ⟨i, r', q'⟩ e m ⟨g1, g59, g60, g61, fd, fd', fp, rfl⟩
      dsimp only at g61 fd fd' fp
      cases r' with
      | nil =>
        have h5 := drop_nil fd
        have hqn : q' = [] := by rw [← fd']; exact List.drop_eq_nil_of_le (by omega)
        subst hqn
        simp only [partT] at fp
        simp only [go_sem, Nat.reduceEqDiff, Nat.reduceAdd, Nat.reduceLT, Nat.reduceLeDiff, reduceIte, g1, g59, g60, g61, dec_ge h5]
        unfold partV
        rw [← hq]
        dsimp only
        rw [← fq, ← fp]
        rfl
      | cons x r' =>
        obtain ⟨hki, fd2, hlti⟩ := drop_cons fd
        obtain ⟨y, q'', rfl⟩ : ∃ y q'', q' = y :: q'' := by
          cases q' with
          | nil => have := drop_nil fd'; omega
          | cons y q'' => exact ⟨y, q'', rfl⟩
        obtain ⟨hky, fd3, _⟩ := drop_cons fd'
        simp only [partT] at fp
        by_cases hxy : y < x
        · rw [if_pos hxy] at fp
          simp only [go_sem, Nat.reduceEqDiff, Nat.reduceAdd, Nat.reduceLT, Nat.reduceLeDiff, reduceIte, g1, g59, g60, g61, dec_lt hlti, Is_idx hki, Is_idx hky, ECells, decide_eq_true hxy]
          unfold partV
          rw [← hq]
          dsimp only
          rw [← fq, ← fp]
          rfl
        · rw [if_neg hxy] at fp
          simp only [go_sem, Nat.reduceEqDiff, Nat.reduceAdd, Nat.reduceLT, Nat.reduceLeDiff, reduceIte, g1, g59, g60, g61, dec_lt hlti, Is_idx hki, Is_idx hky, ECells, decide_eq_false hxy, wrap_n1 i (by omega)]
          refine Nx_of (i + 1, r', q'') (by simp) ?_
          simp only [go_sem, Nat.reduceEqDiff, Nat.reduceAdd, Nat.reduceLT, Nat.reduceLeDiff, reduceIte, g1, g59, g60]
          ((repeat' apply And.intro) <;> first | trivial | rfl | assumption | omega | (exact fd2) | (exact fd3) | (exact fp))
    | cons x r' =>
      obtain ⟨hki, fd2, hlti⟩ := drop_cons fd
      simp only [partS] at fq
      by_cases hxy : a.at (i : Int) = x
      · rw [if_pos hxy] at fq
        simp only [go_sem, Nat.reduceEqDiff, Nat.reduceAdd, Nat.reduceLT, Nat.reduceLeDiff, reduceIte, g1, g4, g44, g45, g46, dec_lt hlti, Is_idx hki, ix j i (by omega), ld j i (by omega), hxy, bne_self_eq_false, wrap_n1 i (by omega)]
        refine Nx_of (i + 1, r') (by simp) ?_
        simp only [go_sem, Nat.reduceEqDiff, Nat.reduceAdd, Nat.reduceLT, Nat.reduceLeDiff, reduceIte, g1, g4, g44, g45]
        ((repeat' apply And.intro) <;> first | trivial | rfl | assumption | omega | (exact fd2) | (exact fq))
      · rw [if_neg hxy] at fq
        simp only [go_sem, Nat.reduceEqDiff, Nat.reduceAdd, Nat.reduceLT, Nat.reduceLeDiff, reduceIte, g1, g4, g44, g45, g46, dec_lt hlti, Is_idx hki, ix j i (by omega), ld j i (by omega), bne_iff_ne.2 hxy]
        unfold partV
        rw [← hq]
        dsimp only
        rw [← fq]
  | cons c r =>
    obtain ⟨hk, hd2, hlt⟩ := drop_cons hd
    have hco := h.cs c (List.mem_of_getElem? hk)
    obtain ⟨hcb, hc1, hc3⟩ := hco.tv h
    have ht := tick_ok hc1 hc3
    have htp := tick_ok (l := v.pr) hk1 hk3
    have hto := together_ok (a := toV c.so) (by simp only [V3.bd] at hcb ⊢; omega)
    have hro := roll_ok hco.s
    have hmi := missing_ok hco.fl hco.ca (t := toV c.so) (p := toV v.pr) (by simp only [V3.bd] at hcb ⊢; omega) hpp
    have hpl := plus_ok (a := a) (b := toV c.so) (by simp only [V3.bd] at hab ⊢; omega) (by simp only [V3.bd] at hcb ⊢; omega)
    simp only [partC] at hq
    by_cases q1 : (toV c.so).sum = roll c
    rotate_left
    · rw [if_neg q1] at hq
      simp only [go_sem, Nat.reduceEqDiff, Nat.reduceAdd, Nat.reduceLT, Nat.reduceLeDiff, reduceIte, g1, g4, g13, g14, g15, dec_lt hlt, Cs_idx hk, CCells, cA, hw6, hw0, gJ, gK, gL, sJ, sL, WB68, WVH_eq ht, true_and, VCells, VAgg, VEta, WB69, WVH_eq hto, WB70, WVH_eq hro, CEta, bne_iff_ne.2 q1]
      unfold partV
      rw [← hq]
    rw [if_pos q1] at hq
    by_cases q2 : miss (toV v.pr) c (toV c.so) = 0
    rotate_left
    · rw [if_neg q2] at hq
      simp only [go_sem, Nat.reduceEqDiff, Nat.reduceAdd, Nat.reduceLT, Nat.reduceLeDiff, reduceIte, g1, g4, g13, g14, g15, dec_lt hlt, Cs_idx hk, CCells, cA, hw6, hw0, gJ, gK, gL, sJ, sL, WB68, WVH_eq ht, WVH_eq htp, true_and, VCells, VAgg, VEta, WB69, WVH_eq hto, WB70, WVH_eq hro, CEta, q1, bne_self_eq_false, ECells, WB71, WVH_eq hmi, bne_iff_ne.2 q2]
      unfold partV
      rw [← hq]
    rw [if_pos q2] at hq
    simp only [go_sem, Nat.reduceEqDiff, Nat.reduceAdd, Nat.reduceLT, Nat.reduceLeDiff, reduceIte, g1, g4, g13, g14, g15, dec_lt hlt, Cs_idx hk, CCells, cA, hw6, hw0, hw3, gJ, gK, gL, sJ, sL, WB68, WVH_eq ht, WVH_eq htp, true_and, VCells, VAgg, VEta, WB69, WVH_eq hto, WB70, WVH_eq hro, CEta, q1, bne_self_eq_false, ECells, WB71, WVH_eq hmi, q2, WB72, WVH_eq hpl, wrap_n1 k (by omega)]
    refine Nx_of (k + 1, r, a.add (toV c.so), j ++ [.live [encC c] 6] ++ [.live [encV (toV c.so)] 3]) (by simp) ?_
    simp only [go_sem, Nat.reduceEqDiff, Nat.reduceAdd, Nat.reduceLT, Nat.reduceLeDiff, reduceIte, g1, g4, g13, g14]
    ((repeat' apply And.intro) <;> first | trivial | rfl | assumption | omega | (exact hd2) | (exact hq) | ((simp only [V3.bd, V3.add] at hab hcb ⊢; omega)) | (simp))
theorem Parts_ok {v : Ev} (hS : SE v) : RV ft 14 [encE v] (.tup [I64 (if evOK v = true then (partV v).1 else 0), I64 (if evOK v = true then (partV v).2 else 0), I64 (errE v)]) := by
  refine RV_of ft14 rfl ?_
  simp only [c14, r14]
  unfold errE
  have hc := Check_ok v hS
  unfold errE at hc
  by_cases hv : evOK v = true
  · rw [if_pos hv] at hc ⊢
    rw [if_pos hv, if_pos hv]
    simp only [go_sem, Nat.reduceEqDiff, Nat.reduceAdd, Nat.reduceLT, Nat.reduceLeDiff, reduceIte, WB31, WVH_eq hc, true_and, bne_self_eq_false, WB44, WVH_eq (firstPart_ok (EV4_of.1 hv))]
    rfl
  · rw [if_neg hv] at hc ⊢
    rw [if_neg hv, if_neg hv]
    simp only [go_sem, Nat.reduceEqDiff, Nat.reduceAdd, Nat.reduceLT, Nat.reduceLeDiff, reduceIte, WB31, WVH_eq hc, true_and, show ((100 : Int) != 0) = true from rfl]
    rfl
end Go.Ab.T
end
