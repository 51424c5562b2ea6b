/-
 A part of the proofs over this seat.
 (The texts KqK51 KqK52, one behind the other.)
-/
import Derived.Test.YtlmhadnbcmjaeaaGreatP13
import Derived.Test.YtlmhadnbcmjaeaaGreatP2
import Derived.Test.YtlmhadnbcmjaeaaGreatP1
set_option linter.unusedSimpArgs false
set_option linter.unusedVariables false
set_option linter.unusedSectionVars false
section
namespace Go.Ab.T
set_option maxRecDepth 8000
set_option maxHeartbeats 4000000
theorem grpE_zero {h : Hl} {l : List Cl} {m z : Int} (he : grpE h l m z = 0) : lisE h l m = 0 ∧ szR z = true := by
 unfold grpE at he
 by_cases h1 : lisE h l m = 0
 ·rw [if_pos h1] at he
  by_cases h2 : szR z = true
  ·exact ⟨h1, h2⟩
  ·rw [if_neg h2] at he; cases he
 ·rw [if_neg h1] at he; exact absurd he h1
theorem After_of {h : Hl} {l : List Cl} {m : Int} (he : lisE h l m = 0) : ∃ sn, RV ft 35 [encH h, encCs l, I64 m] (encHV (afterM h l m) sn) := by
 obtain ⟨hc, _⟩ := lisE_ok he
 obtain ⟨ho, h40, hcv, hnc⟩ := chk_ok hc
 have hr0 : h.rows ≠ [] := fun e => by
  unfold okH at ho
  rw [Bool.and_eq_true] at ho
  have := (inR_iff ho.1).1
  rw [e] at this
  simp at this
 obtain ⟨v, hv, sn, rfl⟩ := After_ok h l m ho hr0 h40 hcv hnc
 exact ⟨sn, hv⟩
theorem checkAsk_ok (h : Hl) (l : List Cl) (m z : Int) (hl : h.rows.length < 9223372036854775808) : RV ft 34 [encH h, encCs l, I64 m, I64 0, I64 z] (I64 (grpE h l m z)) := by
 refine RV_of ft34 rfl ?_
 simp only [c34, r34]
 have hC := CheckR_ok h l hl
 have h1 := within_ok m 0 9999
 have h2 : RV ft 48 [I64 0, I64 0, I64 99] (.bool true) := within_ok 0 0 99
 have h3 := within_ok z 1 12
 by_cases hc : chkE h l = 0
 case neg =>
  have hne : (chkE h l != 0) = true := by simpa using hc
  have hE : grpE h l m z = chkE h l := by
   have : lisE h l m = chkE h l := by unfold lisE; rw [if_neg hc]
   unfold grpE; rw [this, if_neg hc]
  simp only [go_sem, Nat.reduceEqDiff, Nat.reduceAdd, Nat.reduceLT, Nat.reduceLeDiff, reduceIte, gA0, List.getElem?_cons_zero, HEta, WB9, snH, hotH, snCs, hotCs, WVH_eq hC, true_and, hne]
  rw [hE]
 rw [hc] at hC
 have bnz : ((0 : Int) != 0) = false := rfl
 have hE : grpE h l m z = if inR m 0 9999 = true then (if inR z 1 12 = true then 0 else 1) else 1 := by
  unfold grpE lisE szR
  rw [if_pos hc]
  by_cases hm : inR m 0 9999 = true
  ·rw [if_pos hm, if_pos hm]; rfl
  ·rw [if_neg hm, if_neg hm]; rfl
 rw [hE]
 cases e1 : inR m 0 9999 <;> cases e3 : inR z 1 12 <;> rw [e1] at h1 <;> rw [e3] at h3 <;> simp only [go_sem, Nat.reduceEqDiff, Nat.reduceAdd, Nat.reduceLT, Nat.reduceLeDiff, reduceIte, gA0, List.getElem?_cons_zero, HEta, WB9, snH, hotH, snCs, hotCs, WVH_eq hC, true_and, bnz, WB48, WVH_eq h1, WVH_eq h2, WVH_eq h3] <;> try rfl
theorem HVCells (S : HZ) (sn : List Int) : (encHV S sn).cells = [encRows S.seats, .sl ((pcsM S).map encPc) .unk, encIs sn, encIs S.vain] := rfl
theorem BestR_ok (h : Hl) (l : List Cl) (m z : Int) (hl : h.rows.length < 9223372036854775808) : RV ft 20 [encH h, encCs l, I64 m, I64 z] (.tup [I64 (f4 (bstM h l m z)), I64 (f5 (bstM h l m z)), I64 (bstE h l m z)]) := by
 refine RV_of ft20 rfl ?_
 simp only [c20, r20]
 have hA := checkAsk_ok h l m z hl
 have bnz : ((0 : Int) != 0) = false := rfl
 by_cases hg : grpE h l m z = 0
 case neg =>
  have hne : (grpE h l m z != 0) = true := by simpa using hg
  have hE : bstE h l m z = grpE h l m z := by
   unfold grpE bstE at *
   by_cases h1 : lisE h l m = 0
   ·rw [if_pos h1, if_pos h1]
    rw [if_pos h1] at hg
    by_cases h2 : szR z = true
    ·rw [if_pos h2] at hg; exact absurd rfl hg
    ·rw [if_neg h2, if_neg h2]
   ·rw [if_neg h1, if_neg h1]
  have hM : bstM h l m z = none := by unfold bstM; rw [hE, if_neg hg]
  simp only [go_sem, Nat.reduceEqDiff, Nat.reduceAdd, Nat.reduceLT, Nat.reduceLeDiff, reduceIte, gA0, List.getElem?_cons_zero, HEta, WB34, snH, hotH, snCs, hotCs, WVH_eq hA, true_and, hne]
  rw [hE, hM]; rfl
 rw [hg] at hA
 obtain ⟨he, hsz⟩ := grpE_zero hg
 obtain ⟨sn, hF⟩ := After_of he
 obtain ⟨z1, z2⟩ := inR_iff (show inR z 1 12 = true from hsz)
 obtain ⟨zn, rfl⟩ : ∃ zn : Nat, z = zn := ⟨z.toNat, by omega⟩
 have hB := after_HB he
 have hbest := bestR_ok (afterM h l m).seats zn (by omega) (by omega) hB.len hB.row
 unfold bstM bstE
 rw [if_pos he, if_pos hsz, Int.toNat_natCast]
 cases hb : bestS (afterM h l m).seats zn with
 | none =>
  rw [hb] at hbest
  simp only [go_sem, Nat.reduceEqDiff, Nat.reduceAdd, Nat.reduceLT, Nat.reduceLeDiff, reduceIte, gA0, List.getElem?_cons_zero, HEta, WB34, snH, hotH, snCs, hotCs, WVH_eq hA, true_and, bnz, WB35, WVH_eq hF, encHV, WB41, snRows, hotRows, WVH_eq hbest, bestA, Option.isSome_none]
  rfl
 | some q =>
  rw [hb] at hbest
  simp only [go_sem, Nat.reduceEqDiff, Nat.reduceAdd, Nat.reduceLT, Nat.reduceLeDiff, reduceIte, gA0, List.getElem?_cons_zero, HEta, WB34, snH, hotH, snCs, hotCs, WVH_eq hA, true_and, bnz, WB35, WVH_eq hF, encHV, WB41, snRows, hotRows, WVH_eq hbest, bestA, Option.isSome_some]
  rfl
theorem LargestR_ok (h : Hl) (l : List Cl) (m : Int) (hl : h.rows.length < 9223372036854775808) : RV ft 22 [encH h, encCs l, I64 m] (.tup [I64 (larM h l m), I64 (lisE h l m)]) := by
 refine RV_of ft22 rfl ?_
 simp only [c22, r22]
 have hA := checkAsk_ok h l m 1 hl
 have bnz : ((0 : Int) != 0) = false := rfl
 have hE : grpE h l m 1 = lisE h l m := by
  unfold grpE
  by_cases h1 : lisE h l m = 0
  ·rw [if_pos h1, h1, if_pos (by decide)]
  ·rw [if_neg h1]
 rw [hE] at hA
 by_cases he : lisE h l m = 0
 case neg =>
  have hne : (lisE h l m != 0) = true := by simpa using he
  have hM : larM h l m = 0 := by unfold larM; rw [if_neg he]
  simp only [go_sem, Nat.reduceEqDiff, Nat.reduceAdd, Nat.reduceLT, Nat.reduceLeDiff, reduceIte, gA0, List.getElem?_cons_zero, HEta, WB34, snH, hotH, snCs, hotCs, WVH_eq hA, true_and, hne]
  rw [hM]
 rw [he] at hA ⊢
 obtain ⟨sn, hF⟩ := After_of he
 have hB := after_HB he
 unfold larM
 rw [if_pos he]
 have hso1 : (AV.sl ((pcsM (afterM h l m)).map encPc) .unk).solid = true := rfl
 have hso2 : ∀ l, (encIs l).solid = true := fun _ => rfl
 have hwz : writeCells (.agg [.sl [] .tight, .sl [] .tight, .sl [] .tight, .sl [] .tight]) 0 [encRows (afterM h l m).seats, .sl ((pcsM (afterM h l m)).map encPc) .unk, encIs sn, encIs (afterM h l m).vain] = some (encHV (afterM h l m) sn) := rfl
 simp only [go_sem, Nat.reduceEqDiff, Nat.reduceAdd, Nat.reduceLT, Nat.reduceLeDiff, reduceIte, gA0, sA0, List.getElem?_cons_zero, List.getElem?_cons_succ, List.set_cons_zero, List.set_cons_succ, HEta, WB34, snH, hotH, snCs, hotCs, WVH_eq hA, true_and, bnz, WB35, WVH_eq hF, HVCells, hwz, RowsSolid, hso1, hso2]
 refine WL_inv (α := Nat) (fun q e mm => e 9 = .ptr 1 0 0 ∧ e 10 = I64 q ∧ q ≤ 12 ∧ larF (afterM h l m).seats q = larF (afterM h l m).seats 12 ∧ mm = ⟨[.live [encH h] 2, .live [encHV (afterM h l m) sn] 4], []⟩) (fun q => q) 12 ?_ ?_
 ·simp only [go_sem, Nat.reduceEqDiff, Nat.reduceAdd, Nat.reduceLT, Nat.reduceLeDiff, reduceIte]
  exact ⟨t_, rfl, by first | trivial | simp⟩
 rintro q e mm ⟨g9, g10, hq, hl, rfl⟩
 cases q with
 | zero =>
  simp only [go_sem, Nat.reduceEqDiff, Nat.reduceAdd, Nat.reduceLT, Nat.reduceLeDiff, reduceIte, g9, g10, show decide ((0 : Int) < ((0 : Nat) : Int)) = false from rfl]
  rw [← hl]; rfl
 | succ q =>
  have d1 : decide ((0 : Int) < ((q + 1 : Nat) : Int)) = true := decide_eq_true (by omega)
  have hbest := bestR_ok (afterM h l m).seats (q + 1) (by omega) (by omega) hB.len hB.row
  cases hb : bestS (afterM h l m).seats (q + 1) with
  | none =>
   rw [hb] at hbest
   have hw1 : IntKind.i64.wrap (((q + 1 : Nat) : Int) - 1) = (q : Int) := by rw [wrap_i64 _ (by omega) (by omega)]; omega
   simp only [go_sem, Nat.reduceEqDiff, Nat.reduceAdd, Nat.reduceLT, Nat.reduceLeDiff, reduceIte, g9, g10, d1, HVCells, List.getElem?_cons_zero, List.getElem?_cons_succ, WB41, snRows, hotRows, WVH_eq hbest, true_and, bestA, Option.isSome_none, hw1]
   refine Nx_of q (by omega) ?_
   simp only [go_sem, Nat.reduceEqDiff, Nat.reduceAdd, Nat.reduceLT, Nat.reduceLeDiff, reduceIte, g9]
   refine ⟨t_, t_, by first | trivial | omega, ?_, by first | trivial | rfl⟩
   rw [← hl, larF, hb]; rfl
  | some p =>
   rw [hb] at hbest
   simp only [go_sem, Nat.reduceEqDiff, Nat.reduceAdd, Nat.reduceLT, Nat.reduceLeDiff, reduceIte, g9, g10, d1, HVCells, List.getElem?_cons_zero, List.getElem?_cons_succ, WB41, snRows, hotRows, WVH_eq hbest, true_and, bestA, Option.isSome_some]
   rw [← hl, larF, hb]; rfl
theorem cntR_full {z : Nat} (hz : 1 ≤ z) (row : List Int) : scG (fun i => plcR row z (i : Int)) z row.length 0 0 = cntR z row := by
 unfold cntR
 have := scG_more (plc := fun i => plcR row z (i : Int)) (z := z) (row.length + 1 - z) (row.length - (row.length + 1 - z)) 0 0 fun t ht => plcR_len hz (by omega)
 rw [show row.length + 1 - z + (row.length - (row.length + 1 - z)) = row.length by omega] at this
 exact this
theorem scG_hit {plc : Nat → Bool} {z k i : Nat} (hz : 1 ≤ z) (hp : plc i = true) (hk : z ≤ k) : scG plc z k i i = 1 + scG plc z (k - z) (i + z) (i + z) := by
 rw [show k = (z - 1 + (k - z)) + 1 by omega, scG, if_pos ⟨Nat.le_refl _, hp⟩, scG_skip plc z (z - 1) (k - z) (i + 1) (i + z) fun t ht => .inr (by omega), show i + 1 + (z - 1) = i + z by omega, show z - 1 + (k - z) + 1 - z = k - z by omega]
theorem scG_miss {plc : Nat → Bool} {z k i : Nat} (hp : plc i = false) : scG plc z (k + 1) i i = scG plc z k (i + 1) (i + 1) := by
 rw [scG, if_neg (by rw [hp]; rintro ⟨_, h⟩; cases h)]
 exact scG_le plc z k (i + 1) i (i + 1) (by omega) (by omega)
theorem GroupsR_ok (h : Hl) (l : List Cl) (m z : Int) (hl : h.rows.length < 9223372036854775808) : RV ft 24 [encH h, encCs l, I64 m, I64 z] (.tup [I64 (grpM h l m z), I64 (grpE h l m z)]) := by
 refine RV_of ft24 rfl ?_
 simp only [c24, r24]
 have hA := checkAsk_ok h l m z hl
 have bnz : ((0 : Int) != 0) = false := rfl
 by_cases hg : grpE h l m z = 0
 case neg =>
  have hne : (grpE h l m z != 0) = true := by simpa using hg
  have hM : grpM h l m z = 0 := by unfold grpM; rw [if_neg hg]
  simp only [go_sem, Nat.reduceEqDiff, Nat.reduceAdd, Nat.reduceLT, Nat.reduceLeDiff, reduceIte, gA0, List.getElem?_cons_zero, HEta, WB34, snH, hotH, snCs, hotCs, WVH_eq hA, true_and, hne]
  rw [hM]
 unfold grpM
 rw [if_pos hg]
 rw [hg] at hA ⊢
 obtain ⟨he, hsz⟩ := grpE_zero hg
 obtain ⟨sn, hF⟩ := After_of he
 obtain ⟨z1, z2⟩ := inR_iff (show inR z 1 12 = true from hsz)
 obtain ⟨zn, rfl⟩ : ∃ zn : Nat, z = zn := ⟨z.toNat, by omega⟩
 have hB := after_HB he
 rw [Int.toNat_natCast]
 have hso1 : (AV.sl ((pcsM (afterM h l m)).map encPc) .unk).solid = true := rfl
 have hso2 : ∀ l, (encIs l).solid = true := fun _ => rfl
 have hwz : writeCells (.agg [.sl [] .tight, .sl [] .tight, .sl [] .tight, .sl [] .tight]) 0 [encRows (afterM h l m).seats, .sl ((pcsM (afterM h l m)).map encPc) .unk, encIs sn, encIs (afterM h l m).vain] = some (encHV (afterM h l m) sn) := rfl
 simp only [go_sem, Nat.reduceEqDiff, Nat.reduceAdd, Nat.reduceLT, Nat.reduceLeDiff, reduceIte, gA0, sA0, List.getElem?_cons_zero, List.getElem?_cons_succ, List.set_cons_zero, List.set_cons_succ, HEta, WB34, snH, hotH, snCs, hotCs, WVH_eq hA, true_and, bnz, WB35, WVH_eq hF, HVCells, hwz, RowsSolid, hso1, hso2]
 generalize hSd : afterM h l m = S at hB ⊢
 refine WL_inv (α := Nat × List (List Int)) (fun q e mm => e 3 = I64 (zn : Int) ∧ e 11 = .ptr 1 0 0 ∧ e 13 = I64 q.1 ∧ S.seats.drop q.1 = q.2 ∧ (∃ c : Nat, e 12 = I64 c ∧ c ≤ 12 * q.1 ∧ c + cntS zn q.2 = cntS zn S.seats) ∧ mm = ⟨[.live [encH h] 2, .live [encHV S sn] 4], []⟩) (fun q => q.2.length) (0, S.seats) ?_ ?_
 ·simp only [go_sem, Nat.reduceEqDiff, Nat.reduceAdd, Nat.reduceLT, Nat.reduceLeDiff, reduceIte]
  exact ⟨t_, t_, rfl, t_, ⟨0, rfl, by omega, by omega⟩, by first | trivial | rfl⟩
 rintro ⟨k, r⟩ e mm ⟨g3, g11, g13, hd, ⟨c, g12, hc1, hc2⟩, rfl⟩
 dsimp only at g13 hd hc1 hc2
 have hlen := hB.len
 cases r with
 | nil =>
  have h3 := drop_nil hd
  simp only [go_sem, Nat.reduceEqDiff, Nat.reduceAdd, Nat.reduceLT, Nat.reduceLeDiff, reduceIte, g3, g11, g12, g13, HVCells, List.getElem?_cons_zero, List.getElem?_cons_succ, Rows_len, dec_ge h3]
  rw [← hc2]; rfl
 | cons row r =>
  obtain ⟨hk, hd2, hlt⟩ := drop_cons hd
  have hrow := hB.row row (List.mem_of_getElem? hk)
  have hcs : cntS zn (row :: r) = cntR zn row + cntS zn r := by unfold cntS; rw [List.map_cons, List.sum_cons]
  rw [hcs] at hc2
  simp only [go_sem, Nat.reduceEqDiff, Nat.reduceAdd, Nat.reduceLT, Nat.reduceLeDiff, reduceIte, g3, g11, g12, g13, HVCells, List.getElem?_cons_zero, List.getElem?_cons_succ, Rows_len, dec_lt hlt]
  refine WL_inv (α := Nat) (fun i e mm => e 3 = I64 (zn : Int) ∧ e 11 = .ptr 1 0 0 ∧ e 13 = I64 k ∧ e 14 = I64 i ∧ i ≤ row.length ∧ (∃ d : Nat, e 12 = I64 (d : Int) ∧ d ≤ c + i ∧ d + scG (fun i => plcR row zn (i : Int)) zn (row.length - i) i i = c + cntR zn row) ∧ mm = ⟨[.live [encH h] 2, .live [encHV S sn] 4], []⟩) (fun i => row.length - i) 0 ?_ ?_
  ·simp only [go_sem, Nat.reduceEqDiff, Nat.reduceAdd, Nat.reduceLT, Nat.reduceLeDiff, reduceIte, g3, g11, g12, g13]
   exact ⟨t_, t_, t_, rfl, Nat.zero_le _, ⟨c, rfl, by omega, by rw [Nat.sub_zero, cntR_full (by omega)]⟩, by first | trivial | rfl⟩
  clear g3 g11 g12 g13 e
  rintro i e mm ⟨g3, g11, g13, g14, hi, ⟨d, g12, hd1, hd3⟩, rfl⟩
  by_cases hir : i < row.length
  case neg =>
   have ei : i = row.length := by omega
   subst ei
   rw [Nat.sub_self, scG, Nat.add_zero] at hd3
   simp only [go_sem, Nat.reduceEqDiff, Nat.reduceAdd, Nat.reduceLT, Nat.reduceLeDiff, reduceIte, g3, g11, g12, g13, g14, HVCells, List.getElem?_cons_zero, List.getElem?_cons_succ, Rows_idx hk, Is_len, dec_ge (Nat.le_refl row.length), wrap_n1 k (by omega)]
   refine Nx_of (k + 1, r) (by simp) ?_
   simp only [go_sem, Nat.reduceEqDiff, Nat.reduceAdd, Nat.reduceLT, Nat.reduceLeDiff, reduceIte, g3, g11]
   exact ⟨t_, t_, t_, hd2, ⟨d, by first | trivial | rfl, by omega, by omega⟩, by first | trivial | rfl⟩
  have hP := IsPlace_ok row (i : Int) zn (by omega) (by omega) (by omega)
  cases hp : plcR row zn (i : Int)
  ·rw [hp] at hP
   have hs := scG_miss (plc := fun i => plcR row zn (i : Int)) (z := zn) (k := row.length - i - 1) (i := i) hp
   rw [show row.length - i - 1 + 1 = row.length - i by omega, show row.length - i - 1 = row.length - (i + 1) by omega] at hs
   rw [hs] at hd3
   simp only [go_sem, Nat.reduceEqDiff, Nat.reduceAdd, Nat.reduceLT, Nat.reduceLeDiff, reduceIte, g3, g11, g12, g13, g14, HVCells, List.getElem?_cons_zero, List.getElem?_cons_succ, Rows_idx hk, Is_len, dec_lt hir, WB43, snIs, hotIs, WVH_eq hP, true_and, wrap_n1 i (by omega)]
   refine Nx_of (i + 1) (by omega) ?_
   simp only [go_sem, Nat.reduceEqDiff, Nat.reduceAdd, Nat.reduceLT, Nat.reduceLeDiff, reduceIte, g3, g11, g12, g13]
   exact ⟨t_, t_, t_, t_, by omega, ⟨d, by first | trivial | rfl, by omega, hd3⟩, by first | trivial | rfl⟩
  ·rw [hp] at hP
   have hfit := plcR_fit (show 1 ≤ zn by omega) hp
   have hs := scG_hit (plc := fun i => plcR row zn (i : Int)) (z := zn) (k := row.length - i) (i := i) (by omega) hp (by omega)
   rw [show row.length - i - zn = row.length - (i + zn) by omega] at hs
   rw [hs] at hd3
   have w1 : IntKind.i64.wrap ((zn : Int) - 1) = (zn : Int) - 1 := wrap_i64 _ (by omega) (by omega)
   have w2 : IntKind.i64.wrap ((i : Int) + ((zn : Int) - 1)) = ((i + zn - 1 : Nat) : Int) := by rw [wrap_i64 _ (by omega) (by omega)]; omega
   have w3 := wrap_n1 (i + zn - 1) (by omega)
   rw [show i + zn - 1 + 1 = i + zn by omega] at w3
   simp only [go_sem, Nat.reduceEqDiff, Nat.reduceAdd, Nat.reduceLT, Nat.reduceLeDiff, reduceIte, g3, g11, g12, g13, g14, HVCells, List.getElem?_cons_zero, List.getElem?_cons_succ, Rows_idx hk, Is_len, dec_lt hir, WB43, snIs, hotIs, WVH_eq hP, true_and, wrap_n1 d (by omega), w1, w2, w3]
   refine Nx_of (i + zn) (by omega) ?_
   simp only [go_sem, Nat.reduceEqDiff, Nat.reduceAdd, Nat.reduceLT, Nat.reduceLeDiff, reduceIte, g3, g11, g13]
   exact ⟨t_, t_, t_, t_, by omega, ⟨d + 1, by first | trivial | rfl, by omega, by omega⟩, by first | trivial | rfl⟩
theorem copiedL_ok (h : Hl) (l : List Cl) (hl : h.rows.length ≤ 1000) (hl2 : l.length ≤ 1000) : RV ft 7 [encH h, encCs l] (.tup [encH h, encCs l]) := by
 refine RV_of ft7 rfl ?_
 simp only [c7, r7]
 obtain ⟨w, tk', ha⟩ := app_ints [.live [encH h] 2, .live [.agg [.sl [] .tight, I64 0]] 2] [] h.rows hl
 have hw : ∀ v, writeCells (encH h) 0 [v] = some (.agg [v, I64 h.hold]) := fun _ => rfl
 have hp : ∀ (a b c : Nat) (es : List AV) (tk : Tk), apart (.ptr a b c) (.sl es tk) = true := fun _ _ _ _ _ => rfl
 simp only [go_sem, Nat.reduceEqDiff, Nat.reduceAdd, Nat.reduceLT, Nat.reduceLeDiff, reduceIte, ha, hw, hp, encCs]
 refine AppV.copy (T := 57) (ys := l.map encC) (hdC l) (by rw [List.length_map]; unfold limit; omega) fun v' toks' hv' _ _ => ?_
 obtain ⟨t, rfl⟩ := hv'.sl
 simp only [go_sem, Nat.reduceEqDiff, Nat.reduceAdd, Nat.reduceLT, Nat.reduceLeDiff, reduceIte, hp]
 have e1 : ∀ M : Mem, (iL h.rows).map (Ab.snap M 9) = h.rows.map I64 := fun M => by unfold iL; rw [List.map_map]; rfl
 have e2 : ∀ M : Mem, (l.map encC).map (Ab.snap M 10) = l.map encC := fun M => by rw [List.map_map]; rfl
 rw [e1, e2]; rfl
theorem SeatsFree_run (h : Hl) (l : List Cl) (x : Ak) : RV ft 4 [encH h, encCs l, encA x] (.bool true) := by
 refine RV_of ft4 rfl ?_
 simp only [c4, r4]
 have hF := Far_ok h l
 cases hf : (decide ((h.rows.length : Int) > 30) || decide ((l.length : Int) > 60))
 case true =>
  rw [hf] at hF
  simp only [go_sem, Nat.reduceEqDiff, Nat.reduceAdd, Nat.reduceLT, Nat.reduceLeDiff, reduceIte, gA0, List.getElem?_cons_zero, HEta, HCells, ACells, WB5, snH, hotH, snCs, hotCs, WVH_eq hF, true_and, WB6, WVH_eq works_ok]
 rw [hf] at hF
 rw [Bool.or_eq_false_iff, decide_eq_false_iff_not, decide_eq_false_iff_not] at hf
 have hr : h.rows.length ≤ 30 := by omega
 have hl : l.length ≤ 60 := by omega
 have hC := copiedL_ok h l (by omega) (by omega)
 have h1 := Best_ok h l x.min x.siz
 have h2 := BestR_ok h l x.min x.siz (by omega)
 have h3 := Largest_ok h l x.min
 have h4 := LargestR_ok h l x.min (by omega)
 have h5 := Groups_ok h l x.min x.siz
 have h6 := GroupsR_ok h l x.min x.siz (by omega)
 have hw : ∀ v, writeCells (.agg [.sl [] .tight, I64 0]) 0 [encIs v, I64 h.hold] = some (encH ⟨v, h.hold⟩) := fun _ => rfl
 have hw' : writeCells (.agg [.sl [] .tight, I64 0]) 0 [encIs h.rows, I64 h.hold] = some (encH h) := rfl
 have hIs : (encIs h.rows).solid = true := rfl
 have hAl : (encA x).cells.length = 3 := rfl
 have hAs : (encA x).cells.all AV.solid = true := rfl
 simp only [go_sem, Nat.reduceEqDiff, Nat.reduceAdd, Nat.reduceLT, Nat.reduceLeDiff, reduceIte, gA0, sA0, List.getElem?_cons_zero, List.getElem?_cons_succ, List.set_cons_zero, List.set_cons_succ, HEta, HCells, ACells, hAl, hAs, WB5, snH, hotH, snCs, hotCs, WVH_eq hF, true_and, WB7, WVH_eq hC, hw', hIs, WB19, WVH_eq h1, WB20, WVH_eq h2, WB21, WVH_eq h3, WB22, WVH_eq h4, WB23, WVH_eq h5, WB24, WVH_eq h6, beq_self_eq_true, WB6, WVH_eq works_ok]
end Go.Ab.T
end
