/-
  A part of the proofs over this seat.
  (The texts KlK8 KlK9, one behind the other.)
-/
import Derived.Test.YtcebfhalhcnnnaaP3
set_option linter.unusedSimpArgs false
set_option linter.unusedVariables false
set_option linter.unusedSectionVars false
section
namespace Go.Ab.T
set_option maxRecDepth 8000
set_option maxHeartbeats 4000000
theorem ManyR_ok (l : Lm) (hl : l.gs.length < 1073741824) : RV ft 16 [encL l] (.tup [I64 (if okL l = true then ((truM l).length : Int) else 0), I64 (if okL l = true then 0 else 90)]) := by
  refine RV_of ft16 rfl ?_
  simp only [c16, r16]
  have hC := CheckR_ok l hl
  cases ho : okL l
  · rw [ho] at hC
    simp only [go_sem, Nat.reduceEqDiff, Nat.reduceAdd, Nat.reduceLT, Nat.reduceLeDiff, reduceIte, WB22, WVH_eq hC, true_and, Bool.false_eq_true, if_false, show ((90 : Int) != 0) = true from rfl]
  have hv := okL_iff.1 ho
  rw [ho] at hC
  simp only [go_sem, Nat.reduceEqDiff, Nat.reduceAdd, Nat.reduceLT, Nat.reduceLeDiff, reduceIte, WB22, WVH_eq hC, WB44, WVH_eq (truthsR_ok hv), true_and, show ((0 : Int) != 0) = false from rfl, if_true]
/-- The least of some numbers and one. -/
def mnF (num : Ln → Int) : Int → List Ln → Int
  | n, [] => n
  | n, x :: r => mnF num (min n (num x)) r
def fwR (l : Lm) : Int := if okL l = true then mnF (fun x => (wrN l.gs x : Int)) l.gs.length (linM l) else 0
theorem FewestR_ok (l : Lm) (hl : l.gs.length < 1073741824) : RV ft 18 [encL l] (.tup [I64 (fwR l), I64 (oeM l)]) := by
  refine RV_of ft18 rfl ?_
  simp only [c18, r18]
  have hC := CheckR_ok l hl
  unfold fwR oeM
  cases ho : okL l
  · rw [ho] at hC
    simp only [go_sem, Nat.reduceEqDiff, Nat.reduceAdd, Nat.reduceLT, Nat.reduceLeDiff, reduceIte, WB22, WVH_eq hC, true_and, Bool.false_eq_true, if_false, show ((90 : Int) != 0) = true from rfl]
  have hv := okL_iff.1 ho
  have hll := linM_len hv
  rw [ho] at hC
  simp only [go_sem, Nat.reduceEqDiff, Nat.reduceAdd, Nat.reduceLT, Nat.reduceLeDiff, reduceIte, WB22, WVH_eq hC, WB48, WVH_eq (all_ok hv), true_and, show ((0 : Int) != 0) = false from rfl, if_true, LCells]
  refine WL_inv (α := Nat × List Ln × Int) (fun q e mm => e 1 = .ptr 0 0 0 ∧ e 4 = I64 q.2.2 ∧ e 5 = encNs (linM l) ∧ e 6 = I64 q.1 ∧ (linM l).drop q.1 = q.2.1 ∧ mnF (fun x => (wrN l.gs x : Int)) q.2.2 q.2.1 = mnF (fun x => (wrN l.gs x : Int)) l.gs.length (linM l) ∧ ∃ bl, mm = ⟨.live [encL l] 9 :: bl, []⟩) (fun q => q.2.1.length) (0, linM l, l.gs.length) ?_ ?_
  · simp only [go_sem, Nat.reduceEqDiff, Nat.reduceAdd, Nat.reduceLT, Nat.reduceLeDiff, reduceIte]
    ((repeat' apply And.intro) <;> first | trivial | rfl | exact ⟨_, rfl⟩ | omega | assumption)
  rintro ⟨k, r, n⟩ e m ⟨g1, g4, g5, g6, hd, hq, bl, rfl⟩
  dsimp only at g4 g6 hd hq
  cases r with
  | nil =>
    have h3 := drop_nil hd
    simp only [go_sem, Nat.reduceEqDiff, Nat.reduceAdd, Nat.reduceLT, Nat.reduceLeDiff, reduceIte, g1, g4, g5, g6, dec_ge h3]
    rw [← hq]; rfl
  | cons y r =>
    obtain ⟨hk, hd2, hlt⟩ := drop_cons hd
    have hyN := linM_NV hv (List.mem_of_getElem? hk)
    simp only [go_sem, Nat.reduceEqDiff, Nat.reduceAdd, Nat.reduceLT, Nat.reduceLeDiff, reduceIte, g1, g4, g5, g6, dec_lt hlt, Ns_idx hk, NCells, NEta, WB37, WVH_eq (Wrong_ok hv.gv hyN), true_and, wrL_len, wrap_n1 k (by omega)]
    refine Nx_of (k + 1, r, min n (wrN l.gs y : Int)) (by simp) ?_
    simp only [go_sem, Nat.reduceEqDiff, Nat.reduceAdd, Nat.reduceLT, Nat.reduceLeDiff, reduceIte, g1, g5]
    exact ⟨trivial, trivial, trivial, trivial, hd2, by rw [← hq]; rfl, _, rfl⟩
theorem blF_any : ∀ (p : Gg → Bool) (gs : List Gg) (j k : Nat) (g : Gg), gs[k]? = some g → (blF p gs j).any (fun x => x == ((j + k : Nat) : Int)) = p g
  | p, [], j, k, g, h => by simp at h
  | p, a :: r, j, 0, g, h => by
    have ha : a = g := by simpa using h
    subst ha
    have hno : ∀ (r : List Gg) (j' : Nat), j < j' → (blF p r j').any (fun x => x == ((j + 0 : Nat) : Int)) = false := by
      intro r
      induction r with
      | nil => intro _ _; rfl
      | cons b r ih =>
        intro j' hj
        unfold blF
        split
        · rw [List.any_cons, ih (j' + 1) (by omega)]
          have : ((j' : Int) == ((j + 0 : Nat) : Int)) = false := by rw [beq_eq_false_iff_ne]; omega
          rw [this]; rfl
        · exact ih (j' + 1) (by omega)
    unfold blF
    cases hp : p a
    · rw [if_neg (by decide)]; exact hno r (j + 1) (by omega)
    · rw [if_pos rfl, List.any_cons]
      simp
  | p, a :: r, j, k + 1, g, h => by
    have hr : r[k]? = some g := by simpa using h
    have ih := blF_any p r (j + 1) k g hr
    rw [show j + 1 + k = j + (k + 1) by omega] at ih
    unfold blF
    split
    · rw [List.any_cons, ih]
      have : ((j : Int) == ((j + (k + 1) : Nat) : Int)) = false := by rw [beq_eq_false_iff_ne]; omega
      rw [this]; rfl
    · exact ih
theorem wrL_any {gs : List Gg} {k : Nat} {g : Gg} (h : gs[k]? = some g) (x : Ln) : (wrL gs x).any (fun y => y == (k : Int)) = !okG x g := by
  have := blF_any (fun g => !okG x g) gs 0 k g h
  rw [Nat.zero_add] at this; exact this
theorem isEmpty_len {α : Type} (l : List α) : ((l.length : Int) == 0) = l.isEmpty := by
  cases l with
  | nil => rfl
  | cons a r =>
    rw [List.isEmpty_cons, beq_eq_false_iff_ne, List.length_cons]; omega
theorem BlameR_ok (l : Lm) (hl : l.gs.length < 1073741824) : RV ft 20 [encL l] (.tup [encIs (bmM l), I64 (beM l)]) := by
  refine RV_of ft20 rfl ?_
  simp only [c20, r20]
  have hC := CheckR_ok l hl
  unfold bmM beM
  cases ho : okL l
  · rw [ho] at hC
    simp only [go_sem, Nat.reduceEqDiff, Nat.reduceAdd, Nat.reduceLT, Nat.reduceLeDiff, reduceIte, WB22, WVH_eq hC, true_and, Bool.false_eq_true, if_false, show ((90 : Int) != 0) = true from rfl]
    rfl
  have hv := okL_iff.1 ho
  have hll := truM_len hv
  rw [ho] at hC
  cases he : (truM l).isEmpty
  case true =>
    simp only [go_sem, Nat.reduceEqDiff, Nat.reduceAdd, Nat.reduceLT, Nat.reduceLeDiff, reduceIte, WB22, WVH_eq hC, WB44, WVH_eq (truthsR_ok hv), true_and, show ((0 : Int) != 0) = false from rfl, if_true, isEmpty_len, he]
    rfl
  have hgl := hv.gl
  simp only [go_sem, Nat.reduceEqDiff, Nat.reduceAdd, Nat.reduceLT, Nat.reduceLeDiff, reduceIte, WB22, WVH_eq hC, WB44, WVH_eq (truthsR_ok hv), true_and, show ((0 : Int) != 0) = false from rfl, if_true, isEmpty_len, he]
  refine WL_inv (α := Nat × List Gg × List Int × AV) (fun q e mm => e 1 = .ptr 0 0 0 ∧ e 4 = encNs (truM l) ∧ e 5 = q.2.2.2 ∧ e 6 = I64 q.1 ∧ l.gs.drop q.1 = q.2.1 ∧ q.2.2.1 ++ blF (blG l) q.2.1 q.1 = blF (blG l) l.gs 0 ∧ ∃ bl tk, mm = ⟨.live [encL l] 9 :: bl, tk⟩ ∧ Acc 3 (q.2.2.1.map I64) q.2.2.2 tk) (fun q => q.2.1.length) (0, l.gs, [], .sl [] .tight) ?_ ?_
  · simp only [go_sem, Nat.reduceEqDiff, Nat.reduceAdd, Nat.reduceLT, Nat.reduceLeDiff, reduceIte]
    exact ⟨trivial, trivial, trivial, rfl, trivial, trivial, _, _, rfl, Acc_nil 3⟩
  rintro ⟨k, r, acc, v⟩ e m ⟨g1, g4, g5, g6, hd, hq, bl, tk, rfl, hA⟩
  dsimp only at g5 g6 hd hq hA
  cases r with
  | nil =>
    have h3 := drop_nil hd
    simp only [go_sem, Nat.reduceEqDiff, Nat.reduceAdd, Nat.reduceLT, Nat.reduceLeDiff, reduceIte, g1, g4, g5, g6, LCells, dec_ge h3]
    rw [show blF (blG l) ([] : List Gg) k = [] from rfl, List.append_nil] at hq
    rw [hA.snap, ← hq]
    show AV.tup [.sl ((acc.map I64).map (snap _ 10)) .unk, _] = _
    rw [List.map_map]; rfl
  | cons x r =>
    obtain ⟨hk, hd2, hlt⟩ := drop_cons hd
    simp only [go_sem, Nat.reduceEqDiff, Nat.reduceAdd, Nat.reduceLT, Nat.reduceLeDiff, reduceIte, g1, g4, g5, g6, LCells, dec_lt hlt]
    refine WL_inv (α := Nat × List Ln × Bool) (fun q e mm => e 1 = .ptr 0 0 0 ∧ e 4 = encNs (truM l) ∧ e 5 = v ∧ e 6 = I64 k ∧ e 7 = .bool q.2.2 ∧ e 8 = I64 q.1 ∧ (truM l).drop q.1 = q.2.1 ∧ (q.2.2 && q.2.1.all (fun y => !okG y x)) = blG l x ∧ ∃ bl, mm = ⟨.live [encL l] 9 :: bl, tk⟩) (fun q => q.2.1.length) (0, truM l, true) ?_ ?_
    · simp only [go_sem, Nat.reduceEqDiff, Nat.reduceAdd, Nat.reduceLT, Nat.reduceLeDiff, reduceIte, g1, g4, g5, g6]
      refine ⟨trivial, trivial, trivial, trivial, trivial, rfl, trivial, ?_, _, rfl⟩
      unfold blG
      rw [Bool.eq_iff_iff]; simp
    clear g1 g4 g5 g6
    rintro ⟨j, s, b⟩ e m ⟨g1, g4, g5, g6, g7, g8, hsd, hsq, bl, rfl⟩
    dsimp only at g7 g8 hsd hsq
    cases s with
    | nil =>
      have h3 := drop_nil hsd
      rw [List.all_nil, Bool.and_true] at hsq
      subst hsq
      cases hb : blG l x
      · rw [hb] at g7
        simp only [go_sem, Nat.reduceEqDiff, Nat.reduceAdd, Nat.reduceLT, Nat.reduceLeDiff, reduceIte, g1, g4, g5, g6, g7, g8, dec_ge h3, wrap_n1 k (by omega)]
        refine Nx_of (k + 1, r, acc, v) (by simp) ?_
        simp only [go_sem, Nat.reduceEqDiff, Nat.reduceAdd, Nat.reduceLT, Nat.reduceLeDiff, reduceIte, g1, g4, g5]
        exact ⟨trivial, trivial, trivial, trivial, hd2, by rw [← hq]; simp [blF, hb], _, _, rfl, hA⟩
      · rw [hb] at g7
        simp only [go_sem, Nat.reduceEqDiff, Nat.reduceAdd, Nat.reduceLT, Nat.reduceLeDiff, reduceIte, g1, g4, g5, g6, g7, g8, dec_ge h3]
        refine hA.app (cellsI acc) rfl (by rw [List.length_map]; have : acc.length ≤ 10 := (by have h1 := blF_len (blG l) l.gs 0; have h2 := List.length_filter_le (blG l) l.gs; rw [← hq, List.length_append] at h1; omega); unfold limit; omega) fun v' tk' hA' => ?_
        simp only [go_sem, Nat.reduceEqDiff, Nat.reduceAdd, Nat.reduceLT, Nat.reduceLeDiff, reduceIte, g1, g4, g6, wrap_n1 k (by omega)]
        refine Nx_of (k + 1, r, acc ++ [(k : Int)], v') (by simp) ?_
        simp only [go_sem, Nat.reduceEqDiff, Nat.reduceAdd, Nat.reduceLT, Nat.reduceLeDiff, reduceIte, g1, g4]
        refine ⟨trivial, trivial, trivial, trivial, hd2, ?_, _, _, rfl, by simpa using hA'⟩
        rw [← hq]; simp [blF, hb]
    | cons y s =>
      obtain ⟨hj, hsd2, hjlt⟩ := drop_cons hsd
      have hyN := linM_NV hv (truM_lin (List.mem_of_getElem? hj))
      rw [List.all_cons] at hsq
      cases b
      · simp only [go_sem, Nat.reduceEqDiff, Nat.reduceAdd, Nat.reduceLT, Nat.reduceLeDiff, reduceIte, g1, g4, g5, g6, g7, g8, dec_lt hjlt, wrap_n1 j (by omega)]
        refine Nx_of (j + 1, s, false) (by simp) ?_
        simp only [go_sem, Nat.reduceEqDiff, Nat.reduceAdd, Nat.reduceLT, Nat.reduceLeDiff, reduceIte, g1, g4, g5, g6]
        exact ⟨trivial, trivial, trivial, trivial, trivial, trivial, hsd2, by rw [← hsq]; rfl, _, rfl⟩
      · have hwl : (wrL l.gs y).length < 1073741824 := by have := wrL_len l.gs y; have := wrN_le l.gs y; omega
        have hH := has_ok (wrL l.gs y) (k : Int) hwl
        rw [wrL_any hk y] at hH
        simp only [go_sem, Nat.reduceEqDiff, Nat.reduceAdd, Nat.reduceLT, Nat.reduceLeDiff, reduceIte, g1, g4, g5, g6, g7, g8, dec_lt hjlt, Ns_idx hj, NCells, NEta, WB37, WVH_eq (Wrong_ok hv.gv hyN), true_and, WB53, WVH_eq hH, wrap_n1 j (by omega)]
        refine Nx_of (j + 1, s, !okG y x) (by simp) ?_
        simp only [go_sem, Nat.reduceEqDiff, Nat.reduceAdd, Nat.reduceLT, Nat.reduceLeDiff, reduceIte, g1, g4, g5, g6]
        exact ⟨trivial, trivial, trivial, trivial, trivial, trivial, hsd2, by rw [← hsq]; simp, _, rfl⟩
theorem known_ok (l : Lm) (h : Int) (hl : l.gs.length < 1073741824) : RV ft 58 [encL l, I64 h] (.tup [encNs (if khM l h = 0 then truM l else []), I64 (khM l h)]) := by
  refine RV_of ft58 rfl ?_
  simp only [c58, r58]
  have hC := CheckR_ok l hl
  unfold khM
  cases ho : okL l
  · rw [ho] at hC
    simp only [go_sem, Nat.reduceEqDiff, Nat.reduceAdd, Nat.reduceLT, Nat.reduceLeDiff, reduceIte, WB22, WVH_eq hC, true_and, Bool.false_eq_true, if_false, show ((90 : Int) != 0) = true from rfl]
    rfl
  have hv := okL_iff.1 ho
  rw [ho] at hC
  have hq : ∀ n, inR n 0 40 = hrR n := fun _ => rfl
  cases hh : hrR h
  · simp only [go_sem, Nat.reduceEqDiff, Nat.reduceAdd, Nat.reduceLT, Nat.reduceLeDiff, reduceIte, WB22, WVH_eq hC, WB55, WVH_eq (within_ok _ _ _), hq, hh, true_and, Bool.false_eq_true, if_false, if_true, show ((0 : Int) != 0) = false from rfl]
    rfl
  cases he : (truM l).isEmpty
  · simp only [go_sem, Nat.reduceEqDiff, Nat.reduceAdd, Nat.reduceLT, Nat.reduceLeDiff, reduceIte, WB22, WVH_eq hC, WB55, WVH_eq (within_ok _ _ _), hq, hh, WB44, WVH_eq (truthsR_ok hv), isEmpty_len, he, true_and, Bool.false_eq_true, if_false, if_true, show ((0 : Int) != 0) = false from rfl]
  · simp only [go_sem, Nat.reduceEqDiff, Nat.reduceAdd, Nat.reduceLT, Nat.reduceLeDiff, reduceIte, WB22, WVH_eq hC, WB55, WVH_eq (within_ok _ _ _), hq, hh, WB44, WVH_eq (truthsR_ok hv), isEmpty_len, he, true_and, Bool.false_eq_true, if_false, if_true, show ((0 : Int) != 0) = false from rfl]
    rfl
/-- The least and the greatest number, from two on. -/
def mmF (num : Ln → Int) : Sp → List Ln → Sp
  | s, [] => s
  | s, x :: r => mmF num ⟨min s.lo (num x), max s.hi (num x)⟩ r
theorem bndF_true (num : Ln → Int) : ∀ (r : List Ln) (s : Sp), bndF num (s, true) r = (mmF num s r, true)
  | [], s => rfl
  | x :: r, s => by
    show bndF num (⟨min s.lo (num x), max s.hi (num x)⟩, true) r = _
    rw [bndF_true num r]; rfl
theorem bndM_cons (num : Ln → Int) (x : Ln) (r : List Ln) : bndM num (x :: r) = (mmF num ⟨num x, num x⟩ (x :: r), true) := by
  show bndF num (⟨min (num x) (num x), max (num x) (num x)⟩, true) r = _
  rw [bndF_true]; rfl
theorem AtR_ok (l : Lm) (h : Int) (hl : l.gs.length < 1073741824) : RV ft 25 [encL l, I64 h] (.tup [encS (atM l h), I64 (khM l h)]) := by
  refine RV_of ft25 rfl ?_
  simp only [c25, r25]
  have hK := known_ok l h hl
  unfold atM
  by_cases h0 : khM l h = 0
  · obtain ⟨hv, ⟨h1, h2⟩, h3⟩ := khM_0.1 h0
    have hll := truM_len hv
    rw [h0] at hK ⊢
    rw [if_pos rfl] at hK ⊢
    cases ht : truM l with
    | nil => exact absurd ht h3
    | cons x0 r0 =>
    have hx0 : (truM l)[0]? = some x0 := by rw [ht]; rfl
    have hN0 := linM_NV hv (truM_lin (List.mem_of_getElem? hx0))
    rw [bndM_cons, ← ht]
    have hx0' : ∀ m, idxAt m (encNs (truM l)) (I64 0) 2 = some (.pv (encN x0) 0) := fun m => Ns_idx hx0 m
    simp only [go_sem, Nat.reduceEqDiff, Nat.reduceAdd, Nat.reduceLT, Nat.reduceLeDiff, reduceIte, WB58, WVH_eq hK, true_and, show ((0 : Int) != 0) = false from rfl, hx0', NCells, NEta, WB35, WVH_eq (Light_ok hN0 h1 (show h ≤ 80 by omega)), show AV.agg [I64 (lit x0 h), I64 (lit x0 h)] = encS ⟨lit x0 h, lit x0 h⟩ from rfl, SCells]
    refine WL_inv (α := Nat × List Ln × Sp) (fun q e mm => e 1 = I64 h ∧ e 4 = .ptr 1 0 0 ∧ e 6 = encNs (truM l) ∧ e 8 = .ptr 2 0 0 ∧ e 9 = I64 q.1 ∧ (truM l).drop q.1 = q.2.1 ∧ mmF (fun x => lit x h) q.2.2 q.2.1 = mmF (fun x => lit x h) ⟨lit x0 h, lit x0 h⟩ (truM l) ∧ ∃ bl, mm = ⟨.live [encL l] 9 :: .live [.agg [I64 0, I64 0]] 2 :: .live [encS q.2.2] 2 :: bl, []⟩) (fun q => q.2.1.length) (0, truM l, ⟨lit x0 h, lit x0 h⟩) ?_ ?_
    · simp only [go_sem, Nat.reduceEqDiff, Nat.reduceAdd, Nat.reduceLT, Nat.reduceLeDiff, reduceIte]
      ((repeat' apply And.intro) <;> first | trivial | rfl | exact ⟨_, rfl⟩ | omega | assumption)
    rintro ⟨k, r, s⟩ e m ⟨g1, g4, g6, g8, g9, hd, hq, bl, rfl⟩
    dsimp only at g9 hd hq
    cases r with
    | nil =>
      have h3 := drop_nil hd
      simp only [go_sem, Nat.reduceEqDiff, Nat.reduceAdd, Nat.reduceLT, Nat.reduceLeDiff, reduceIte, g1, g4, g6, g8, g9, dec_ge h3, SCells, show ((2 : Nat) != 1) = true from rfl]
      rw [← hq]; rfl
    | cons y r =>
      obtain ⟨hk, hd2, hlt⟩ := drop_cons hd
      have hyN := linM_NV hv (truM_lin (List.mem_of_getElem? hk))
      simp only [go_sem, Nat.reduceEqDiff, Nat.reduceAdd, Nat.reduceLT, Nat.reduceLeDiff, reduceIte, g1, g4, g6, g8, g9, dec_lt hlt, Ns_idx hk, NCells, NEta, WB35, WVH_eq (Light_ok hyN h1 (show h ≤ 80 by omega)), true_and, SCells, wrap_n1 k (by omega)]
      refine Nx_of (k + 1, r, ⟨min s.lo (lit y h), max s.hi (lit y h)⟩) (by simp) ?_
      simp only [go_sem, Nat.reduceEqDiff, Nat.reduceAdd, Nat.reduceLT, Nat.reduceLeDiff, reduceIte, g1, g4, g6, g8]
      exact ⟨trivial, trivial, trivial, trivial, trivial, hd2, by rw [← hq]; rfl, _, rfl⟩
  · have hne : (khM l h != 0) = true := by simpa using h0
    simp only [go_sem, Nat.reduceEqDiff, Nat.reduceAdd, Nat.reduceLT, Nat.reduceLeDiff, reduceIte, WB58, WVH_eq hK, true_and, hne, if_neg h0]
    rfl
end Go.Ab.T
end

section
namespace Go.Ab.T
set_option maxRecDepth 8000
set_option maxHeartbeats 4000000
/-- The norm is kept in a line from one hour to another one. -/
def kpR (l : Lm) (a b : Int) (x : Ln) : Bool := (rgI a b).all fun h => inS l.no (lit x h)
theorem Kept_ok (l : Lm) {x : Ln} (hx : NV x) {a b : Int} (h0 : 0 ≤ a) (h1 : b ≤ 80) : RV ft 36 [encL l, encN x, I64 a, I64 b] (.bool (kpR l a b x)) := by
  refine RV_of ft36 rfl ?_
  simp only [c36, r36]
  simp only [go_sem, Nat.reduceEqDiff, Nat.reduceAdd, Nat.reduceLT, Nat.reduceLeDiff, reduceIte, NCells, NEta]
  refine WL_inv (α := Nat × Int) (fun q e mm => e 3 = I64 b ∧ e 4 = .ptr 0 0 0 ∧ e 5 = .ptr 1 0 0 ∧ e 9 = I64 q.2 ∧ q.1 = (b + 1 - q.2).toNat ∧ 0 ≤ q.2 ∧ kpR l q.2 b x = kpR l a b x ∧ ∃ bl, mm = ⟨.live [encL l] 9 :: .live [encN x] 2 :: bl, []⟩) (fun q => q.1) ((b + 1 - a).toNat, a) ?_ ?_
  · simp only [go_sem, Nat.reduceEqDiff, Nat.reduceAdd, Nat.reduceLT, Nat.reduceLeDiff, reduceIte]
    exact ⟨trivial, trivial, trivial, trivial, trivial, h0, trivial, _, rfl⟩
  rintro ⟨n, h⟩ e m ⟨g3, g4, g5, g9, hn, k0, hq, bl, rfl⟩
  dsimp only at g9 hn k0 hq
  cases hb : decide (h ≤ b)
  · simp only [go_sem, Nat.reduceEqDiff, Nat.reduceAdd, Nat.reduceLT, Nat.reduceLeDiff, reduceIte, g3, g4, g5, g9, hb]
    rw [← hq]; unfold kpR; rw [rgI_nil (by have := of_decide_eq_false hb; omega)]; rfl
  have hb' := of_decide_eq_true hb
  have hL := Light_ok hx k0 (show h ≤ 80 by omega)
  unfold kpR at hq
  rw [rgI_cons hb', List.all_cons] at hq
  have hin : inR (lit x h) l.no.lo l.no.hi = inS l.no (lit x h) := rfl
  cases hi : inS l.no (lit x h)
  · rw [hi] at hq
    simp only [go_sem, Nat.reduceEqDiff, Nat.reduceAdd, Nat.reduceLT, Nat.reduceLeDiff, reduceIte, g3, g4, g5, g9, hb, NCells, NEta, LCells, WB35, WVH_eq hL, WB55, WVH_eq (within_ok _ _ _), true_and, hin, hi]
    unfold kpR; rw [← hq]; rfl
  · rw [hi] at hq
    simp only [go_sem, Nat.reduceEqDiff, Nat.reduceAdd, Nat.reduceLT, Nat.reduceLeDiff, reduceIte, g3, g4, g5, g9, hb, NCells, NEta, LCells, WB35, WVH_eq hL, WB55, WVH_eq (within_ok _ _ _), true_and, hin, hi, wrap_i1 h (by omega) (by omega)]
    refine Nx_of (n - 1, h + 1) (by show n - 1 < n; omega) ?_
    simp only [go_sem, Nat.reduceEqDiff, Nat.reduceAdd, Nat.reduceLT, Nat.reduceLeDiff, reduceIte, g3, g4, g5]
    exact ⟨trivial, trivial, trivial, trivial, by omega, by omega, by unfold kpR; rw [← hq]; rfl, _, rfl⟩
def kcN (l : Lm) (a b : Int) (xs : List Ln) : Nat := (xs.filter (kpR l a b)).length
theorem kcN_le (l : Lm) (a b : Int) (xs : List Ln) : kcN l a b xs ≤ xs.length := List.length_filter_le _ _
theorem kcN_cons (l : Lm) (a b : Int) (x : Ln) (xs : List Ln) : kcN l a b (x :: xs) = (if kpR l a b x = true then 1 else 0) + kcN l a b xs := by
  unfold kcN; rw [List.filter_cons]; split <;> simp; omega
theorem kept_ok (l : Lm) (xs : List Ln) (hl : xs.length < 1073741824) (hx : ∀ x ∈ xs, NV x) {a b : Int} (h0 : 0 ≤ a) (h1 : b ≤ 80) : RV ft 61 [encL l, encNs xs, I64 a, I64 b] (I64 (kcN l a b xs : Nat)) := by
  refine RV_of ft61 rfl ?_
  simp only [c61, r61]
  simp only [go_sem, Nat.reduceEqDiff, Nat.reduceAdd, Nat.reduceLT, Nat.reduceLeDiff, reduceIte]
  refine WL_inv (α := Nat × List Ln × Nat) (fun q e mm => e 1 = encNs xs ∧ e 2 = I64 a ∧ e 3 = I64 b ∧ e 4 = .ptr 0 0 0 ∧ e 9 = I64 (q.2.2 : Int) ∧ e 10 = I64 q.1 ∧ xs.drop q.1 = q.2.1 ∧ q.2.2 + kcN l a b q.2.1 = kcN l a b xs ∧ ∃ bl, mm = ⟨.live [encL l] 9 :: bl, []⟩) (fun q => q.2.1.length) (0, xs, 0) ?_ ?_
  · simp only [go_sem, Nat.reduceEqDiff, Nat.reduceAdd, Nat.reduceLT, Nat.reduceLeDiff, reduceIte]
    exact ⟨trivial, trivial, trivial, trivial, rfl, rfl, trivial, Nat.zero_add _, _, rfl⟩
  rintro ⟨k, r, n⟩ e m ⟨g1, g2, g3, g4, g9, g10, hd, hq, bl, rfl⟩
  dsimp only at g9 g10 hd hq
  cases r with
  | nil =>
    have h3 := drop_nil hd
    simp only [go_sem, Nat.reduceEqDiff, Nat.reduceAdd, Nat.reduceLT, Nat.reduceLeDiff, reduceIte, g1, g2, g3, g4, g9, g10, dec_ge h3]
    rw [← hq]; rfl
  | cons y r =>
    obtain ⟨hk, hd2, hlt⟩ := drop_cons hd
    have hK := Kept_ok l (hx y (List.mem_of_getElem? hk)) h0 h1
    have hle := kcN_le l a b xs
    rw [kcN_cons] at hq
    cases hy : kpR l a b y
    · rw [hy] at hK hq
      simp only [go_sem, Nat.reduceEqDiff, Nat.reduceAdd, Nat.reduceLT, Nat.reduceLeDiff, reduceIte, g1, g2, g3, g4, g9, g10, dec_lt hlt, Ns_idx hk, NCells, NEta, WB36, WVH_eq hK, true_and, wrap_n1 k (by omega)]
      refine Nx_of (k + 1, r, n) (by simp) ?_
      simp only [go_sem, Nat.reduceEqDiff, Nat.reduceAdd, Nat.reduceLT, Nat.reduceLeDiff, reduceIte, g1, g2, g3, g4, g9]
      exact ⟨trivial, trivial, trivial, trivial, trivial, trivial, hd2, by rw [← hq, if_neg (by decide)]; omega, _, rfl⟩
    · rw [hy] at hK hq
      simp only [go_sem, Nat.reduceEqDiff, Nat.reduceAdd, Nat.reduceLT, Nat.reduceLeDiff, reduceIte, g1, g2, g3, g4, g9, g10, dec_lt hlt, Ns_idx hk, NCells, NEta, WB36, WVH_eq hK, true_and, wrap_n1 k (by omega), wrap_n1 n (by omega)]
      refine Nx_of (k + 1, r, n + 1) (by simp) ?_
      simp only [go_sem, Nat.reduceEqDiff, Nat.reduceAdd, Nat.reduceLT, Nat.reduceLeDiff, reduceIte, g1, g2, g3, g4]
      exact ⟨trivial, trivial, trivial, trivial, trivial, trivial, hd2, by rw [← hq, if_pos rfl]; omega, _, rfl⟩
theorem rgI_one (h : Int) : rgI h h = [h] := by rw [rgI_cons (Int.le_refl h), rgI_nil (by omega)]
theorem kpR_one (l : Lm) (h : Int) (x : Ln) : kpR l h h x = inS l.no (lit x h) := by
  unfold kpR; rw [rgI_one]; simp
theorem kcN_all (l : Lm) (a b : Int) (xs : List Ln) : decide (kcN l a b xs = xs.length) = xs.all (kpR l a b) := by
  unfold kcN
  rw [Bool.eq_iff_iff, decide_eq_true_eq, List.length_filter_eq_length_iff, List.all_eq_true]
theorem kcN_any (l : Lm) (a b : Int) (xs : List Ln) : decide (0 < kcN l a b xs) = xs.any (kpR l a b) := by
  unfold kcN
  rw [Bool.eq_iff_iff, decide_eq_true_eq, List.length_pos_iff, List.any_eq_true]
  constructor
  · intro h
    obtain ⟨x, hx⟩ := List.exists_mem_of_ne_nil _ h
    exact ⟨x, (List.mem_filter.1 hx).1, (List.mem_filter.1 hx).2⟩
  · rintro ⟨x, h1, h2⟩ h3
    have : x ∈ xs.filter (kpR l a b) := List.mem_filter.2 ⟨h1, h2⟩
    rw [h3] at this; cases this
theorem eqN (a b : Nat) : ((a : Int) == (b : Int)) = decide (a = b) := by
  rw [Bool.eq_iff_iff, beq_iff_eq, decide_eq_true_eq]; omega
theorem KeepsR_ok (l : Lm) (h : Int) (hl : l.gs.length < 1073741824) : RV ft 27 [encL l, I64 h] (.tup [I64 (kpM l h), I64 (khM l h)]) := by
  refine RV_of ft27 rfl ?_
  simp only [c27, r27]
  have hK := known_ok l h hl
  unfold kpM
  by_cases h0 : khM l h = 0
  · obtain ⟨hv, ⟨h1, h2⟩, h3⟩ := khM_0.1 h0
    have hll := truM_len hv
    rw [h0, if_pos rfl] at hK
    rw [h0, if_pos rfl]
    have hkp := kept_ok l (truM l) (by omega) (fun x hx => linM_NV hv (truM_lin hx)) h1 (show h ≤ 80 by omega)
    have e1 : ((kcN l h h (truM l) : Int) == ((truM l).length : Int)) = (truM l).all (fun x => inS l.no (lit x h)) := by
      rw [eqN, kcN_all]; congr 1; funext x; exact kpR_one l h x
    have e2 : ((kcN l h h (truM l) : Int) == 0) = !(truM l).any (fun x => inS l.no (lit x h)) := by
      have h5 := kcN_any l h h (truM l)
      rw [show (kpR l h h) = (fun x => inS l.no (lit x h)) from funext fun x => kpR_one l h x] at h5
      rw [← h5, Bool.eq_iff_iff, beq_iff_eq, Bool.not_eq_true', decide_eq_false_iff_not]; omega
    cases ha : (truM l).all (fun x => inS l.no (lit x h))
    · rw [ha] at e1
      cases hn : (truM l).any (fun x => inS l.no (lit x h))
      · rw [hn] at e2
        simp only [go_sem, Nat.reduceEqDiff, Nat.reduceAdd, Nat.reduceLT, Nat.reduceLeDiff, reduceIte, WB58, WVH_eq hK, true_and, show ((0 : Int) != 0) = false from rfl, WB61, WVH_eq hkp, e1, e2, Bool.false_eq_true, if_false]
      · rw [hn] at e2
        simp only [go_sem, Nat.reduceEqDiff, Nat.reduceAdd, Nat.reduceLT, Nat.reduceLeDiff, reduceIte, WB58, WVH_eq hK, true_and, show ((0 : Int) != 0) = false from rfl, WB61, WVH_eq hkp, e1, e2, Bool.false_eq_true, if_false, if_true]
    · rw [ha] at e1
      simp only [go_sem, Nat.reduceEqDiff, Nat.reduceAdd, Nat.reduceLT, Nat.reduceLeDiff, reduceIte, WB58, WVH_eq hK, true_and, show ((0 : Int) != 0) = false from rfl, WB61, WVH_eq hkp, e1, if_true]
  · have hne : (khM l h != 0) = true := by simpa using h0
    simp only [go_sem, Nat.reduceEqDiff, Nat.reduceAdd, Nat.reduceLT, Nat.reduceLeDiff, reduceIte, WB58, WVH_eq hK, true_and, hne, if_neg h0]
/-- The reference's search, hour by hour. -/
def uF (l : Lm) (xs : List Ln) (a : Int) : Nat → Int → Int → Int → Sp
  | 0, _, s, m => ⟨s, m⟩
  | n + 1, h, s, m => uF l xs a n (h + 1) (if xs.all (kpR l a h) = true then h else s) (if xs.any (kpR l a h) = true then h else m)
def unR (l : Lm) (h : Int) : Sp := if khM l h = 0 then uF l (truM l) h (l.ra + 1 - h).toNat h (-1) (-1) else ⟨0, 0⟩
theorem UntilR_ok (l : Lm) (h : Int) (hl : l.gs.length < 1073741824) : RV ft 29 [encL l, I64 h] (.tup [I64 (unR l h).lo, I64 (unR l h).hi, I64 (khM l h)]) := by
  refine RV_of ft29 rfl ?_
  simp only [c29, r29]
  have hK := known_ok l h hl
  unfold unR
  by_cases h0 : khM l h = 0
  · obtain ⟨hv, ⟨h1, h2⟩, h3⟩ := khM_0.1 h0
    have hll := truM_len hv
    have hr1 := hv.r1
    rw [h0, if_pos rfl] at hK
    rw [h0, if_pos rfl]
    have hkp : ∀ k : Int, k ≤ 80 → RV ft 61 [encL l, encNs (truM l), I64 h, I64 k] (I64 (kcN l h k (truM l) : Nat)) := fun k hk => kept_ok l (truM l) (by omega) (fun x hx => linM_NV hv (truM_lin hx)) h1 hk
    simp only [go_sem, Nat.reduceEqDiff, Nat.reduceAdd, Nat.reduceLT, Nat.reduceLeDiff, reduceIte, WB58, WVH_eq hK, true_and, show ((0 : Int) != 0) = false from rfl]
    refine WL_inv (α := Nat × Int × Int × Int) (fun q e mm => e 1 = I64 h ∧ e 2 = .ptr 0 0 0 ∧ e 4 = I64 q.2.2.1 ∧ e 5 = I64 q.2.2.2 ∧ e 7 = encNs (truM l) ∧ e 8 = I64 q.2.1 ∧ q.1 = (l.ra + 1 - q.2.1).toNat ∧ 0 ≤ q.2.1 ∧ uF l (truM l) h q.1 q.2.1 q.2.2.1 q.2.2.2 = uF l (truM l) h (l.ra + 1 - h).toNat h (-1) (-1) ∧ ∃ bl, mm = ⟨.live [encL l] 9 :: bl, []⟩) (fun q => q.1) ((l.ra + 1 - h).toNat, h, -1, -1) ?_ ?_
    · simp only [go_sem, Nat.reduceEqDiff, Nat.reduceAdd, Nat.reduceLT, Nat.reduceLeDiff, reduceIte]
      exact ⟨trivial, trivial, trivial, trivial, trivial, trivial, trivial, h1, trivial, _, rfl⟩
    rintro ⟨n, k, s, t⟩ e m ⟨g1, g2, g4, g5, g7, g8, hn, k0, hq, bl, rfl⟩
    dsimp only at g4 g5 g8 hn k0 hq
    cases hb : decide (k ≤ l.ra)
    · simp only [go_sem, Nat.reduceEqDiff, Nat.reduceAdd, Nat.reduceLT, Nat.reduceLeDiff, reduceIte, g1, g2, g4, g5, g7, g8, LCells, hb]
      have : n = 0 := by have := of_decide_eq_false hb; omega
      subst this
      rw [← hq]; rfl
    have hb' := of_decide_eq_true hb
    obtain ⟨n', rfl⟩ : ∃ n', n = n' + 1 := ⟨n - 1, by omega⟩
    have hkk := hkp k (by omega)
    have e1 : ((kcN l h k (truM l) : Int) == ((truM l).length : Int)) = (truM l).all (kpR l h k) := by rw [eqN, kcN_all]
    have e2 : decide (0 < (kcN l h k (truM l) : Int)) = (truM l).any (kpR l h k) := by
      rw [← kcN_any, Bool.eq_iff_iff, decide_eq_true_eq, decide_eq_true_eq]; omega
    have w := wrap_i1 k (by omega) (by omega)
    rw [uF] at hq
    cases c1 : (truM l).all (kpR l h k) <;> cases c2 : (truM l).any (kpR l h k)
    · rw [c1] at e1 hq; rw [c2] at e2 hq
      simp only [go_sem, Nat.reduceEqDiff, Nat.reduceAdd, Nat.reduceLT, Nat.reduceLeDiff, reduceIte, g1, g2, g4, g5, g7, g8, LCells, hb, WB61, WVH_eq hkk, true_and, e1, e2, w]
      refine Nx_of (n', k + 1, s, t) (by simp) ?_
      simp only [go_sem, Nat.reduceEqDiff, Nat.reduceAdd, Nat.reduceLT, Nat.reduceLeDiff, reduceIte, g1, g2, g4, g5, g7]
      exact ⟨trivial, trivial, trivial, trivial, trivial, trivial, by omega, by omega, by rw [← hq]; rfl, _, rfl⟩
    · rw [c1] at e1 hq; rw [c2] at e2 hq
      simp only [go_sem, Nat.reduceEqDiff, Nat.reduceAdd, Nat.reduceLT, Nat.reduceLeDiff, reduceIte, g1, g2, g4, g5, g7, g8, LCells, hb, WB61, WVH_eq hkk, true_and, e1, e2, w]
      refine Nx_of (n', k + 1, s, k) (by simp) ?_
      simp only [go_sem, Nat.reduceEqDiff, Nat.reduceAdd, Nat.reduceLT, Nat.reduceLeDiff, reduceIte, g1, g2, g4, g5, g7]
      exact ⟨trivial, trivial, trivial, trivial, trivial, trivial, by omega, by omega, by rw [← hq]; rfl, _, rfl⟩
    · rw [c1] at e1 hq; rw [c2] at e2 hq
      simp only [go_sem, Nat.reduceEqDiff, Nat.reduceAdd, Nat.reduceLT, Nat.reduceLeDiff, reduceIte, g1, g2, g4, g5, g7, g8, LCells, hb, WB61, WVH_eq hkk, true_and, e1, e2, w]
      refine Nx_of (n', k + 1, k, t) (by simp) ?_
      simp only [go_sem, Nat.reduceEqDiff, Nat.reduceAdd, Nat.reduceLT, Nat.reduceLeDiff, reduceIte, g1, g2, g4, g5, g7]
      exact ⟨trivial, trivial, trivial, trivial, trivial, trivial, by omega, by omega, by rw [← hq]; rfl, _, rfl⟩
    · rw [c1] at e1 hq; rw [c2] at e2 hq
      simp only [go_sem, Nat.reduceEqDiff, Nat.reduceAdd, Nat.reduceLT, Nat.reduceLeDiff, reduceIte, g1, g2, g4, g5, g7, g8, LCells, hb, WB61, WVH_eq hkk, true_and, e1, e2, w]
      refine Nx_of (n', k + 1, k, k) (by simp) ?_
      simp only [go_sem, Nat.reduceEqDiff, Nat.reduceAdd, Nat.reduceLT, Nat.reduceLeDiff, reduceIte, g1, g2, g4, g5, g7]
      exact ⟨trivial, trivial, trivial, trivial, trivial, trivial, by omega, by omega, by rw [← hq]; rfl, _, rfl⟩
  · have hne : (khM l h != 0) = true := by simpa using h0
    simp only [go_sem, Nat.reduceEqDiff, Nat.reduceAdd, Nat.reduceLT, Nat.reduceLeDiff, reduceIte, WB58, WVH_eq hK, true_and, hne, if_neg h0]
end Go.Ab.T
end
