/-
  A part of the proofs over this seat.
  (The texts KlK6 KlK7, one behind the other.)
-/
import Derived.Test.YtcebfhalhcnnnaaP2
set_option linter.unusedSimpArgs false
set_option linter.unusedVariables false
set_option linter.unusedSectionVars false
section
namespace Go.Ab.T
set_option maxRecDepth 8000
set_option maxHeartbeats 4000000
/-- The first error of a question about an hour. -/
def khM (l : Lm) (h : Int) : Int := if okL l = true then (if hrR h = true then (if (truM l).isEmpty = true then 3 else 0) else 1) else 90
theorem checkHour_ok (l : Lm) (h : Int) (hl : l.gs.length < 1073741824) : RV ft 56 [encL l, I64 h] (I64 (khM l h)) := by
  refine RV_of ft56 rfl ?_
  simp only [c56, r56]
  have hV := validLamp_ok l hl
  unfold khM
  cases ho : okL l
  · rw [ho] at hV
    simp only [go_sem, Nat.reduceEqDiff, Nat.reduceAdd, Nat.reduceLT, Nat.reduceLeDiff, reduceIte, WB49, WVH_eq hV, true_and, Bool.false_eq_true, if_false]
  have hv := okL_iff.1 ho
  rw [ho] at hV
  cases hh : hrR h
  · simp only [go_sem, Nat.reduceEqDiff, Nat.reduceAdd, Nat.reduceLT, Nat.reduceLeDiff, reduceIte, WB49, WVH_eq hV, WB63, WVH_eq (isHour_ok h), hh, true_and, Bool.false_eq_true, if_false]
  have hT := hasTruth_ok hv
  cases he : (truM l).isEmpty
  · rw [he] at hT
    simp only [go_sem, Nat.reduceEqDiff, Nat.reduceAdd, Nat.reduceLT, Nat.reduceLeDiff, reduceIte, WB49, WVH_eq hV, WB63, WVH_eq (isHour_ok h), hh, WB50, WVH_eq hT, true_and, Bool.false_eq_true, if_false]
  · rw [he] at hT
    simp only [go_sem, Nat.reduceEqDiff, Nat.reduceAdd, Nat.reduceLT, Nat.reduceLeDiff, reduceIte, WB49, WVH_eq hV, WB63, WVH_eq (isHour_ok h), hh, WB50, WVH_eq hT, true_and, Bool.false_eq_true, if_false]
theorem khM_0 {l : Lm} {h : Int} : khM l h = 0 ↔ LV l ∧ (0 ≤ h ∧ h ≤ 40) ∧ truM l ≠ [] := by
  unfold khM
  rw [← okL_iff, ← inR_iff]
  show _ ↔ okL l = true ∧ hrR h = true ∧ _
  cases okL l <;> cases hrR h <;> cases he : (truM l).isEmpty <;> simp_all
def atM (l : Lm) (h : Int) : Sp := if khM l h = 0 then (bndM (fun x => lit x h) (truM l)).1 else ⟨0, 0⟩
theorem At_ok (l : Lm) (h : Int) (hl : l.gs.length < 1073741824) : RV ft 24 [encL l, I64 h] (.tup [encS (atM l h), I64 (khM l h)]) := by
  refine RV_of ft24 rfl ?_
  simp only [c24, r24]
  have hC := checkHour_ok l h hl
  unfold atM
  by_cases h0 : khM l h = 0
  · obtain ⟨hv, ⟨h1, h2⟩, h3⟩ := khM_0.1 h0
    rw [h0] at hC ⊢
    have hB := bounds_ok (truths_sq hv) (cA h) (fun x => lit x h) rfl rfl rfl (fun x hx st K => cA_app (linM_NV hv (truM_lin hx)) h1 (by omega) st K)
    rw [show AV.fn 70 [] [.pv (encL l) 0, .pv (cW l.gs) 0] = cT l from rfl] at hB
    simp only [go_sem, Nat.reduceEqDiff, Nat.reduceAdd, Nat.reduceLT, Nat.reduceLeDiff, reduceIte, WB56, WVH_eq hC, WB43, WVH_eq (truths_ok l), WB57, WVH_eq (lightAt_ok h), WB45, show ((0 : Int) != 0) = false from rfl, WVH_eq hB, true_and, SCells, show ((2 : Nat) != 1) = true from rfl, if_true]
  · have hne : (khM l h != 0) = true := by simpa using h0
    simp only [go_sem, Nat.reduceEqDiff, Nat.reduceAdd, Nat.reduceLT, Nat.reduceLeDiff, reduceIte, WB56, WVH_eq hC, true_and, hne, if_neg h0]
    rfl
def kpM (l : Lm) (h : Int) : Int := if khM l h = 0 then (if (truM l).all (fun x => inS l.no (lit x h)) = true then 1 else if (truM l).any (fun x => inS l.no (lit x h)) = true then 3 else 2) else 0
theorem Keeps_ok (l : Lm) (h : Int) (hl : l.gs.length < 1073741824) : RV ft 26 [encL l, I64 h] (.tup [I64 (kpM l h), I64 (khM l h)]) := by
  refine RV_of ft26 rfl ?_
  simp only [c26, r26]
  have hC := checkHour_ok l h hl
  unfold kpM
  by_cases h0 : khM l h = 0
  · obtain ⟨hv, ⟨h1, h2⟩, h3⟩ := khM_0.1 h0
    rw [h0] at hC ⊢
    have hf : ∀ x ∈ truM l, ∀ (st : St) (K : AV → St → Prop), @WAH ft (cI l.no h) [encN x] st ⟨K⟩ = K (.bool (inS l.no (lit x h))) st := fun x hx st K => cI_app (linM_NV hv (truM_lin hx)) l.no h1 (by omega) st K
    have hS := surely_ok hv (cI l.no h) (fun x => inS l.no (lit x h)) rfl rfl rfl (fun _ _ => rfl) (fun _ => rfl) hf
    have hN := can_ok hv (cI l.no h) (fun x => inS l.no (lit x h)) rfl rfl rfl hf
    cases ha : (truM l).all (fun x => inS l.no (lit x h))
    · rw [ha] at hS
      cases hn : (truM l).any (fun x => inS l.no (lit x h))
      · rw [hn] at hN
        simp only [go_sem, Nat.reduceEqDiff, Nat.reduceAdd, Nat.reduceLT, Nat.reduceLeDiff, reduceIte, WB56, WVH_eq hC, WB59, WVH_eq (isWithinAt_ok _ _), WB60, WVH_eq hS, WB51, WVH_eq hN, true_and, show ((0 : Int) != 0) = false from rfl, LCells, SEta, Bool.false_eq_true, if_false]
      · rw [hn] at hN
        simp only [go_sem, Nat.reduceEqDiff, Nat.reduceAdd, Nat.reduceLT, Nat.reduceLeDiff, reduceIte, WB56, WVH_eq hC, WB59, WVH_eq (isWithinAt_ok _ _), WB60, WVH_eq hS, WB51, WVH_eq hN, true_and, show ((0 : Int) != 0) = false from rfl, LCells, SEta, Bool.false_eq_true, if_false]
    · rw [ha] at hS
      simp only [go_sem, Nat.reduceEqDiff, Nat.reduceAdd, Nat.reduceLT, Nat.reduceLeDiff, reduceIte, WB56, WVH_eq hC, WB59, WVH_eq (isWithinAt_ok _ _), WB60, WVH_eq hS, true_and, show ((0 : Int) != 0) = false from rfl, LCells, SEta]
  · have hne : (khM l h != 0) = true := by simpa using h0
    simp only [go_sem, Nat.reduceEqDiff, Nat.reduceAdd, Nat.reduceLT, Nat.reduceLeDiff, reduceIte, WB56, WVH_eq hC, true_and, hne, if_neg h0]
def unM (l : Lm) (h : Int) : Sp := if khM l h = 0 then (bndM (lastK l h) (truM l)).1 else ⟨0, 0⟩
theorem resOf_ttt (s : St) (a b c : Nat) : resOf s [.t a, .t b, .t c] = some (.tup [s.env a, s.env b, s.env c]) := by
  simp only [resOf, resAll, resOne, Option.map_some]; rfl
attribute [go_sem] resOf_ttt
theorem Until_ok (l : Lm) (h : Int) (hl : l.gs.length < 1073741824) : RV ft 28 [encL l, I64 h] (.tup [I64 (unM l h).lo, I64 (unM l h).hi, I64 (khM l h)]) := by
  refine RV_of ft28 rfl ?_
  simp only [c28, r28]
  have hC := checkHour_ok l h hl
  unfold unM
  by_cases h0 : khM l h = 0
  · obtain ⟨hv, ⟨h1, h2⟩, h3⟩ := khM_0.1 h0
    rw [h0] at hC ⊢
    have hB := bounds_ok (truths_sq hv) (cK l h) (lastK l h) rfl rfl rfl (fun x hx st K => cK_app hv.r1 (linM_NV hv (truM_lin hx)) h1 (by omega) st K)
    rw [show AV.fn 70 [] [.pv (encL l) 0, .pv (cW l.gs) 0] = cT l from rfl] at hB
    simp only [go_sem, Nat.reduceEqDiff, Nat.reduceAdd, Nat.reduceLT, Nat.reduceLeDiff, reduceIte, WB56, WVH_eq hC, WB43, WVH_eq (truths_ok l), WB62, WVH_eq (lastKept_ok l h), WB45, show ((0 : Int) != 0) = false from rfl, WVH_eq hB, true_and, SCells, if_true]
  · have hne : (khM l h != 0) = true := by simpa using h0
    simp only [go_sem, Nat.reduceEqDiff, Nat.reduceAdd, Nat.reduceLT, Nat.reduceLeDiff, reduceIte, WB56, WVH_eq hC, true_and, hne, if_neg h0]
def fwM (l : Lm) : Int := if okL l = true then (bndM (fun x => (wrN l.gs x : Int)) (linM l)).1.lo else 0
def oeM (l : Lm) : Int := if okL l = true then 0 else 90
theorem Fewest_ok (l : Lm) (hl : l.gs.length < 1073741824) : RV ft 17 [encL l] (.tup [I64 (fwM l), I64 (oeM l)]) := by
  refine RV_of ft17 rfl ?_
  simp only [c17, r17]
  have hC := Check_ok l hl
  unfold fwM oeM
  cases ho : okL l
  · rw [ho] at hC
    simp only [go_sem, Nat.reduceEqDiff, Nat.reduceAdd, Nat.reduceLT, Nat.reduceLeDiff, reduceIte, WB21, WVH_eq hC, true_and, show ((90 : Int) != 0) = true from rfl, Bool.false_eq_true, if_false]
  have hv := okL_iff.1 ho
  rw [ho] at hC
  have hB := bounds_ok (lines_sq hv) (cW l.gs) (fun x => (wrN l.gs x : Int)) rfl rfl rfl (fun x hx st K => cW_app (linM_NV hv hx) l.gs hl (fun g hg => ⟨(hv.gg g hg).1, by have := (hv.gg g hg).2.1; omega⟩) st K)
  rw [show AV.fn 71 [] [.pv (encL l) 0] = cL l from rfl] at hB
  simp only [go_sem, Nat.reduceEqDiff, Nat.reduceAdd, Nat.reduceLT, Nat.reduceLeDiff, reduceIte, WB21, WVH_eq hC, WB46, WVH_eq (lines_ok l), WB47, WVH_eq (wrongs_ok l.gs), WB45, show ((0 : Int) != 0) = false from rfl, WVH_eq hB, true_and, SCells, if_true]
/-- The numbers of those of which something is so. -/
def blF {α : Type} (p : α → Bool) : List α → Nat → List Int
  | [], _ => []
  | g :: r, k => if p g = true then (k : Int) :: blF p r (k + 1) else blF p r (k + 1)
theorem blF_len {α : Type} (p : α → Bool) : ∀ (l : List α) (k : Nat), (blF p l k).length = (l.filter p).length
  | [], _ => rfl
  | g :: r, k => by
    unfold blF
    rw [List.filter_cons]
    cases p g <;> simp [blF_len p r (k + 1)]
def blG (l : Lm) (g : Gg) : Bool := !(truM l).any (fun x => okG x g)
def bmM (l : Lm) : List Int := if okL l = true then (if (truM l).isEmpty = true then [] else blF (blG l) l.gs 0) else []
def beM (l : Lm) : Int := if okL l = true then (if (truM l).isEmpty = true then 3 else 0) else 90
theorem Blame_ok (l : Lm) (hl : l.gs.length < 1073741824) : RV ft 19 [encL l] (.tup [encIs (bmM l), I64 (beM l)]) := by
  refine RV_of ft19 rfl ?_
  simp only [c19, r19]
  have hV := validLamp_ok l hl
  unfold bmM beM
  cases ho : okL l
  · rw [ho] at hV
    simp only [go_sem, Nat.reduceEqDiff, Nat.reduceAdd, Nat.reduceLT, Nat.reduceLeDiff, reduceIte, WB49, WVH_eq hV, true_and, Bool.false_eq_true, if_false]
    rfl
  have hv := okL_iff.1 ho
  rw [ho] at hV
  have hT := hasTruth_ok hv
  cases he : (truM l).isEmpty
  case true =>
    rw [he] at hT
    simp only [go_sem, Nat.reduceEqDiff, Nat.reduceAdd, Nat.reduceLT, Nat.reduceLeDiff, reduceIte, WB49, WVH_eq hV, WB50, WVH_eq hT, true_and, if_true]
    rfl
  rw [he] at hT
  have hgl := hv.gl
  simp only [go_sem, Nat.reduceEqDiff, Nat.reduceAdd, Nat.reduceLT, Nat.reduceLeDiff, reduceIte, WB49, WVH_eq hV, WB50, WVH_eq hT, true_and, LCells]
  refine WL_inv (α := Nat × List Gg × List Int × AV) (fun q e mm => e 1 = .ptr 0 0 0 ∧ e 4 = q.2.2.2 ∧ e 16 = encGs l.gs ∧ e 17 = I64 l.gs.length ∧ e 18 = I64 q.1 ∧ l.gs.drop q.1 = q.2.1 ∧ q.2.2.1 ++ blF (blG l) q.2.1 q.1 = blF (blG l) l.gs 0 ∧ ∃ bl tk, mm = ⟨.live [encL l] 9 :: bl, tk⟩ ∧ Acc 3 (q.2.2.1.map I64) q.2.2.2 tk) (fun q => q.2.1.length) (0, l.gs, [], .sl [] .tight) ?_ ?_
  · simp only [go_sem, Nat.reduceEqDiff, Nat.reduceAdd, Nat.reduceLT, Nat.reduceLeDiff, reduceIte]
    exact ⟨trivial, trivial, trivial, trivial, rfl, trivial, trivial, _, _, rfl, Acc_nil 3⟩
  rintro ⟨k, r, acc, v⟩ e m ⟨g1, g4, g16, g17, g18, hd, hq, bl, tk, rfl, hA⟩
  dsimp only at g4 g18 hd hq hA
  cases r with
  | nil =>
    have h3 := drop_nil hd
    simp only [go_sem, Nat.reduceEqDiff, Nat.reduceAdd, Nat.reduceLT, Nat.reduceLeDiff, reduceIte, g1, g4, g16, g17, g18, dec_ge h3]
    rw [show blF (blG l) ([] : List Gg) k = [] from rfl, List.append_nil] at hq
    rw [hA.snap, ← hq]
    show AV.tup [.sl ((acc.map I64).map (snap _ 10)) .unk, _] = _
    rw [List.map_map]; rfl
  | cons x r =>
    obtain ⟨hk, hd2, hlt⟩ := drop_cons hd
    have hx := hv.gg x (List.mem_of_getElem? hk)
    have hN := can_ok hv (cI ⟨x.lo, x.hi⟩ x.hr) (fun y => okG y x) rfl rfl rfl (fun y hy st K => cI_app (linM_NV hv (truM_lin hy)) ⟨x.lo, x.hi⟩ hx.1 (by omega) st K)
    cases hn : (truM l).any (fun y => okG y x)
    · rw [hn] at hN
      have hb : blG l x = true := by unfold blG; rw [hn]; rfl
      simp only [go_sem, Nat.reduceEqDiff, Nat.reduceAdd, Nat.reduceLT, Nat.reduceLeDiff, reduceIte, g1, g4, g16, g17, g18, dec_lt hlt, Gs_idx hk, GEta, get_last, set_last, WB52, WVH_eq (isRight_ok _), WB51, WVH_eq hN, true_and]
      refine hA.app (cellsI acc) rfl (by rw [List.length_map]; have : acc.length ≤ 10 := (by have h1 := blF_len (blG l) l.gs 0; have h2 := List.length_filter_le (blG l) l.gs; rw [← hq, List.length_append] at h1; omega); unfold limit; omega) fun v' tk' hA' => ?_
      simp only [go_sem, Nat.reduceEqDiff, Nat.reduceAdd, Nat.reduceLT, Nat.reduceLeDiff, reduceIte, g1, g16, g17, g18, wrap_n1 k (by omega)]
      refine Nx_of (k + 1, r, acc ++ [(k : Int)], v') (by simp) ?_
      simp only [go_sem, Nat.reduceEqDiff, Nat.reduceAdd, Nat.reduceLT, Nat.reduceLeDiff, reduceIte, g1, g16, g17]
      refine ⟨trivial, trivial, trivial, trivial, trivial, hd2, ?_, _, _, rfl, by simpa using hA'⟩
      rw [← hq]; simp [blF, hb]
    · rw [hn] at hN
      have hb : blG l x = false := by unfold blG; rw [hn]; rfl
      simp only [go_sem, Nat.reduceEqDiff, Nat.reduceAdd, Nat.reduceLT, Nat.reduceLeDiff, reduceIte, g1, g4, g16, g17, g18, dec_lt hlt, Gs_idx hk, GEta, get_last, set_last, WB52, WVH_eq (isRight_ok _), WB51, WVH_eq hN, true_and, wrap_n1 k (by omega)]
      refine Nx_of (k + 1, r, acc, v) (by simp) ?_
      simp only [go_sem, Nat.reduceEqDiff, Nat.reduceAdd, Nat.reduceLT, Nat.reduceLeDiff, reduceIte, g1, g4, g16, g17]
      exact ⟨trivial, trivial, trivial, trivial, trivial, hd2, by rw [← hq]; simp [blF, hb], _, _, rfl, hA⟩
end Go.Ab.T
end

section
namespace Go.Ab.T
set_option maxRecDepth 8000
set_option maxHeartbeats 4000000
theorem linM_len {l : Lm} (hv : LV l) : (linM l).length ≤ 4010 := by
  have h3 : ∀ as : List Int, (as.flatMap (linF l.fd)).length ≤ as.length * 10 := fun as => by
    induction as with
    | nil => simp
    | cons a as ih =>
      rw [List.flatMap_cons, List.length_append, List.length_cons]
      have : (linF l.fd a).length ≤ 10 := by
        unfold linF rgI
        rw [List.length_map, upF_len]
        have := hv.d0; have := hv.d2; omega
      omega
  have h4 := h3 (rgI l.fu.lo l.fu.hi)
  have h5 : (rgI l.fu.lo l.fu.hi).length ≤ 401 := by
    unfold rgI; rw [upF_len]; have := hv.u0; have := hv.u2; omega
  show ((rgI l.fu.lo l.fu.hi).flatMap (linF l.fd)).length ≤ _
  omega
theorem truM_len {l : Lm} (hv : LV l) : (truM l).length ≤ 4010 := Nat.le_trans (List.length_filter_le _ _) (linM_len hv)
/-- The gauges that are wrong. -/
def wrL (gs : List Gg) (x : Ln) : List Int := blF (fun g => !okG x g) gs 0
theorem wrL_len (gs : List Gg) (x : Ln) : (wrL gs x).length = wrN gs x := blF_len _ _ _
/-- A lamp whose gauges are not out of all bounds. -/
structure GV (l : Lm) : Prop where
  gl : l.gs.length ≤ 1000
  gg : ∀ g ∈ l.gs, 0 ≤ g.hr ∧ g.hr ≤ 80
theorem LV.gv {l : Lm} (h : LV l) : GV l := ⟨by have := h.gl; omega, fun g hg => ⟨(h.gg g hg).1, by have := (h.gg g hg).2.1; omega⟩⟩
theorem Wrong_ok {l : Lm} (hv : GV l) {x : Ln} (hx : NV x) : RV ft 37 [encL l, encN x] (encIs (wrL l.gs x)) := by
  refine RV_of ft37 rfl ?_
  simp only [c37, r37]
  have hgl := hv.gl
  simp only [go_sem, Nat.reduceEqDiff, Nat.reduceAdd, Nat.reduceLT, Nat.reduceLeDiff, reduceIte, NCells, NEta]
  refine WL_inv (α := Nat × List Gg × List Int × AV) (fun q e mm => e 2 = .ptr 0 0 0 ∧ e 3 = .ptr 1 0 0 ∧ e 5 = q.2.2.2 ∧ e 6 = I64 q.1 ∧ l.gs.drop q.1 = q.2.1 ∧ q.2.2.1 ++ blF (fun g => !okG x g) q.2.1 q.1 = wrL l.gs x ∧ ∃ bl tk, mm = ⟨.live [encL l] 9 :: .live [encN x] 2 :: bl, tk⟩ ∧ Acc 3 (q.2.2.1.map I64) q.2.2.2 tk) (fun q => q.2.1.length) (0, l.gs, [], .sl [] .tight) ?_ ?_
  · simp only [go_sem, Nat.reduceEqDiff, Nat.reduceAdd, Nat.reduceLT, Nat.reduceLeDiff, reduceIte]
    exact ⟨trivial, trivial, trivial, rfl, trivial, rfl, _, _, rfl, Acc_nil 3⟩
  rintro ⟨k, r, acc, v⟩ e m ⟨g2, g3, g5, g6, hd, hq, bl, tk, rfl, hA⟩
  dsimp only at g5 g6 hd hq hA
  cases r with
  | nil =>
    have h3 := drop_nil hd
    simp only [go_sem, Nat.reduceEqDiff, Nat.reduceAdd, Nat.reduceLT, Nat.reduceLeDiff, reduceIte, g2, g3, g5, g6, dec_ge h3, LCells]
    rw [show blF (fun g => !okG x g) ([] : List Gg) k = [] from rfl, List.append_nil] at hq
    rw [hA.snap, ← hq]
    show AV.sl ((acc.map I64).map (snap _ 11)) .unk = _
    rw [List.map_map]; rfl
  | cons y r =>
    obtain ⟨hk, hd2, hlt⟩ := drop_cons hd
    have hy := hv.gg y (List.mem_of_getElem? hk)
    have hL := Light_ok hx hy.1 hy.2
    cases ho : okG x y
    · have ho' : inR (lit x y.hr) y.lo y.hi = false := ho
      simp only [go_sem, Nat.reduceEqDiff, Nat.reduceAdd, Nat.reduceLT, Nat.reduceLeDiff, reduceIte, g2, g3, g5, g6, dec_lt hlt, LCells, Gs_idx hk, GCells, NEta, WB35, WVH_eq hL, WB55, WVH_eq (within_ok _ _ _), true_and, ho']
      refine hA.app (cellsI acc) rfl (by rw [List.length_map]; have : acc.length ≤ l.gs.length := (by have h1 := wrL_len l.gs x; have h2 := wrN_le l.gs x; rw [← hq, List.length_append] at h1; omega); unfold limit; omega) fun v' tk' hA' => ?_
      simp only [go_sem, Nat.reduceEqDiff, Nat.reduceAdd, Nat.reduceLT, Nat.reduceLeDiff, reduceIte, g2, g3, g6, wrap_n1 k (by omega)]
      refine Nx_of (k + 1, r, acc ++ [(k : Int)], v') (by simp) ?_
      simp only [go_sem, Nat.reduceEqDiff, Nat.reduceAdd, Nat.reduceLT, Nat.reduceLeDiff, reduceIte, g2, g3]
      refine ⟨trivial, trivial, trivial, trivial, hd2, ?_, _, _, rfl, by simpa using hA'⟩
      rw [← hq]; simp [blF, ho]
    · have ho' : inR (lit x y.hr) y.lo y.hi = true := ho
      simp only [go_sem, Nat.reduceEqDiff, Nat.reduceAdd, Nat.reduceLT, Nat.reduceLeDiff, reduceIte, g2, g3, g5, g6, dec_lt hlt, LCells, Gs_idx hk, GCells, NEta, WB35, WVH_eq hL, WB55, WVH_eq (within_ok _ _ _), true_and, ho', wrap_n1 k (by omega)]
      refine Nx_of (k + 1, r, acc, v) (by simp) ?_
      simp only [go_sem, Nat.reduceEqDiff, Nat.reduceAdd, Nat.reduceLT, Nat.reduceLeDiff, reduceIte, g2, g3, g5]
      exact ⟨trivial, trivial, trivial, trivial, hd2, by rw [← hq]; simp [blF, ho], _, _, rfl, hA⟩
theorem all_ok {l : Lm} (hv : LV l) : RV ft 48 [encL l] (encNs (linM l)) := by
  refine RV_of ft48 rfl ?_
  simp only [c48, r48]
  have u0 := hv.u0; have u2 := hv.u2; have d0 := hv.d0; have d2 := hv.d2
  have hln := linM_len hv
  simp only [go_sem, Nat.reduceEqDiff, Nat.reduceAdd, Nat.reduceLT, Nat.reduceLeDiff, reduceIte, LCells]
  refine WL_inv (α := Nat × Int × List Ln × AV) (fun q e mm => e 1 = .ptr 0 0 0 ∧ e 3 = q.2.2.2 ∧ e 4 = I64 q.2.1 ∧ q.1 = (l.fu.hi + 1 - q.2.1).toNat ∧ l.fu.lo ≤ q.2.1 ∧ q.2.2.1 ++ (rgI q.2.1 l.fu.hi).flatMap (linF l.fd) = linM l ∧ ∃ bl tk, mm = ⟨.live [encL l] 9 :: bl, tk⟩ ∧ Acc 49 (q.2.2.1.map encN) q.2.2.2 tk) (fun q => q.1) ((l.fu.hi + 1 - l.fu.lo).toNat, l.fu.lo, [], .sl [] .tight) ?_ ?_
  · simp only [go_sem, Nat.reduceEqDiff, Nat.reduceAdd, Nat.reduceLT, Nat.reduceLeDiff, reduceIte]
    exact ⟨trivial, trivial, trivial, trivial, by omega, rfl, _, _, rfl, Acc_nil 49⟩
  rintro ⟨k, a, acc, v⟩ e m ⟨g1, g3, g4, hk, a0, hq, bl, tk, rfl, hA⟩
  dsimp only at g3 g4 hk a0 hq hA
  cases ha : decide (a ≤ l.fu.hi)
  · rw [rgI_nil (by have := of_decide_eq_false ha; omega)] at hq
    simp only [go_sem, Nat.reduceEqDiff, Nat.reduceAdd, Nat.reduceLT, Nat.reduceLeDiff, reduceIte, g1, g3, g4, LCells, ha]
    rw [List.flatMap_nil, List.append_nil] at hq
    rw [hA.snap, ← hq]
    show AV.sl ((acc.map encN).map (snap _ 11)) .unk = _
    rw [List.map_map]; rfl
  have ha' := of_decide_eq_true ha
  rw [rgI_cons ha', List.flatMap_cons] at hq
  simp only [go_sem, Nat.reduceEqDiff, Nat.reduceAdd, Nat.reduceLT, Nat.reduceLeDiff, reduceIte, g1, g3, g4, LCells, ha]
  refine WL_inv (α := Nat × Int × List Ln × AV) (fun q e mm => e 1 = .ptr 0 0 0 ∧ e 3 = q.2.2.2 ∧ e 4 = I64 a ∧ e 5 = I64 q.2.1 ∧ q.1 = (l.fd.hi + 1 - q.2.1).toNat ∧ l.fd.lo ≤ q.2.1 ∧ q.2.2.1 ++ ((rgI q.2.1 l.fd.hi).map (fun b => ⟨a, b⟩) ++ (rgI (a + 1) l.fu.hi).flatMap (linF l.fd)) = linM l ∧ ∃ bl tk, mm = ⟨.live [encL l] 9 :: bl, tk⟩ ∧ Acc 49 (q.2.2.1.map encN) q.2.2.2 tk) (fun q => q.1) ((l.fd.hi + 1 - l.fd.lo).toNat, l.fd.lo, acc, v) ?_ ?_
  · simp only [go_sem, Nat.reduceEqDiff, Nat.reduceAdd, Nat.reduceLT, Nat.reduceLeDiff, reduceIte, g1, g3, g4]
    exact ⟨trivial, trivial, trivial, trivial, trivial, by omega, hq, _, _, rfl, hA⟩
  clear hq hA g1 g3 g4
  rintro ⟨k2, b, acc, v⟩ e m ⟨g1, g3, g4, g5, hk2, b0, hq, bl, tk, rfl, hA⟩
  dsimp only at g3 g5 hk2 b0 hq hA
  cases hb : decide (b ≤ l.fd.hi)
  · rw [rgI_nil (by have := of_decide_eq_false hb; omega)] at hq
    simp only [go_sem, Nat.reduceEqDiff, Nat.reduceAdd, Nat.reduceLT, Nat.reduceLeDiff, reduceIte, g1, g3, g4, g5, LCells, hb, wrap_i1 a (by omega) (by omega)]
    refine Nx_of (k - 1, a + 1, acc, v) (by show k - 1 < k; omega) ?_
    simp only [go_sem, Nat.reduceEqDiff, Nat.reduceAdd, Nat.reduceLT, Nat.reduceLeDiff, reduceIte, g1, g3]
    exact ⟨trivial, trivial, trivial, by omega, by omega, hq, _, _, rfl, hA⟩
  have hb' := of_decide_eq_true hb
  rw [rgI_cons hb', List.map_cons, List.cons_append] at hq
  simp only [go_sem, Nat.reduceEqDiff, Nat.reduceAdd, Nat.reduceLT, Nat.reduceLeDiff, reduceIte, g1, g3, g4, g5, LCells, hb, NEta']
  refine hA.app (cellsN acc) rfl (by rw [List.length_map]; have : acc.length ≤ 4010 := (by rw [← hq, List.length_append] at hln; omega); unfold limit; omega) fun v' tk' hA' => ?_
  simp only [go_sem, Nat.reduceEqDiff, Nat.reduceAdd, Nat.reduceLT, Nat.reduceLeDiff, reduceIte, g1, g3, g4, g5, wrap_i1 b (by omega) (by omega)]
  refine Nx_of (k2 - 1, b + 1, acc ++ [⟨a, b⟩], v') (by show k2 - 1 < k2; omega) ?_
  simp only [go_sem, Nat.reduceEqDiff, Nat.reduceAdd, Nat.reduceLT, Nat.reduceLeDiff, reduceIte, g1, g4]
  exact ⟨trivial, trivial, trivial, trivial, by omega, by omega, by rw [← hq]; simp, _, _, rfl, by simpa using hA'⟩
theorem truthsR_ok {l : Lm} (hv : LV l) : RV ft 44 [encL l] (encNs (truM l)) := by
  refine RV_of ft44 rfl ?_
  simp only [c44, r44]
  have hln := truM_len hv
  have hll := linM_len hv
  simp only [go_sem, Nat.reduceEqDiff, Nat.reduceAdd, Nat.reduceLT, Nat.reduceLeDiff, reduceIte, WB48, WVH_eq (all_ok hv), true_and]
  refine WL_inv (α := Nat × List Ln × List Ln × AV) (fun q e mm => e 1 = .ptr 0 0 0 ∧ e 3 = q.2.2.2 ∧ e 4 = encNs (linM l) ∧ e 5 = I64 q.1 ∧ (linM l).drop q.1 = q.2.1 ∧ q.2.2.1 ++ q.2.1.filter (isT l) = truM l ∧ ∃ bl tk, mm = ⟨.live [encL l] 9 :: bl, tk⟩ ∧ Acc 49 (q.2.2.1.map encN) q.2.2.2 tk) (fun q => q.2.1.length) (0, linM l, [], .sl [] .tight) ?_ ?_
  · simp only [go_sem, Nat.reduceEqDiff, Nat.reduceAdd, Nat.reduceLT, Nat.reduceLeDiff, reduceIte]
    exact ⟨trivial, trivial, trivial, rfl, trivial, rfl, _, _, rfl, Acc_nil 49⟩
  rintro ⟨k, r, acc, v⟩ e m ⟨g1, g3, g4, g5, hd, hq, bl, tk, rfl, hA⟩
  dsimp only at g3 g5 hd hq hA
  cases r with
  | nil =>
    have h3 := drop_nil hd
    simp only [go_sem, Nat.reduceEqDiff, Nat.reduceAdd, Nat.reduceLT, Nat.reduceLeDiff, reduceIte, g1, g3, g4, g5, dec_ge h3]
    rw [List.filter_nil, List.append_nil] at hq
    rw [hA.snap, ← hq]
    show AV.sl ((acc.map encN).map (snap _ 11)) .unk = _
    rw [List.map_map]; rfl
  | cons y r =>
    obtain ⟨hk, hd2, hlt⟩ := drop_cons hd
    have hyN := linM_NV hv (List.mem_of_getElem? hk)
    have hlen : ∀ m, lenAt m (encIs (wrL l.gs y)) = some (I64 (wrN l.gs y : Nat)) := fun m => by rw [Is_len, wrL_len]
    cases ht : isT l y
    · have ht' := ht
      unfold isT at ht'
      simp only [go_sem, Nat.reduceEqDiff, Nat.reduceAdd, Nat.reduceLT, Nat.reduceLeDiff, reduceIte, g1, g3, g4, g5, dec_lt hlt, LCells, Ns_idx hk, NCells, NEta, WB37, WVH_eq (Wrong_ok hv.gv hyN), true_and, wrL_len, ht', wrap_n1 k (by omega)]
      refine Nx_of (k + 1, r, acc, v) (by simp) ?_
      simp only [go_sem, Nat.reduceEqDiff, Nat.reduceAdd, Nat.reduceLT, Nat.reduceLeDiff, reduceIte, g1, g3, g4]
      exact ⟨trivial, trivial, trivial, trivial, hd2, by rw [← hq, List.filter_cons, ht, if_neg (by decide)], _, _, rfl, hA⟩
    · have ht' := ht
      unfold isT at ht'
      simp only [go_sem, Nat.reduceEqDiff, Nat.reduceAdd, Nat.reduceLT, Nat.reduceLeDiff, reduceIte, g1, g3, g4, g5, dec_lt hlt, LCells, Ns_idx hk, NCells, NEta, WB37, WVH_eq (Wrong_ok hv.gv hyN), true_and, wrL_len, ht']
      refine hA.app (cellsN acc) rfl (by rw [List.length_map]; have : acc.length ≤ 4010 := (by rw [← hq, List.length_append] at hln; omega); unfold limit; omega) fun v' tk' hA' => ?_
      simp only [go_sem, Nat.reduceEqDiff, Nat.reduceAdd, Nat.reduceLT, Nat.reduceLeDiff, reduceIte, g1, g3, g4, g5, wrap_n1 k (by omega)]
      refine Nx_of (k + 1, r, acc ++ [y], v') (by simp) ?_
      simp only [go_sem, Nat.reduceEqDiff, Nat.reduceAdd, Nat.reduceLT, Nat.reduceLeDiff, reduceIte, g1, g4]
      exact ⟨trivial, trivial, trivial, trivial, hd2, by rw [← hq, List.filter_cons, ht, if_pos rfl]; simp, _, _, rfl, by simpa using hA'⟩
theorem has_ok (l : List Int) (n : Int) (hl : l.length < 1073741824) : RV ft 53 [encIs l, I64 n] (.bool (l.any fun x => x == n)) := by
  refine RV_of ft53 rfl ?_
  simp only [c53, r53]
  simp only [go_sem, Nat.reduceEqDiff, Nat.reduceAdd, Nat.reduceLT, Nat.reduceLeDiff, reduceIte]
  refine WL_inv (α := Nat × List Int) (fun q e mm => e 0 = encIs l ∧ e 1 = I64 n ∧ e 5 = I64 q.1 ∧ l.drop q.1 = q.2 ∧ q.2.any (fun x => x == n) = l.any fun x => x == n) (fun q => q.2.length) (0, l) ?_ ?_
  · simp only [go_sem, Nat.reduceEqDiff, Nat.reduceAdd, Nat.reduceLT, Nat.reduceLeDiff, reduceIte]
    ((repeat' apply And.intro) <;> first | trivial | rfl | omega | assumption)
  rintro ⟨k, r⟩ e m ⟨g0, g1, g5, hd, hq⟩
  dsimp only at g5 hd hq
  cases r with
  | nil =>
    have h3 := drop_nil hd
    simp only [go_sem, Nat.reduceEqDiff, Nat.reduceAdd, Nat.reduceLT, Nat.reduceLeDiff, reduceIte, g0, g1, g5, dec_ge h3]
    rw [← hq]; rfl
  | cons y r =>
    obtain ⟨hk, hd2, hlt⟩ := drop_cons hd
    rw [List.any_cons] at hq
    cases hy : (y == n)
    · simp only [go_sem, Nat.reduceEqDiff, Nat.reduceAdd, Nat.reduceLT, Nat.reduceLeDiff, reduceIte, g0, g1, g5, dec_lt hlt, Is_idx hk, hy, wrap_n1 k (by omega)]
      refine Nx_of (k + 1, r) (by simp) ?_
      simp only [go_sem, Nat.reduceEqDiff, Nat.reduceAdd, Nat.reduceLT, Nat.reduceLeDiff, reduceIte, g0, g1]
      exact ⟨trivial, trivial, trivial, hd2, by rw [← hq, hy]; rfl⟩
    · simp only [go_sem, Nat.reduceEqDiff, Nat.reduceAdd, Nat.reduceLT, Nat.reduceLeDiff, reduceIte, g0, g1, g5, dec_lt hlt, Is_idx hk, hy]
      rw [← hq, hy]; rfl
end Go.Ab.T
end
