/-
  A part of the proofs over this seat.
  (The texts KcK14 KcK15, one behind the other.)
-/
import Derived.Test.YtaenhjnmmdaokaaP6
set_option linter.unusedSimpArgs false
set_option linter.unusedVariables false
set_option linter.unusedSectionVars false
section
namespace Go.Ab.T
set_option maxRecDepth 8000
set_option maxHeartbeats 4000000
theorem snT (m : Mem) (q : Nat) (l : List Ch) (tk : Tk) : snap m (q + 3) (.sl (l.map encCh) tk) = encChs l := by
  show AV.sl ((l.map encCh).map (snap m (q + 2))) .unk = _
  rw [List.map_map, show snap m (q + 2) ∘ encCh = encCh from funext (fun t => snCh m q t)]; rfl
theorem hotT (q : Nat) (l : List Ch) (tk : Tk) : hot (q + 3) (.sl (l.map encCh) tk) = false := hotChs q l
def okL (P : List Ch → Bool) (v : Ev) (i : Nat) : Bool := P (likV v i).1
def tillsM (P : List Ch → Bool) (v : Ev) : List Int := ((List.range v.cs.length).filter (okL P v)).map fun i : Nat => (i : Int)
def tillR (P : List Ch → Bool) (v : Ev) : List Int := if errT v 0 0 = 0 then tillsM P v else []
theorem tillsWhose_ok {v : Ev} (hS : SE v) {g : FuncId} (P : List Ch → Bool) (hg : ∀ l : List Ch, l.length ≤ 100000000 → RV ft g [encChs l] (.bool (P l))) {fn : AFn} (hfn : ft g = some fn) : RV ft 50 [encE v, .fn g [] []] (.tup [encIs (tillR P v), I64 (errT v 0 0)]) := by
  refine RV_of ft50 rfl ?_
  simp only [c50, r50]
  unfold tillR
  by_cases he : errT v 0 0 = 0
  rotate_left
  · rw [if_neg he]
    have hne : (errT v 0 0 != 0) = true := bne_iff_ne.2 he
    simp only [go_sem, Nat.reduceEqDiff, Nat.reduceAdd, Nat.reduceLT, Nat.reduceLeDiff, reduceIte, WB45, WVH_eq (checkTruth_ok hS 0 0), true_and, hne]
    rfl
  obtain ⟨h, ⟨_, h1⟩, _, _⟩ := errT0 he
  rw [if_pos he]
  have hc := checkTruth_ok hS 0 0
  rw [he] at hc ⊢
  have hn := h.n4
  simp only [go_sem, Nat.reduceEqDiff, Nat.reduceAdd, Nat.reduceLT, Nat.reduceLeDiff, reduceIte, WB45, WVH_eq hc, true_and, show ((0 : Int) != 0) = false from rfl, WB46]
  refine truthsOf_W h fun id junk hid => ?_
  have tC : (tAV (toV v.se) id v.cs.length).cells = [I64 (toV v.se).x, I64 (toV v.se).y, I64 (toV v.se).z, .ref id 0 v.cs.length] := rfl
  have tA : (tAV (toV v.se) id v.cs.length).isAgg = true := rfl
  have tE : AV.agg [I64 (toV v.se).x, I64 (toV v.se).y, I64 (toV v.se).z, .ref id 0 v.cs.length] = tAV (toV v.se) id v.cs.length := rfl
  have tS : (tAV (toV v.se) id v.cs.length).solids = true := rfl
  have hwc : writeCells (.agg [I64 0, I64 0, I64 0, .sl [] .tight]) 0 [I64 (toV v.se).x, I64 (toV v.se).y, I64 (toV v.se).z, .ref id 0 v.cs.length] = some (tAV (toV v.se) id v.cs.length) := rfl
  have hid2 := hid
  obtain ⟨C0, hC0⟩ : ∃ x, x = [Blk.live [encE v] 4] ++ junk := ⟨_, rfl⟩
  rw [← hC0] at hid2
  have hszt : ∀ x : Blk, (C0 ++ [x])[id]? = some (.live (encTL ((tillsOf v).map fun L => (L, .unk))) 1) := fun x => getA hid2 _
  have e0 : Blk.live [encE v] 4 :: junk = C0 := by rw [hC0]; rfl
  simp only [go_sem, Nat.reduceEqDiff, Nat.reduceAdd, Nat.reduceLT, Nat.reduceLeDiff, reduceIte, e0, tC, tA, tE, tS, hwc, hszt]
  obtain ⟨C, hC⟩ : ∃ x, x = C0 ++ [Blk.live [tAV (toV v.se) id v.cs.length] 4] := ⟨_, rfl⟩
  rw [← hC]
  have hCt : C[C0.length]? = some (.live [tAV (toV v.se) id v.cs.length] 4) := by rw [hC]; simp
  have hCi : C[id]? = some (.live (encTL ((tillsOf v).map fun L => (L, .unk))) 1) := by rw [hC]; exact hszt _
  refine WL_inv (α := Nat × List Int × AV × List Blk) (fun q e mm => e 1 = .fn g [] [] ∧ e 7 = .ptr C0.length 0 0 ∧ e 8 = q.2.2.1 ∧ e 21 = I64 v.cs.length ∧ e 22 = I64 q.1 ∧ q.1 ≤ v.cs.length ∧ q.2.1 = ((List.range q.1).filter (okL P v)).map (fun i : Nat => (i : Int)) ∧
    ∃ toks, AppV 3 (q.2.1.map I64) q.2.2.1 toks ∧ mm = ⟨C ++ q.2.2.2, toks⟩) (fun q => v.cs.length - q.1) (0, [], .sl [] .tight, []) ?_ ?_
  · simp only [go_sem, Nat.reduceEqDiff, Nat.reduceAdd, Nat.reduceLT, Nat.reduceLeDiff, reduceIte]
    exact ⟨trivial, trivial, trivial, trivial, rfl, Nat.zero_le _, rfl, [], .inl ⟨rfl, rfl⟩, rfl⟩
  rintro ⟨k, D, A, j⟩ e m ⟨g1, g7, g8, g21, g22, hkl, hD, toks, hA, rfl⟩
  dsimp only at g8 g22 hkl hD hA
  by_cases hk : k < v.cs.length
  rotate_left
  · have : k = v.cs.length := by omega
    subst this
    obtain ⟨tk', rfl⟩ := hA.sl
    simp only [go_sem, Nat.reduceEqDiff, Nat.reduceAdd, Nat.reduceLT, Nat.reduceLeDiff, reduceIte, g1, g7, g8, g21, g22, dec_ge (Nat.le_refl v.cs.length)]
    rw [hD]
    show AV.tup [.sl (((tillsM P v).map I64).map (snap _ 10)) .unk, I64 0] = _
    rw [List.map_map, show snap _ 10 ∘ I64 = I64 from funext fun _ => rfl]
    rfl
  have hDl : D.length ≤ k := by
    rw [hD, List.length_map]
    have := List.length_filter_le (okL P v) (List.range k)
    rw [List.length_range] at this; exact this
  have ft7 : (C ++ j)[C0.length]? = some (.live [tAV (toV v.se) id v.cs.length] 4) := getA hCt _
  simp only [go_sem, Nat.reduceEqDiff, Nat.reduceAdd, Nat.reduceLT, Nat.reduceLeDiff, reduceIte, g1, g7, g8, g21, g22, dec_lt hk, ft7, tC, tA, tE, WB47]
  refine likeV_W h hk (getA hCi _) fun w junk2 toks2 hw hT => ?_
  obtain ⟨tkw, rfl⟩ := hw.sl
  have hA2 := hA.keep (by decide) hT
  have hP := hg (likV v k).1 (likV_len h k)
  have hfil : ((List.range (k + 1)).filter (okL P v)).map (fun i : Nat => (i : Int)) = D ++ (if okL P v k = true then [(k : Int)] else []) := by
    rw [List.range_succ, List.filter_append, List.map_append, ← hD]
    congr 1
    cases hq : okL P v k <;> simp [hq]
  cases hq : okL P v k
  · have hq' : P (likV v k).1 = false := hq
    rw [hq] at hfil
    simp only [go_sem, Nat.reduceEqDiff, Nat.reduceAdd, Nat.reduceLT, Nat.reduceLeDiff, reduceIte, g1, g7, g8, g21, g22, WFH_eq hfn, snT, hotT, WVH_eq hP, true_and, hq', wrap_n1 k (by omega)]
    refine Nx_of (k + 1, D, A, j ++ junk2) (by show _ - (k + 1) < _ - k; omega) ?_
    simp only [go_sem, Nat.reduceEqDiff, Nat.reduceAdd, Nat.reduceLT, Nat.reduceLeDiff, reduceIte, g1, g7, g8, g21]
    exact ⟨trivial, trivial, trivial, trivial, trivial, hk, by first | (rw [hfil]; simp; done) | (rw [← List.range_succ, hfil]; simp), toks2, hA2, by rw [List.append_assoc]⟩
  · have hq' : P (likV v k).1 = true := hq
    rw [hq] at hfil
    simp only [go_sem, Nat.reduceEqDiff, Nat.reduceAdd, Nat.reduceLT, Nat.reduceLeDiff, reduceIte, g1, g7, g8, g21, g22, WFH_eq hfn, snT, hotT, WVH_eq hP, true_and, hq', wrap_n1 k (by omega)]
    refine hA2.app (y := I64 k) (cellsIs D) rfl (by rw [List.length_map]; unfold limit; omega) fun A' toks' hA' _ => ?_
    simp only [go_sem, Nat.reduceEqDiff, Nat.reduceAdd, Nat.reduceLT, Nat.reduceLeDiff, reduceIte, g1, g7, g21, g22, wrap_n1 k (by omega)]
    refine Nx_of (k + 1, D ++ [(k : Int)], A', j ++ junk2) (by show _ - (k + 1) < _ - k; omega) ?_
    simp only [go_sem, Nat.reduceEqDiff, Nat.reduceAdd, Nat.reduceLT, Nat.reduceLeDiff, reduceIte, g1, g7, g21]
    exact ⟨trivial, trivial, trivial, trivial, trivial, hk, by first | (rw [hfil]; simp; done) | (rw [← List.range_succ, hfil]; simp), toks', by rw [List.map_append]; exact hA', by rw [List.append_assoc]⟩
def gP (l : List Ch) : Bool := !(l.any fun x => !decide (0 < x.f))
def sP (l : List Ch) : Bool := l.any fun x => decide (0 < x.f)
theorem guilty1_ok (l : List Ch) (hl : l.length ≤ 100000000) : RV ft 57 [encChs l] (.bool (gP l)) := by
  refine RV_of ft57 rfl ?_
  simp only [c57, r57]
  have hC := ContainsFuncH_ok l (.fn 58 [] []) (fun x => !decide (0 < x.f)) (by omega) (fun _ _ => rfl) (fun _ => rfl) (fun x _ e m K hK => by
    rw [WZH_fn]
    simp only [List.nil_append, List.append_nil]
    simp only [go_sem, Nat.reduceEqDiff, Nat.reduceAdd, Nat.reduceLT, Nat.reduceLeDiff, reduceIte, WFH_eq ft58, WVH_eq (isRight_ok x), true_and]
    exact hK)
  simp only [go_sem, Nat.reduceEqDiff, Nat.reduceAdd, Nat.reduceLT, Nat.reduceLeDiff, reduceIte, WB52, WVH_eq hC, true_and]
  rfl
theorem suspects1_ok (l : List Ch) (hl : l.length ≤ 100000000) : RV ft 51 [encChs l] (.bool (sP l)) := by
  refine RV_of ft51 rfl ?_
  simp only [c51, r51]
  have hC := ContainsFuncH_ok l (.fn 53 [] []) (fun x => decide (0 < x.f)) (by omega) (fun _ _ => rfl) (fun _ => rfl) (fun x _ e m K hK => by
    rw [WZH_fn]
    simp only [List.nil_append, List.append_nil]
    simp only [go_sem, Nat.reduceEqDiff, Nat.reduceAdd, Nat.reduceLT, Nat.reduceLeDiff, reduceIte, WFH_eq ft53, WVH_eq (isWrong_ok x), true_and]
    exact hK)
  simp only [go_sem, Nat.reduceEqDiff, Nat.reduceAdd, Nat.reduceLT, Nat.reduceLeDiff, reduceIte, WB52, WVH_eq hC, true_and]
  rfl
theorem Guilty_ok {v : Ev} (hS : SE v) : RV ft 21 [encE v] (.tup [encIs (tillR gP v), I64 (errT v 0 0)]) := by
  refine RV_of ft21 rfl ?_
  simp only [c21, r21]
  simp only [go_sem, Nat.reduceEqDiff, Nat.reduceAdd, Nat.reduceLT, Nat.reduceLeDiff, reduceIte, WB50, WVH_eq (tillsWhose_ok hS gP guilty1_ok ft57), true_and]
theorem Suspects_ok {v : Ev} (hS : SE v) : RV ft 17 [encE v] (.tup [encIs (tillR sP v), I64 (errT v 0 0)]) := by
  refine RV_of ft17 rfl ?_
  simp only [c17, r17]
  simp only [go_sem, Nat.reduceEqDiff, Nat.reduceAdd, Nat.reduceLT, Nat.reduceLeDiff, reduceIte, WB50, WVH_eq (tillsWhose_ok hS sP suspects1_ok ft51), true_and]
end Go.Ab.T
end

section
namespace Go.Ab.T
set_option maxRecDepth 8000
set_option maxHeartbeats 4000000
def bndF (f : Ch → Int) : List Ch → Int × Int → Int × Int
  | [], s => s
  | c :: r, s => bndF f r (min s.1 (f c), max s.2 (f c))
def bnd (f : Ch → Int) (l : List Ch) : Int × Int := match l with
  | [] => (0, 0)
  | c :: r => bndF f (c :: r) (f c, f c)
def bndR (f : Ch → Int) (v : Ev) (till sh : Int) : Int × Int := if errT v till sh = 0 then bnd f (likV v till.toNat).1 else (0, 0)
theorem hasT_of {v : Ev} (h : EV4 v) (ht : hasTr v = true) : ∃ ts, IsT (toV v.se) v.cs ts := by
  have := beq_iff_eq.1 ht
  exact IsT_ex h.sbd.2 (fun c hc => (h.cs c hc).ro.1) this.symm
theorem likV_ne {v : Ev} (h : EV4 v) (ht : hasTr v = true) {i : Nat} (hi : i < v.cs.length) : (likV v i).1 ≠ [] := by
  unfold likV
  rw [List.getElem?_eq_getElem hi]
  exact (lik_spec (List.getElem?_eq_getElem hi) (hasT_of h ht)).1
theorem boundsOf_ok {v : Ev} (hS : SE v) (till sh : Int) {F : AV} (f : Ch → Int) (hF1 : ∀ (m : Mem) (q : Nat), snap m (q + 10) F = F) (hF2 : ∀ q, hot (q + 10) F = false)
    (hF : errT v till sh = 0 → ∀ x : Ch, ∀ (e : Nat → AV) (m : Mem) (K : AV → St → Prop), K (I64 (f x)) ⟨e, m⟩ → @WZH ft F [encCh x] ⟨e, m⟩ ⟨K⟩) : RV ft 48 [encE v, I64 till, I64 sh, F] (.tup [encS (bndR f v till sh).1 (bndR f v till sh).2, I64 (errT v till sh)]) := by
  refine RV_of ft48 rfl ?_
  simp only [c48, r48]
  unfold bndR
  by_cases he : errT v till sh = 0
  rotate_left
  · rw [if_neg he]
    have hne : (errT v till sh != 0) = true := bne_iff_ne.2 he
    have hfp : fillParts [I64 0, I64 0] [] = some [I64 0, I64 0] := rfl
    have hwr : writeCells (.agg [I64 0, I64 0]) 0 [I64 0, I64 0] = some (.agg [I64 0, I64 0]) := rfl
    simp only [go_sem, Nat.reduceEqDiff, Nat.reduceAdd, Nat.reduceLT, Nat.reduceLeDiff, reduceIte, WB45, WVH_eq (checkTruth_ok hS till sh), true_and, hne, hfp, hwr]
    rfl
  obtain ⟨h, ⟨t0, t1⟩, _, ht⟩ := errT0 he
  rw [if_pos he]
  have hc := checkTruth_ok hS till sh
  replace hF := hF he
  rw [he] at hc ⊢
  obtain ⟨i, rfl⟩ : ∃ i : Nat, till = (i : Int) := ⟨till.toNat, by omega⟩
  have hi : i < v.cs.length := by omega
  rw [Int.toNat_natCast]
  simp only [go_sem, Nat.reduceEqDiff, Nat.reduceAdd, Nat.reduceLT, Nat.reduceLeDiff, reduceIte, WB45, WVH_eq hc, true_and, show ((0 : Int) != 0) = false from rfl, WB46]
  refine truthsOf_W h fun id junk hid => ?_
  simp only [go_sem, Nat.reduceEqDiff, Nat.reduceAdd, Nat.reduceLT, Nat.reduceLeDiff, reduceIte, WB47]
  refine likeV_W h hi hid fun w junk2 toks hw _ => ?_
  obtain ⟨tkw, rfl⟩ := hw.sl
  have e0 : [Blk.live [encE v] 4, Blk.live [AV.agg [I64 0, I64 0]] 2] ++ junk ++ junk2 = Blk.live [encE v] 4 :: Blk.live [encS 0 0] 2 :: (junk ++ junk2) := by simp [encS]
  rw [e0]
  clear e0
  generalize junk ++ junk2 = D
  have hne := likV_ne h ht hi
  have hll := likV_len h i
  generalize (likV v i).1 = l at hne hll
  obtain ⟨x0, r0, rfl⟩ : ∃ x r, l = x :: r := by cases l with | nil => exact absurd rfl hne | cons x r => exact ⟨x, r, rfl⟩
  have hx0 : ∀ m, idxAt m (.sl ((x0 :: r0).map encCh) tkw) (I64 0) 5 = some (.pv (encCh x0) 0) := fun m => Chs_idxT (l := x0 :: r0) (k := 0) rfl m
  have hlen := fun m => Chs_lenT (x0 :: r0) tkw m
  generalize hl : x0 :: r0 = l at hx0 hlen hll
  generalize hv : AV.sl (l.map encCh) tkw = L at hx0 hlen
  simp only [go_sem, Nat.reduceEqDiff, Nat.reduceAdd, Nat.reduceLT, Nat.reduceLeDiff, reduceIte, hx0]
  refine hF x0 _ _ _ ?_
  simp only [go_sem, Nat.reduceEqDiff, Nat.reduceAdd, Nat.reduceLT, Nat.reduceLeDiff, reduceIte, hx0]
  refine hF x0 _ _ _ ?_
  have hfp : fillParts [I64 0, I64 0] [(0, 1, I64 (f x0)), (1, 1, I64 (f x0))] = some [I64 (f x0), I64 (f x0)] := rfl
  have sE : ∀ a b : Int, AV.agg [I64 a, I64 b] = encS a b := fun _ _ => rfl
  have sC : ∀ a b : Int, (encS a b).cells = [I64 a, I64 b] := fun _ _ => rfl
  have sA : ∀ a b : Int, (encS a b).isAgg = true := fun _ _ => rfl
  have sw0 : ∀ a b c : Int, writeCells (encS a b) 0 [I64 c] = some (encS c b) := fun _ _ _ => rfl
  have sw1 : ∀ a b c : Int, writeCells (encS a b) 1 [I64 c] = some (encS a c) := fun _ _ _ => rfl
  have sw2 : ∀ a b c d : Int, writeCells (encS a b) 0 [I64 c, I64 d] = some (encS c d) := fun _ _ _ _ => rfl
  simp only [go_sem, Nat.reduceEqDiff, Nat.reduceAdd, Nat.reduceLT, Nat.reduceLeDiff, reduceIte, hx0, hfp, hlen, sE, sC, sA]
  have hbx : bnd f l = bndF f l (f x0, f x0) := by rw [← hl]; rfl
  rw [hbx]
  have gD : ∀ (X : Blk) (j : List Blk) (y : Blk), (D ++ X :: j ++ [y])[D.length]? = some X := fun X j y => by rw [List.append_assoc]; exact get_midL _ _ _
  have sD : ∀ (X Z : Blk) (j : List Blk) (y : Blk), (D ++ X :: j ++ [y]).set D.length Z = D ++ Z :: j ++ [y] := fun X Z j y => by rw [List.append_assoc, List.cons_append, set_midL, List.append_assoc]; rfl
  refine WL_inv (α := Nat × List Ch × (Int × Int) × List Blk) (fun q e mm => e 3 = F ∧ e 8 = .ptr 1 0 0 ∧ e 13 = .ptr (D.length + 1 + 1) 0 0 ∧ e 42 = L ∧ e 43 = I64 l.length ∧ e 44 = I64 q.1 ∧ l.drop q.1 = q.2.1 ∧ bndF f q.2.1 q.2.2.1 = bndF f l (f x0, f x0) ∧
    mm = ⟨Blk.live [encE v] 4 :: Blk.live [encS 0 0] 2 :: (D ++ Blk.live [encS q.2.2.1.1 q.2.2.1.2] 2 :: q.2.2.2), toks⟩) (fun q => q.2.1.length) (0, l, (f x0, f x0), []) ?_ ?_
  · simp only [go_sem, Nat.reduceEqDiff, Nat.reduceAdd, Nat.reduceLT, Nat.reduceLeDiff, reduceIte]
    ((repeat' apply And.intro) <;> first | trivial | rfl | omega | assumption)
  rintro ⟨k, r, ⟨lo, hi2⟩, j⟩ e m ⟨g3, g8, g13, g42, g43, g44, hd, hq, rfl⟩
  dsimp only at g44 hd hq
  cases r with
  | nil =>
    have h3 := drop_nil hd
    simp only [bndF] at hq
    simp only [go_sem, Nat.reduceEqDiff, Nat.reduceAdd, Nat.reduceLT, Nat.reduceLeDiff, reduceIte, g3, g8, g13, g42, g43, g44, dec_ge h3, get_midL, sC, sA, sE, sw2]
    rw [← hq]
    rfl
  | cons c r =>
    obtain ⟨hk, hd2, hlt⟩ := drop_cons hd
    have hic : ∀ m, idxAt m L (I64 (k : Int)) 5 = some (.pv (encCh c) 0) := fun m => by rw [← hv]; exact Chs_idxT hk m
    simp only [go_sem, Nat.reduceEqDiff, Nat.reduceAdd, Nat.reduceLT, Nat.reduceLeDiff, reduceIte, g3, g8, g13, g42, g43, g44, dec_lt hlt, hic, gD, sC, sA]
    refine hF c _ _ _ ?_
    simp only [go_sem, Nat.reduceEqDiff, Nat.reduceAdd, Nat.reduceLT, Nat.reduceLeDiff, reduceIte, g3, g8, g13, g42, g43, g44, gD, sC, sA]
    refine hF c _ _ _ ?_
    simp only [go_sem, Nat.reduceEqDiff, Nat.reduceAdd, Nat.reduceLT, Nat.reduceLeDiff, reduceIte, g3, g8, g13, g42, g43, g44, gD, sD, sC, sA, sw0, sw1, wrap_n1 k (by omega)]
    refine Nx_of (k + 1, r, (min lo (f c), max hi2 (f c)), j ++ [Blk.live [encCh c] 5]) (by simp) ?_
    simp only [go_sem, Nat.reduceEqDiff, Nat.reduceAdd, Nat.reduceLT, Nat.reduceLeDiff, reduceIte, g3, g8, g13, g42, g43]
    ((repeat' apply And.intro) <;> first | trivial | rfl | assumption | omega | (exact hd2) | (exact hq) | (simp))
theorem Really_ok {v : Ev} (hS : SE v) (till sh : Int) : RV ft 16 [encE v, I64 till, I64 sh] (.tup [encS (bndR (fun c => c.t.at sh) v till sh).1 (bndR (fun c => c.t.at sh) v till sh).2, I64 (errT v till sh)]) := by
  refine RV_of ft16 rfl ?_
  simp only [c16, r16]
  have hB := boundsOf_ok hS till sh (F := .fn 49 [] [.pv (I64 sh) 0]) (fun c => c.t.at sh) (fun _ _ => rfl) (fun _ => rfl) (fun he x e m K hK => by
    obtain ⟨h, _, ⟨s0, s1⟩, _⟩ := errT0 he
    have hk := h.k3
    rw [WZH_fn]
    simp only [List.nil_append, List.cons_append]
    simp only [go_sem, Nat.reduceEqDiff, Nat.reduceAdd, Nat.reduceLT, Nat.reduceLeDiff, reduceIte, WFH_eq ft49, WVH_eq (really1_ok x (n := sh) s0 (by omega)), true_and]
    exact hK)
  have hst : ∀ a b c d : Int, writeCells (encS a b) 0 [I64 c, I64 d] = some (encS c d) := fun _ _ _ _ => rfl
  have sP : ∀ a b : Int, plain 11 (encS a b) = true := fun _ _ => rfl
  have sC : ∀ a b : Int, (encS a b).cells = [I64 a, I64 b] := fun _ _ => rfl
  have sA : ∀ a b : Int, (encS a b).isAgg = true := fun _ _ => rfl
  have sE : ∀ a b : Int, AV.agg [I64 a, I64 b] = encS a b := fun _ _ => rfl
  simp only [go_sem, Nat.reduceEqDiff, Nat.reduceAdd, Nat.reduceLT, Nat.reduceLeDiff, reduceIte, WB48, WVH_eq hB, true_and, sC, sA, hst, sE, sP]
  rfl
theorem Missing_ok {v : Ev} (hS : SE v) (till : Int) : RV ft 24 [encE v, I64 till] (.tup [encS (bndR Ch.m v till 0).1 (bndR Ch.m v till 0).2, I64 (errT v till 0)]) := by
  refine RV_of ft24 rfl ?_
  simp only [c24, r24]
  have hB := boundsOf_ok hS till 0 (F := .fn 61 [] []) Ch.m (fun _ _ => rfl) (fun _ => rfl) (fun he x e m K hK => by
    rw [WZH_fn]
    simp only [List.nil_append, List.append_nil]
    simp only [go_sem, Nat.reduceEqDiff, Nat.reduceAdd, Nat.reduceLT, Nat.reduceLeDiff, reduceIte, WFH_eq ft61, WVH_eq (missing1_ok x), true_and]
    exact hK)
  have hst : ∀ a b c d : Int, writeCells (encS a b) 0 [I64 c, I64 d] = some (encS c d) := fun _ _ _ _ => rfl
  have sP : ∀ a b : Int, plain 11 (encS a b) = true := fun _ _ => rfl
  have sC : ∀ a b : Int, (encS a b).cells = [I64 a, I64 b] := fun _ _ => rfl
  have sA : ∀ a b : Int, (encS a b).isAgg = true := fun _ _ => rfl
  have sE : ∀ a b : Int, AV.agg [I64 a, I64 b] = encS a b := fun _ _ => rfl
  simp only [go_sem, Nat.reduceEqDiff, Nat.reduceAdd, Nat.reduceLT, Nat.reduceLeDiff, reduceIte, WB48, WVH_eq hB, true_and, sC, sA, hst, sE, sP]
  rfl
end Go.Ab.T
end
