/-
  A part of the proofs over this seat.
  (The texts KrK9, one behind the other.)
-/
import Derived.Test.YtnkdfekbifcglaaP6
set_option linter.unusedSimpArgs false
set_option linter.unusedVariables false
set_option linter.unusedSectionVars false
section
namespace Go.Ab.T
set_option maxRecDepth 8000
set_option maxHeartbeats 1000000
theorem snM (m : Mem) (n : Nat) (q : Mv) : snap m (n + 2) (encM q) = encM q := rfl
theorem hotM (n : Nat) (q : Mv) : hot (n + 2) (encM q) = false := rfl
def encMs (l : List Mv) : AV := .sl (l.map encM) .unk
theorem MsCells (l : List Mv) : (encMs l).cells = [encMs l] := rfl
theorem MsSolid (l : List Mv) : (encMs l).solid = true := rfl
theorem MsAgg (l : List Mv) : (encMs l).isAgg = false := rfl
theorem Ms_len (m : Mem) (l : List Mv) : lenAt m (encMs l) = some (I64 l.length) := by unfold encMs; rw [lenAt_sl, List.length_map]
theorem Ms_idx {l : List Mv} {k : Nat} {x : Mv} (h : l[k]? = some x) (m : Mem) : idxAt m (encMs l) (I64 (k : Int)) 3 = some (.pv (encM x) 0) := by
  unfold encMs
  rw [idxAt_sl, if_pos (by omega), Int.toNat_natCast, List.getElem?_map, h]
  rfl
theorem snMs' (m : Mem) (q : Nat) (l : List Mv) (t : Tk) : snap m (q + 3) (.sl (l.map encM) t) = encMs l := by
  show AV.sl ((l.map encM).map (snap m (q + 2))) .unk = _
  rw [List.map_map, show snap m (q + 2) ∘ encM = encM from funext fun t => snM m q t]; rfl
theorem snMs (m : Mem) (q : Nat) (l : List Mv) : snap m (q + 3) (encMs l) = encMs l := snMs' m q l .unk
theorem snIs' (m : Mem) (q : Nat) (l : List Int) (t : Tk) : snap m (q + 2) (.sl (l.map I64) t) = encIs l := by
  show AV.sl ((l.map I64).map (snap m (q + 1))) .unk = _
  rw [List.map_map, show snap m (q + 1) ∘ I64 = I64 from funext (fun _ => rfl)]; rfl
theorem hotMs (q : Nat) (l : List Mv) : hot (q + 3) (encMs l) = false := by
  show (l.map encM).any (hot (q + 2)) = false
  rw [List.any_map, List.any_eq_false]; intro x _; simp only [Function.comp]; rw [hotM]; decide
attribute [go_sem] MCells MsCells MsSolid MsAgg Ms_len snM hotM snMs hotMs
theorem N_ex (h : Ho) {T : Int} (hT0 : 0 ≤ T) : ∃ N : Nat, nN h T = N := Int.eq_ofNat_of_zero_le (by unfold nN; have := Int.mul_nonneg (show (0 : Int) ≤ h.p.length by omega) (show 0 ≤ T + 1 by omega); omega)
theorem errM_0 {h : Ho} (hV : HV h) {T : Int} (hT0 : 0 ≤ T) (hT : T ≤ 60) : errM h T = 0 := by unfold errM; rw [if_pos (vHo_iff.2 hV), if_pos (isW_iff.2 ⟨hT0, hT⟩)]
theorem errM_ok {h : Ho} {T : Int} (he : errM h T = 0) : HV h ∧ 0 ≤ T ∧ T ≤ 60 := by
  unfold errM at he
  by_cases h1 : vHo h = true
  · rw [if_pos h1] at he
    by_cases h2 : isW T 0 60 = true
    · exact ⟨vHo_iff.1 h1, isW_iff.1 h2⟩
    · rw [if_neg h2] at he; omega
  · rw [if_neg h1] at he; omega
theorem Most_err {h : Ho} (hl : h.p.length ≤ 40) (hs : h.s.length ≤ 40) {T : Int} (he : errM h T ≠ 0) : RV ft 21 [encH h, I64 T] (.tup [I64 0, I64 (errM h T)]) := by
  refine RV_of ft21 rfl ?_
  simp only [c21, r21]
  simp only [go_sem, Nat.reduceEqDiff, Nat.reduceAdd, Nat.reduceLT, Nat.reduceLeDiff, reduceIte, HEta, WB40, WVH_eq (checkMinute_ok h hl hs T), true_and, bne_iff_ne.2 he]
theorem Plan_err {h : Ho} (hl : h.p.length ≤ 40) (hs : h.s.length ≤ 40) {T : Int} (he : errM h T ≠ 0) : RV ft 23 [encH h, I64 T] (.tup [encMs [], I64 (errM h T)]) := by
  refine RV_of ft23 rfl ?_
  simp only [c23, r23]
  simp only [go_sem, Nat.reduceEqDiff, Nat.reduceAdd, Nat.reduceLT, Nat.reduceLeDiff, reduceIte, HEta, WB40, WVH_eq (checkMinute_ok h hl hs T), true_and, bne_iff_ne.2 he]
  rfl
theorem Proof_err {h : Ho} (hl : h.p.length ≤ 40) (hs : h.s.length ≤ 40) {T : Int} (he : errM h T ≠ 0) : RV ft 24 [encH h, I64 T] (.tup [encIs [], I64 (errM h T)]) := by
  refine RV_of ft24 rfl ?_
  simp only [c24, r24]
  simp only [go_sem, Nat.reduceEqDiff, Nat.reduceAdd, Nat.reduceLT, Nat.reduceLeDiff, reduceIte, HEta, WB40, WVH_eq (checkMinute_ok h hl hs T), true_and, bne_iff_ne.2 he]
  rfl
theorem Plan_ok {h : Ho} (hV : HV h) {T : Int} (hT0 : 0 ≤ T) (hT : T ≤ 60) : ∃ l, (PlanOK h T l ∧ IsM h T (outL h l) ∧ l.length ≤ 720) ∧ RV ft 23 [encH h, I64 T] (.tup [encMs l, I64 0]) := by
  have key : WR ft (.f 23) [encH h, I64 T] .nil fun a m => ∃ l, (PlanOK h T l ∧ IsM h T (outL h l) ∧ l.length ≤ 720) ∧ snap m dep a = .tup [encMs l, I64 0] := by
    rw [WR_f ft23 rfl]
    simp only [c23, r23]
    have hc := checkMinute_ok h (by have := hV.n6; omega) (by have := hV.sl; omega) T
    rw [errM_0 hV hT0 hT] at hc
    obtain ⟨N, hN⟩ := N_ex h hT0
    simp only [go_sem, Nat.reduceEqDiff, Nat.reduceAdd, Nat.reduceLT, Nat.reduceLeDiff, reduceIte, HEta, WB40, WVH_eq hc, true_and, bne_self_eq_false, WB46]
    refine emptied_W hV hT0 hT hN fun w S val bl' tk' hI hF hC hfr => ?_
    simp only [go_sem, Nat.reduceEqDiff, Nat.reduceAdd, Nat.reduceLT, Nat.reduceLeDiff, reduceIte, WB48]
    refine moves_W (h := h) (T := T) hV.sl hT0 hT hI.srt hI.um fun j t tk2 => ?_
    obtain ⟨p1, p2⟩ := hF.plan hV hT0
    have h9 := snMs' ⟨bl' ++ j, tk2⟩ 8 (planL (lk w) T.toNat h.s.length) t
    simp only [go_sem, Nat.reduceEqDiff, Nat.reduceAdd, Nat.reduceLT, Nat.reduceLeDiff, reduceIte]
    refine ⟨_, ⟨p1, by rw [p2]; exact IsM_flow hV hT0 hF hC, ?_⟩, ?_⟩
    · have h1 := planL_len (lk w) h.s.length T.toNat
      have h2 : T.toNat * h.s.length ≤ 60 * 12 := Nat.mul_le_mul (by omega) hV.sl
      omega
    · exact congrArg (fun x => AV.tup [x, I64 0]) h9
  obtain ⟨n, p, e1, v, hv, e2⟩ := key
  exact ⟨v, hv, n, by simp only [callV, e1, Option.map_some, e2]⟩
theorem Proof_ok {h : Ho} (hV : HV h) {T : Int} (hT0 : 0 ≤ T) (hT : T ≤ 60) : ∃ hs : List Int, (hs.length = h.p.length ∧ HrOK h T (hf hs) ∧ IsM h T (bnd h T (hf hs))) ∧ RV ft 24 [encH h, I64 T] (.tup [encIs hs, I64 0]) := by
  have key : WR ft (.f 24) [encH h, I64 T] .nil fun a m => ∃ hs : List Int, (hs.length = h.p.length ∧ HrOK h T (hf hs) ∧ IsM h T (bnd h T (hf hs))) ∧ snap m dep a = .tup [encIs hs, I64 0] := by
    rw [WR_f ft24 rfl]
    simp only [c24, r24]
    have hc := checkMinute_ok h (by have := hV.n6; omega) (by have := hV.sl; omega) T
    rw [errM_0 hV hT0 hT] at hc
    obtain ⟨N, hN⟩ := N_ex h hT0
    simp only [go_sem, Nat.reduceEqDiff, Nat.reduceAdd, Nat.reduceLT, Nat.reduceLeDiff, reduceIte, HEta, WB40, WVH_eq hc, true_and, bne_self_eq_false, WB46]
    refine emptied_W hV hT0 hT hN fun w S val bl' tk' hI hF hC hfr => ?_
    simp only [go_sem, Nat.reduceEqDiff, Nat.reduceAdd, Nat.reduceLT, Nat.reduceLeDiff, reduceIte, WB49]
    refine hours_W hV hT0 hT hN hI.len hI.sn fun hs j t tk2 hl hH => ?_
    obtain ⟨q1, q2, q3⟩ := IsM_of hV hT0 hF hC hH
    have h9 := snIs' ⟨bl' ++ j, tk2⟩ 9 hs t
    simp only [go_sem, Nat.reduceEqDiff, Nat.reduceAdd, Nat.reduceLT, Nat.reduceLeDiff, reduceIte]
    refine ⟨hs, ⟨hl, q2, by rw [q3]; exact q1⟩, ?_⟩
    exact congrArg (fun x => AV.tup [x, I64 0]) h9
  obtain ⟨n, p, e1, v, hv, e2⟩ := key
  exact ⟨v, hv, n, by simp only [callV, e1, Option.map_some, e2]⟩
/-- All people can be out. -/
def canE (h : Ho) (T : Int) : Prop := ∀ H, HrOK h T H → allP h ≤ bnd h T H
theorem bnd_top (h : Ho) {T : Int} (hV : HV h) (hT : 0 ≤ T) : bnd h T (fun _ => T + 1) = allP h := by
  unfold bnd
  rw [allP_sum, sumR_z (n := h.s.length) fun i hi => sumR_z fun m hm => ?_, Int.add_zero]
  · exact sumR_congr fun r hr => if_pos (show 0 < T + 1 by omega)
  · have hq := hV.sv _ (pq_mem hi)
    have := nM_lt hq.k0 hm
    have := hq.k0
    rw [if_neg]
    unfold crB
    simp; intro h1; omega
theorem IsM.canE {h : Ho} (hV : HV h) {T n : Int} (hT : 0 ≤ T) (hm : IsM h T n) : n = allP h ↔ Go.Ab.T.canE h T := by
  have h1 := hm.le (fun _ => T + 1) fun r hr => ⟨by show 0 ≤ T + 1; omega, Int.le_refl _⟩
  rw [bnd_top h hV hT] at h1
  constructor
  · rintro rfl; exact hm.le
  · intro hc
    obtain ⟨H, h2, h3⟩ := hm.is
    have := hc H h2
    omega
open Classical in
theorem canEmpty_ok {h : Ho} (hV : HV h) {T : Int} (hT0 : 0 ≤ T) (hT : T ≤ 60) : RV ft 52 [encH h, I64 T] (.bool (decide (canE h T))) := by
  refine RV_of ft52 rfl ?_
  simp only [c52, r52]
  obtain ⟨N, hN⟩ := N_ex h hT0
  simp only [go_sem, Nat.reduceEqDiff, Nat.reduceAdd, Nat.reduceLT, Nat.reduceLeDiff, reduceIte, HEta, WB46]
  refine emptied_W hV hT0 hT hN fun w S val bl' tk' hI hF hC hfr => ?_
  have gJ : ∀ y : Blk, (bl' ++ [y])[bl'.length]? = some y := fun y => by simp
  have sJ : ∀ y z : Blk, (bl' ++ [y]).set bl'.length z = bl' ++ [z] := fun y z => by simp
  have hFs : ∀ um ar sn N, (floV h T um ar sn N).solids = true := fun _ _ _ _ => rfl
  simp only [go_sem, Nat.reduceEqDiff, Nat.reduceAdd, Nat.reduceLT, Nat.reduceLeDiff, reduceIte, gJ, sJ, hFs, solid_mp, solid_nilm, WB43]
  refine out_W (h := h) (T := T) hV.sl hT0 hT hI.srt (fun i m hi => hF.pb hV hT0 i m hi) (getA hI.um _) fun j => ?_
  rw [outV_eq hV hT0 hF]
  simp only [go_sem, Nat.reduceEqDiff, Nat.reduceAdd, Nat.reduceLT, Nat.reduceLeDiff, reduceIte, WB65]
  refine everyone_W (h := h) (T := T) (um := _) hV fun j2 => ?_
  simp only [go_sem, Nat.reduceEqDiff, Nat.reduceAdd, Nat.reduceLT, Nat.reduceLeDiff, reduceIte]
  have := (IsM_flow hV hT0 hF hC).canE hV hT0
  rw [show (val == allP h) = decide (canE h T) by rw [← decide_eq_decide.2 this]; rfl]
end Go.Ab.T
end
