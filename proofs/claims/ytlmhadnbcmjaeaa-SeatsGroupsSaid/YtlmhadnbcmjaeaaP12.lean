/-
 A part of the proofs over this seat.
 (The texts KhK32, one behind the other.)
-/
import Derived.Test.YtlmhadnbcmjaeaaP11
import Derived.Test.YtlmhadnbcmjaeaaP10
set_option linter.unusedSimpArgs false
set_option linter.unusedVariables false
set_option linter.unusedSectionVars false
section
namespace Go.Ab.T
set_option maxRecDepth 8000
set_option maxHeartbeats 4000000
theorem SeatsGroups_run (h : Hl) (l : List Cl) (x : Ak) : RV ft 7 [encH h, encCs l, encA x] (.bool true) := by
 refine RV_of ft7 rfl ?_
 simp only [c7, r7]
 have hV := valid_ok h l x.min
 have bnz : ((0 : Int) != 0) = false := rfl
 cases hv : validB h l x.min
 ·rw [hv] at hV
  simp only [go_sem, Nat.reduceEqDiff, Nat.reduceAdd, Nat.reduceLT, Nat.reduceLeDiff, reduceIte, HEta, HCells, ACells, snH, hotH, snCs, hotCs, List.getElem?_cons_zero, List.getElem?_cons_succ, WB11, WVH_eq hV, true_and, WB13, WVH_eq works_ok]
 rw [hv] at hV
 cases d1 : decide (x.siz < 1)
 case true => simp only [go_sem, Nat.reduceEqDiff, Nat.reduceAdd, Nat.reduceLT, Nat.reduceLeDiff, reduceIte, HEta, HCells, ACells, snH, hotH, snCs, hotCs, List.getElem?_cons_zero, List.getElem?_cons_succ, WB11, WVH_eq hV, true_and, d1, WB13, WVH_eq works_ok]
 cases d2 : decide (12 < x.siz)
 case true => simp only [go_sem, Nat.reduceEqDiff, Nat.reduceAdd, Nat.reduceLT, Nat.reduceLeDiff, reduceIte, HEta, HCells, ACells, snH, hotH, snCs, hotCs, List.getElem?_cons_zero, List.getElem?_cons_succ, WB11, WVH_eq hV, true_and, d1, d2, WB13, WVH_eq works_ok]
 cases d3 : decide (10 < (l.length : Int))
 case true => simp only [go_sem, Nat.reduceEqDiff, Nat.reduceAdd, Nat.reduceLT, Nat.reduceLeDiff, reduceIte, HEta, HCells, ACells, snH, hotH, snCs, hotCs, List.getElem?_cons_zero, List.getElem?_cons_succ, Cs_len, WB11, WVH_eq hV, true_and, d1, d2, d3, WB13, WVH_eq works_ok]
 have d1' := of_decide_eq_false d1
 have d2' := of_decide_eq_false d2
 have d3' := of_decide_eq_false d3
 obtain ⟨zn, hzn⟩ : ∃ zn : Nat, x.siz = zn := ⟨x.siz.toNat, by omega⟩
 obtain ⟨he, hok, hHB, hlens⟩ := valid_of hv
 obtain ⟨hc, hm0, hm1⟩ := lisE_ok he
 obtain ⟨_, _, hcv, hnc⟩ := chk_ok hc
 obtain ⟨hxr, _, hh1, hh2⟩ := okH_all hok
 have hz1 : 1 ≤ zn := by omega
 have hsz : szR x.siz = true := by unfold szR inR; rw [Bool.and_eq_true, decide_eq_true_eq, decide_eq_true_eq]; omega
 have hR1 := Largest_ok h l x.min
 have hR2 := Groups_ok h l x.min x.siz
 have hgE : grpE h l x.min x.siz = 0 := by unfold grpE; rw [if_pos he, if_pos hsz]
 have hgM : grpM h l x.min x.siz = (cntS zn (afterM h l x.min).seats : Nat) := by unfold grpM; rw [if_pos hgE, hzn, Int.toNat_natCast]
 have hlM : larM h l x.min = (larF (afterM h l x.min).seats 12 : Nat) := by unfold larM; rw [if_pos he]
 rw [he, hlM] at hR1
 rw [hgE, hgM] at hR2
 have hR3 : ∀ k : Nat, 1 ≤ k → k ≤ 12 → RV ft 20 [encH h, encCs l, I64 x.min, I64 (k : Int)] (.tup [I64 (f4 (bestS (afterM h l x.min).seats k)), I64 (f5 (bestS (afterM h l x.min).seats k)), I64 (if (bestS (afterM h l x.min).seats k).isSome = true then 0 else 3)]) := fun k k1 k2 => by
  have h1 := Best_ok h l x.min k
  have hs : szR (k : Int) = true := by unfold szR inR; rw [Bool.and_eq_true, decide_eq_true_eq, decide_eq_true_eq]; omega
  have e1 : bstE h l x.min k = if (bestS (afterM h l x.min).seats k).isSome = true then 0 else 3 := by unfold bstE; rw [if_pos he, if_pos hs, Int.toNat_natCast]
  have e2 : bstM h l x.min k = bestS (afterM h l x.min).seats k := by
   unfold bstM
   rw [e1, Int.toNat_natCast]
   cases bestS (afterM h l x.min).seats k <;> rfl
  rw [e1, e2] at h1; exact h1
 have hI := hHB.inv
 have hlar := larF_spec (afterM h l x.min).seats 12
 have hiff := lar_iff (s := (afterM h l x.min).seats) (N := 12) hz1 (by omega)
 obtain ⟨n, hn⟩ : ∃ n, n = larF (afterM h l x.min).seats 12 := ⟨_, rfl⟩
 obtain ⟨G, hG⟩ : ∃ G, G = cntS zn (afterM h l x.min).seats := ⟨_, rfl⟩
 rw [← hn] at hR1 hlar hiff
 rw [← hG] at hR2 hiff
 -- the orders that asked
 have T20 : ∀ (hlc : ∀ c ∈ l, c.at' ≤ x.min ∧ c.order < 40 ∧ c.id < 40), G ≤ 28 → ∀ e : Nat → AV, e 3 = .ptr 0 0 0 → e 5 = .ptr 1 0 0 → e 10 = I64 (G : Int) → e 18 = .sl ((l ++ asksC x.min x.siz (G + 1)).map encC) (.at 0) → ∀ tk, W ft tl7_T20 ⟨e, ⟨[.live [encH h] 2, .live [encA x] 3], tk⟩⟩ (Fin [.t 6] fun u m => Ab.snap m dep u = .bool true) := by
  intro hlc hG28 e g3 g5 g10 g18 tk
  simp only [tl7_T20]
  obtain ⟨k1, k2, k3⟩ := asks_ok (n := G + 1) ⟨hm0, hm1⟩ (show 1 ≤ x.siz ∧ x.siz ≤ 12 by omega) (by omega)
  obtain ⟨q1, q2, q3⟩ := after_asks (h := h) (L := asksC x.min x.siz (G + 1)) (m := x.min) hh1 hnc hcv (fun d hd => (hlc d hd).1) k1 k2 (fun d hd d' hd' => by
   obtain ⟨i, _, rfl⟩ := asks_mem hd'
   have := (hlc d hd).2.2
   unfold askC; dsimp only; omega) k3
  have hch := chk_of (l := l ++ asksC x.min x.siz (G + 1)) hok (by rw [List.length_append, asks_len]; omega) q3 q2
  have hlis := lis_of hch hm0 hm1
  have hno : ∀ i : Nat, lkP (afterM h l x.min).ords (40 + i) = none := fun i => by
   cases hl' : lkP (afterM h l x.min).ords (40 + i) with
   | none => rfl
   | some y =>
    have := after_from (h := h) (l := l) (m := x.min) (P := fun n => n < 40) (fun d hd => (hlc d hd).2.1) _ (lkP_mem hl')
    dsimp only at this; omega
  obtain ⟨_, _, hfin⟩ := asks_fold (m := x.min) (z := zn) hz1 hno (G + 1)
  rw [← hzn, ← hG, ← q1] at hfin
  have hOr : ∀ i : Nat, i ≤ G → ∃ p : Pc, RV ft 14 [encH h, encCs (l ++ asksC x.min x.siz (G + 1)), I64 x.min, I64 (40 + (i : Int))] (.tup [encPc p, I64 0]) ∧ (i < G → p.st = 2) ∧ (i = G → p.st = 1) := fun i hi => by
   have h1 := Order_ok h (l ++ asksC x.min x.siz (G + 1)) x.min (40 + i)
   have e1 : ordE h (l ++ asksC x.min x.siz (G + 1)) x.min (40 + i) = 0 := by
    unfold ordE; rw [if_pos hlis, if_pos]
    unfold inR; rw [Bool.and_eq_true, decide_eq_true_eq, decide_eq_true_eq]; omega
   have e2 : ordM h (l ++ asksC x.min x.siz (G + 1)) x.min (40 + i) = plcM (afterM h (l ++ asksC x.min x.siz (G + 1)) x.min) (40 + i) := by unfold ordM; rw [if_pos e1]
   rw [e1, e2] at h1
   exact ⟨_, h1, fun h => (hfin i (by omega)).1 h, fun h => (hfin i (by omega)).2 (by omega)⟩
  simp only [go_sem, Nat.reduceEqDiff, Nat.reduceAdd, Nat.reduceLT, Nat.reduceLeDiff, reduceIte]
  refine WL_inv (α := Nat) (fun q e mm => e 3 = .ptr 0 0 0 ∧ e 5 = .ptr 1 0 0 ∧ e 10 = I64 (G : Int) ∧ e 18 = .sl ((l ++ asksC x.min x.siz (G + 1)).map encC) (.at 0) ∧ e 20 = I64 q ∧ q ≤ G + 1 ∧ ∃ ext, mm = ⟨.live [encH h] 2 :: .live [encA x] 3 :: ext, tk⟩) (fun q => G + 1 - q) 0 ?_ ?_
  ·simp only [go_sem, Nat.reduceEqDiff, Nat.reduceAdd, Nat.reduceLT, Nat.reduceLeDiff, reduceIte, g3, g5, g10, g18]
   exact ⟨trivial, trivial, trivial, trivial, rfl, by first | trivial | omega, [], rfl⟩
  clear g3 g5 g10 g18 e
  rintro i e mm ⟨g3, g5, g10, g18, g20, hi, ext, rfl⟩
  by_cases hiG : i ≤ G
  ·obtain ⟨p, hp, p2, p1⟩ := hOr i hiG
   have w1 : IntKind.i64.wrap (40 + (i : Int)) = 40 + (i : Int) := wrap_i64 _ (by omega) (by omega)
   have dle : decide ((i : Int) ≤ (G : Int)) = true := decide_eq_true (by omega)
   have gK : ∀ (a b : Blk) (l m : List Blk), (a :: b :: (l ++ m))[l.length + 1 + 1]? = m[0]? := fun a b l m => gA0 l m
   have sK : ∀ (a b : Blk) (l m : List Blk) (X : Blk), (a :: b :: (l ++ m)).set (l.length + 1 + 1) X = a :: b :: (l ++ m.set 0 X) := fun a b l m X => by
    show a :: b :: ((l ++ m).set l.length X) = _
    rw [sA0]
   by_cases hlt : i < G
   ·have s2 := p2 hlt
    have x1 : (p.st == 2) = true := by rw [s2]; rfl
    have x2 : decide ((i : Int) < (G : Int)) = true := decide_eq_true (by omega)
    have x3 : (p.st == 1) = false := by rw [s2]; rfl
    have x4 : ((i : Int) == (G : Int)) = false := by rw [beq_eq_false_iff_ne]; omega
    simp only [go_sem, Nat.reduceEqDiff, Nat.reduceAdd, Nat.reduceLT, Nat.reduceLeDiff, reduceIte, g3, g5, g10, g18, g20, dle, w1, HEta, HCells, ACells, snH, hotH, snCs, hotCs, List.getElem?_cons_zero, List.getElem?_cons_succ, snCsA, hotCsA, WB14, WVH_eq hp, true_and, bnz, PcCells, gK, sK, List.set_cons_zero, List.length_cons, List.cons_append, x1, x2, x3, x4, Bool.false_eq_true, if_false, if_true, beq_self_eq_true, Bool.not_true, wrap_n1 i (by omega)]
    refine Nx_of (i + 1) (by omega) ?_
    simp only [go_sem, Nat.reduceEqDiff, Nat.reduceAdd, Nat.reduceLT, Nat.reduceLeDiff, reduceIte, g3, g5, g10, g18]
    exact ⟨trivial, trivial, trivial, trivial, trivial, by first | trivial | omega, _, rfl⟩
   ·have s1 := p1 (by omega)
    have x1 : (p.st == 2) = false := by rw [s1]; rfl
    have x2 : decide ((i : Int) < (G : Int)) = false := decide_eq_false (by omega)
    have x3 : (p.st == 1) = true := by rw [s1]; rfl
    have x4 : ((i : Int) == (G : Int)) = true := by rw [beq_iff_eq]; omega
    simp only [go_sem, Nat.reduceEqDiff, Nat.reduceAdd, Nat.reduceLT, Nat.reduceLeDiff, reduceIte, g3, g5, g10, g18, g20, dle, w1, HEta, HCells, ACells, snH, hotH, snCs, hotCs, List.getElem?_cons_zero, List.getElem?_cons_succ, snCsA, hotCsA, WB14, WVH_eq hp, true_and, bnz, PcCells, gK, sK, List.set_cons_zero, List.length_cons, List.cons_append, x1, x2, x3, x4, Bool.false_eq_true, if_false, if_true, beq_self_eq_true, Bool.not_true, wrap_n1 i (by omega)]
    refine Nx_of (i + 1) (by omega) ?_
    simp only [go_sem, Nat.reduceEqDiff, Nat.reduceAdd, Nat.reduceLT, Nat.reduceLeDiff, reduceIte, g3, g5, g10, g18]
    exact ⟨trivial, trivial, trivial, trivial, trivial, by first | trivial | omega, _, rfl⟩
  ·have dle : decide ((i : Int) ≤ (G : Int)) = false := decide_eq_false (by omega)
   simp only [go_sem, Nat.reduceEqDiff, Nat.reduceAdd, Nat.reduceLT, Nat.reduceLeDiff, reduceIte, g3, g5, g10, g18, g20, dle, WB13, WVH_eq works_ok]
 have T153 : ∀ (hlc : ∀ c ∈ l, c.at' ≤ x.min ∧ c.order < 40 ∧ c.id < 40), G ≤ 28 → ∀ e : Nat → AV, e 1 = encCs l → e 3 = .ptr 0 0 0 → e 5 = .ptr 1 0 0 → e 10 = I64 (G : Int) → W ft tl7_T153 ⟨e, ⟨[.live [encH h] 2, .live [encA x] 3], []⟩⟩ (Fin [.t 6] fun u m => Ab.snap m dep u = .bool true) := by
  intro hlc hG28 e g1 g3 g5 g10
  simp only [tl7_T153]
  obtain ⟨v1, t1, ha1, hA1⟩ := ap0C [.live [encH h] 2, .live [encA x] 3] l (by omega)
  simp only [go_sem, Nat.reduceEqDiff, Nat.reduceAdd, Nat.reduceLT, Nat.reduceLeDiff, reduceIte, g1, g3, g5, g10, ha1]
  refine WL_inv (α := Nat) (fun q e mm => e 3 = .ptr 0 0 0 ∧ e 5 = .ptr 1 0 0 ∧ e 10 = I64 (G : Int) ∧ e 19 = I64 q ∧ q ≤ G + 1 ∧ ∃ v tk, e 18 = v ∧ Acc 44 ((l ++ asksC x.min x.siz q).map encC) v tk ∧ mm = ⟨[.live [encH h] 2, .live [encA x] 3], tk⟩) (fun q => G + 1 - q) 0 ?_ ?_
  ·simp only [go_sem, Nat.reduceEqDiff, Nat.reduceAdd, Nat.reduceLT, Nat.reduceLeDiff, reduceIte, g3, g5, g10]
   exact ⟨trivial, trivial, trivial, rfl, by first | trivial | omega, _, _, rfl, by rw [show asksC x.min x.siz 0 = [] from rfl, List.append_nil]; exact hA1, rfl⟩
  clear g1 g3 g5 g10 ha1 hA1 e v1 t1
  rintro i e mm ⟨g3, g5, g10, g19, hi, v, tk, g18, hA, rfl⟩
  by_cases hiG : i ≤ G
  ·have w1 : IntKind.i64.wrap (40 + (i : Int)) = 40 + (i : Int) := wrap_i64 _ (by omega) (by omega)
   have dle : decide ((i : Int) ≤ (G : Int)) = true := decide_eq_true (by omega)
   have eC : AV.agg [I64 (40 + (i : Int)), I64 x.min, I64 1, I64 (40 + (i : Int)), I64 x.siz] = encC (askC x.min x.siz i) := rfl
   simp only [go_sem, Nat.reduceEqDiff, Nat.reduceAdd, Nat.reduceLT, Nat.reduceLeDiff, reduceIte, g3, g5, g10, g18, g19, dle, w1, HEta, HCells, ACells, snH, hotH, snCs, hotCs, List.getElem?_cons_zero, List.getElem?_cons_succ, eC]
   refine hA.app (y := encC (askC x.min x.siz i)) (cellsC _) rfl (by rw [List.length_map, List.length_append, asks_len]; unfold limit; omega) fun v' tk' hA' => ?_
   simp only [go_sem, Nat.reduceEqDiff, Nat.reduceAdd, Nat.reduceLT, Nat.reduceLeDiff, reduceIte, g3, g5, g10, g19, wrap_n1 i (by omega)]
   refine Nx_of (i + 1) (by omega) ?_
   simp only [go_sem, Nat.reduceEqDiff, Nat.reduceAdd, Nat.reduceLT, Nat.reduceLeDiff, reduceIte, g3, g5, g10]
   refine ⟨trivial, trivial, trivial, trivial, by first | trivial | omega, v', tk', by first | trivial | rfl, ?_, rfl⟩
   rw [asks_succ, ← List.append_assoc, List.map_append]; exact hA'
  ·have dle : decide ((i : Int) ≤ (G : Int)) = false := decide_eq_false (by omega)
   have e1 : i = G + 1 := by omega
   rw [e1] at hA
   have hv' : v = .sl ((l ++ asksC x.min x.siz (G + 1)).map encC) (.at 0) := by
    rcases hA with ⟨h1, _⟩ | ⟨_, h2, _⟩
    ·rw [List.map_eq_nil_iff, asks_succ] at h1; simp at h1
    ·exact h2
   rw [hv'] at g18
   simp only [go_sem, Nat.reduceEqDiff, Nat.reduceAdd, Nat.reduceLT, Nat.reduceLeDiff, reduceIte, g3, g5, g10, g18, g19, dle]
   refine T20 hlc hG28 _ ?_ ?_ ?_ ?_ _
   ·exact g3
   ·exact g5
   ·exact g10
   ·exact g18
 have T150 : ∀ (hlc : ∀ c ∈ l, c.at' ≤ x.min ∧ c.order < 40 ∧ c.id < 40), ∀ e : Nat → AV, e 1 = encCs l → e 3 = .ptr 0 0 0 → e 5 = .ptr 1 0 0 → e 10 = I64 (G : Int) → W ft tl7_T150 ⟨e, ⟨[.live [encH h] 2, .live [encA x] 3], []⟩⟩ (Fin [.t 6] fun u m => Ab.snap m dep u = .bool true) := by
  intro hlc e g1 g3 g5 g10
  simp only [tl7_T150]
  cases d : decide (28 < (G : Int))
  case true => simp only [go_sem, Nat.reduceEqDiff, Nat.reduceAdd, Nat.reduceLT, Nat.reduceLeDiff, reduceIte, g1, g3, g5, g10, d, WB13, WVH_eq works_ok]
  have d' := of_decide_eq_false d
  simp only [go_sem, Nat.reduceEqDiff, Nat.reduceAdd, Nat.reduceLT, Nat.reduceLeDiff, reduceIte, g1, g3, g5, g10, d]
  exact T153 hlc (by omega) _ g1 g3 g5 g10
 have T135 : ∀ (hlc : ∀ c ∈ l, c.at' ≤ x.min ∧ c.order < 40 ∧ c.id < 40), ∀ e : Nat → AV, e 1 = encCs l → e 3 = .ptr 0 0 0 → e 5 = .ptr 1 0 0 → e 8 = I64 (n : Int) → e 10 = I64 (G : Int) → W ft tl7_T135 ⟨e, ⟨[.live [encH h] 2, .live [encA x] 3], []⟩⟩ (Fin [.t 6] fun u m => Ab.snap m dep u = .bool true) := by
  intro hlc e g1 g3 g5 g8 g10
  simp only [tl7_T135]
  cases d : decide ((n : Int) < 12)
  ·simp only [go_sem, Nat.reduceEqDiff, Nat.reduceAdd, Nat.reduceLT, Nat.reduceLeDiff, reduceIte, g1, g3, g5, g8, g10, d]
   exact T150 hlc _ g1 g3 g5 g10
  ·have d' := of_decide_eq_true d
   have hb := hlar.2.2 (n + 1) (by omega) (by omega)
   have hB := hR3 (n + 1) (by omega) (by omega)
   rw [hb] at hB
   have hB' : RV ft 20 [encH h, encCs l, I64 x.min, I64 ((n + 1 : Nat) : Int)] (.tup [I64 0, I64 0, I64 3]) := hB
   simp only [go_sem, Nat.reduceEqDiff, Nat.reduceAdd, Nat.reduceLT, Nat.reduceLeDiff, reduceIte, g1, g3, g5, g8, g10, d, HEta, HCells, ACells, snH, hotH, snCs, hotCs, List.getElem?_cons_zero, List.getElem?_cons_succ, wrap_n1 n (by omega), WB20, WVH_eq hB', true_and, show ((3 : Int) != 3) = false from rfl]
   exact T150 hlc _ g1 g3 g5 g10
 have T121 : ∀ (hlc : ∀ c ∈ l, c.at' ≤ x.min ∧ c.order < 40 ∧ c.id < 40), ∀ e : Nat → AV, e 1 = encCs l → e 3 = .ptr 0 0 0 → e 5 = .ptr 1 0 0 → e 8 = I64 (n : Int) → e 10 = I64 (G : Int) → W ft tl7_T121 ⟨e, ⟨[.live [encH h] 2, .live [encA x] 3], []⟩⟩ (Fin [.t 6] fun u m => Ab.snap m dep u = .bool true) := by
  intro hlc e g1 g3 g5 g8 g10
  simp only [tl7_T121]
  cases d : decide (0 < (n : Int))
  ·simp only [go_sem, Nat.reduceEqDiff, Nat.reduceAdd, Nat.reduceLT, Nat.reduceLeDiff, reduceIte, g1, g3, g5, g8, g10, d]
   exact T135 hlc _ g1 g3 g5 g8 g10
  ·have d' := of_decide_eq_true d
   have hb := hlar.2.1 (by omega)
   have hB := hR3 n (by omega) hlar.1
   rw [if_pos hb] at hB
   simp only [go_sem, Nat.reduceEqDiff, Nat.reduceAdd, Nat.reduceLT, Nat.reduceLeDiff, reduceIte, g1, g3, g5, g8, g10, d, HEta, HCells, ACells, snH, hotH, snCs, hotCs, List.getElem?_cons_zero, List.getElem?_cons_succ, WB20, WVH_eq hB, true_and, bnz]
   exact T135 hlc _ g1 g3 g5 g8 g10
 have T94 : ∀ (hlc : ∀ c ∈ l, c.at' ≤ x.min ∧ c.order < 40 ∧ c.id < 40), ∀ e : Nat → AV, e 1 = encCs l → e 3 = .ptr 0 0 0 → e 5 = .ptr 1 0 0 → e 8 = I64 (n : Int) → e 9 = I64 0 → e 10 = I64 (G : Int) → e 11 = I64 0 → W ft tl7_T94 ⟨e, ⟨[.live [encH h] 2, .live [encA x] 3], []⟩⟩ (Fin [.t 6] fun u m => Ab.snap m dep u = .bool true) := by
  intro hlc e g1 g3 g5 g8 g9 g10 g11
  simp only [tl7_T94]
  have c1 : decide ((n : Int) < 0) = false := decide_eq_false (by omega)
  have c2 : decide (12 < (n : Int)) = false := decide_eq_false (by have := hlar.1; omega)
  have c3 : decide ((G : Int) < 0) = false := decide_eq_false (by omega)
  have c4 : decide (x.siz ≤ (n : Int)) = decide (0 < (G : Int)) := by
   rw [decide_eq_decide]
   constructor
   ·intro h; have := hiff.2 (by omega); omega
   ·intro h; have := hiff.1 (by omega); omega
  cases c5 : decide (0 < (G : Int))
  ·rw [c5] at c4
   simp only [go_sem, Nat.reduceEqDiff, Nat.reduceAdd, Nat.reduceLT, Nat.reduceLeDiff, reduceIte, g1, g3, g5, g8, g9, g10, g11, bnz, c1, c2, c3, c4, c5, HEta, HCells, ACells, snH, hotH, snCs, hotCs, List.getElem?_cons_zero, List.getElem?_cons_succ, Bool.false_eq_true, if_false, if_true, beq_self_eq_true, Bool.not_true]
   exact T121 hlc _ g1 g3 g5 g8 g10
  ·rw [c5] at c4
   simp only [go_sem, Nat.reduceEqDiff, Nat.reduceAdd, Nat.reduceLT, Nat.reduceLeDiff, reduceIte, g1, g3, g5, g8, g9, g10, g11, bnz, c1, c2, c3, c4, c5, HEta, HCells, ACells, snH, hotH, snCs, hotCs, List.getElem?_cons_zero, List.getElem?_cons_succ, Bool.false_eq_true, if_false, if_true, beq_self_eq_true, Bool.not_true]
   exact T121 hlc _ g1 g3 g5 g8 g10
 simp only [go_sem, Nat.reduceEqDiff, Nat.reduceAdd, Nat.reduceLT, Nat.reduceLeDiff, reduceIte, HEta, HCells, ACells, snH, hotH, snCs, hotCs, List.getElem?_cons_zero, List.getElem?_cons_succ, Cs_len, WB11, WVH_eq hV, true_and, d1, d2, d3]
 refine WL_inv (α := Nat × List Cl) (fun q e mm => e 1 = encCs l ∧ e 3 = .ptr 0 0 0 ∧ e 5 = .ptr 1 0 0 ∧ e 7 = I64 q.1 ∧ l.drop q.1 = q.2 ∧ (∀ c ∈ l.take q.1, c.at' ≤ x.min ∧ c.order < 40 ∧ c.id < 40) ∧ mm = ⟨[.live [encH h] 2, .live [encA x] 3], []⟩) (fun q => q.2.length) (0, l) ?_ ?_
 ·simp only [go_sem, Nat.reduceEqDiff, Nat.reduceAdd, Nat.reduceLT, Nat.reduceLeDiff, reduceIte]
  refine ⟨trivial, trivial, trivial, rfl, trivial, fun c hc => ?_, trivial⟩
  cases hc
 rintro ⟨k, r⟩ e mm ⟨g1, g3, g5, g7, hd, hlc, rfl⟩
 dsimp only at g7 hd hlc
 cases r with
 | cons c r =>
  obtain ⟨hk, hd2, hlt⟩ := drop_cons hd
  cases e1 : decide (x.min < c.at')
  case true => simp only [go_sem, Nat.reduceEqDiff, Nat.reduceAdd, Nat.reduceLT, Nat.reduceLeDiff, reduceIte, g1, g3, g5, g7, HEta, HCells, ACells, snH, hotH, snCs, hotCs, List.getElem?_cons_zero, List.getElem?_cons_succ, Cs_len, dec_lt hlt, Cs_idx hk, CCells, e1, WB13, WVH_eq works_ok, true_and]
  cases e2 : decide (40 ≤ c.order)
  case true => simp only [go_sem, Nat.reduceEqDiff, Nat.reduceAdd, Nat.reduceLT, Nat.reduceLeDiff, reduceIte, g1, g3, g5, g7, HEta, HCells, ACells, snH, hotH, snCs, hotCs, List.getElem?_cons_zero, List.getElem?_cons_succ, Cs_len, dec_lt hlt, Cs_idx hk, CCells, e1, e2, WB13, WVH_eq works_ok, true_and]
  cases e3 : decide (40 ≤ c.id)
  case true => simp only [go_sem, Nat.reduceEqDiff, Nat.reduceAdd, Nat.reduceLT, Nat.reduceLeDiff, reduceIte, g1, g3, g5, g7, HEta, HCells, ACells, snH, hotH, snCs, hotCs, List.getElem?_cons_zero, List.getElem?_cons_succ, Cs_len, dec_lt hlt, Cs_idx hk, CCells, e1, e2, e3, WB13, WVH_eq works_ok, true_and]
  have e1' := of_decide_eq_false e1
  have e2' := of_decide_eq_false e2
  have e3' := of_decide_eq_false e3
  simp only [go_sem, Nat.reduceEqDiff, Nat.reduceAdd, Nat.reduceLT, Nat.reduceLeDiff, reduceIte, g1, g3, g5, g7, HEta, HCells, ACells, snH, hotH, snCs, hotCs, List.getElem?_cons_zero, List.getElem?_cons_succ, Cs_len, dec_lt hlt, Cs_idx hk, CCells, e1, e2, e3, wrap_n1 k (by omega)]
  refine Nx_of (k + 1, r) (by simp) ?_
  simp only [go_sem, Nat.reduceEqDiff, Nat.reduceAdd, Nat.reduceLT, Nat.reduceLeDiff, reduceIte, g1, g3, g5]
  refine ⟨trivial, trivial, trivial, trivial, hd2, fun d hd' => ?_, trivial⟩
  rw [take_snoc hk] at hd'
  rcases List.mem_append.1 hd' with hd' | hd'
  ·exact hlc d hd'
  ·rw [List.mem_singleton] at hd'
   subst hd'
   exact ⟨by omega, by omega, by omega⟩
 | nil =>
  have h3 := drop_nil hd
  have hlc' : ∀ c ∈ l, c.at' ≤ x.min ∧ c.order < 40 ∧ c.id < 40 := fun c hc => hlc c (by rw [List.take_of_length_le h3]; exact hc)
  simp only [go_sem, Nat.reduceEqDiff, Nat.reduceAdd, Nat.reduceLT, Nat.reduceLeDiff, reduceIte, g1, g3, g5, g7, HEta, HCells, ACells, snH, hotH, snCs, hotCs, List.getElem?_cons_zero, List.getElem?_cons_succ, Cs_len, dec_ge h3, WB23, WVH_eq hR1, WB24, WVH_eq hR2, true_and]
  exact T94 hlc' _ g1 g3 g5 rfl rfl rfl rfl
end Go.Ab.T
end
