/-
 A part of the proofs over this seat.
 (The texts KhK27 KhK29, one behind the other.)
-/
import Derived.Test.YtlmhadnbcmjaeaaP9
import Derived.Test.YtlmhadnbcmjaeaaP1
set_option linter.unusedSimpArgs false
set_option linter.unusedVariables false
set_option linter.unusedSectionVars false
section
namespace Go.Ab.T
set_option maxRecDepth 8000
set_option maxHeartbeats 4000000
structure Ak where
 min : Int
 ord : Int
 siz : Int
def encA (x : Ak) : AV := .agg [I64 x.min, I64 x.ord, I64 x.siz]
theorem ACells (x : Ak) : (encA x).cells = [I64 x.min, I64 x.ord, I64 x.siz] := rfl
theorem isOrder_ok (n : Int) : RV ft 12 [I64 n] (.bool (inR n 0 99)) := by
 refine RV_of ft12 rfl ?_
 simp only [c12, r12]
 unfold inR
 cases h1 : decide (0 ≤ n) <;> simp only [go_sem, Nat.reduceEqDiff, Nat.reduceAdd, Nat.reduceLT, Nat.reduceLeDiff, reduceIte, h1]
theorem valid_of {h : Hl} {l : List Cl} {m : Int} (hv : validB h l m = true) : lisE h l m = 0 ∧ okH h = true ∧ HB (afterM h l m) 40 ∧ lensM (afterM h l m).seats = h.rows := by
 unfold validB at hv
 rw [Bool.and_eq_true, Bool.and_eq_true, Bool.and_eq_true, beq_iff_eq, decide_eq_true_eq, decide_eq_true_eq] at hv
 have he : lisE h l m = 0 := by
  unfold lisE
  rw [if_pos hv.2.1, if_pos]
  unfold inR
  rw [Bool.and_eq_true, decide_eq_true_eq, decide_eq_true_eq]
  exact hv.2.2
 obtain ⟨ho, _⟩ := chk_ok hv.2.1
 exact ⟨he, ho, after_HB he, lens_after (okH_all ho).1 l m⟩
end Go.Ab.T
end
section
namespace Go.Ab.T
set_option maxRecDepth 8000
set_option maxHeartbeats 4000000
instance : DecidableEq Pc := fun p q => decidable_of_iff (p.st = q.st ∧ p.row = q.row ∧ p.seat = q.seat ∧ p.size = q.size) ⟨fun ⟨a, b, c, d⟩ => by cases p; cases q; cases a; cases b; cases c; cases d; rfl, fun e => by rw [e]; exact ⟨rfl, rfl, rfl, rfl⟩⟩
theorem eqPc (p q : Pc) : eqAV true [.i, .i, .i, .i] (encPc p) (encPc q) = some (decide (p = q)) := by
 have : (p.st == q.st && (p.row == q.row && (p.seat == q.seat && p.size == q.size))) = decide (p = q) := by
  obtain ⟨a, b, c, d⟩ := p
  obtain ⟨a', b', c', d'⟩ := q
  rw [Bool.eq_iff_iff]
  simp
 rw [← this]
 show eqs [.i, .i, .i, .i] [.int .i64 p.st, .int .i64 p.row, .int .i64 p.seat, .int .i64 p.size] [.int .i64 q.st, .int .i64 q.row, .int .i64 q.seat, .int .i64 q.size] = _
 simp only [eqs_i, eqs_nil, Option.map_some, Bool.and_true]
theorem SeatsHold_run (h : Hl) (l : List Cl) (x : Ak) : RV ft 6 [encH h, encCs l, encA x] (.bool true) := by
 refine RV_of ft6 rfl ?_
 simp only [c6, r6]
 have hV := valid_ok h l x.min
 have hO := isOrder_ok x.ord
 have bnz : ((0 : Int) != 0) = false := rfl
 cases hv : validB h l x.min
 ·rw [hv] at hV
  simp only [go_sem, Nat.reduceEqDiff, Nat.reduceAdd, Nat.reduceLT, Nat.reduceLeDiff, reduceIte, HEta, HCells, ACells, snH, hotH, snCs, hotCs, WB11, WVH_eq hV, true_and, WB13, WVH_eq works_ok]
 rw [hv] at hV
 cases ho : inR x.ord 0 99
 ·rw [ho] at hO
  simp only [go_sem, Nat.reduceEqDiff, Nat.reduceAdd, Nat.reduceLT, Nat.reduceLeDiff, reduceIte, HEta, HCells, ACells, snH, hotH, snCs, hotCs, WB11, WVH_eq hV, WB12, WVH_eq hO, true_and, WB13, WVH_eq works_ok]
 rw [ho] at hO
 cases d1 : decide (x.siz < x.min)
 case true => simp only [go_sem, Nat.reduceEqDiff, Nat.reduceAdd, Nat.reduceLT, Nat.reduceLeDiff, reduceIte, HEta, HCells, ACells, snH, hotH, snCs, hotCs, WB11, WVH_eq hV, WB12, WVH_eq hO, true_and, d1, WB13, WVH_eq works_ok]
 cases d2 : decide (9999 < x.siz)
 case true => simp only [go_sem, Nat.reduceEqDiff, Nat.reduceAdd, Nat.reduceLT, Nat.reduceLeDiff, reduceIte, HEta, HCells, ACells, snH, hotH, snCs, hotCs, WB11, WVH_eq hV, WB12, WVH_eq hO, true_and, d1, d2, WB13, WVH_eq works_ok]
 have d1' := of_decide_eq_false d1
 have d2' := of_decide_eq_false d2
 obtain ⟨he, hok, hHB, hlens⟩ := valid_of hv
 obtain ⟨hc, hm0, hm1⟩ := lisE_ok he
 obtain ⟨_, _, hcv, hnc⟩ := chk_ok hc
 obtain ⟨_, _, hh1, hh2⟩ := okH_all hok
 have he2 : lisE h l x.siz = 0 := by
  unfold lisE; rw [if_pos hc, if_pos]
  unfold inR; rw [Bool.and_eq_true, decide_eq_true_eq, decide_eq_true_eq]; omega
 have hR1 := Order_ok h l x.min x.ord
 have hR2 := Order_ok h l x.siz x.ord
 have hE1 : ordE h l x.min x.ord = 0 := by unfold ordE; rw [if_pos he, if_pos ho]
 have hE2 : ordE h l x.siz x.ord = 0 := by unfold ordE; rw [if_pos he2, if_pos ho]
 have hM1 : ordM h l x.min x.ord = plcM (afterM h l x.min) x.ord := by unfold ordM; rw [if_pos hE1]
 have hM2 : ordM h l x.siz x.ord = plcM (afterM h l x.siz) x.ord := by unfold ordM; rw [if_pos hE2]
 rw [hE1, hM1] at hR1
 rw [hE2, hM2] at hR2
 have hI := hHB.inv
 have w1 : IntKind.i64.wrap (x.min + h.hold) = x.min + h.hold := wrap_i64 _ (by omega) (by omega)
 have PcEta0 : AV.agg [.int .i64 0, I64 (-1), I64 (-1), .int .i64 0] = encPc ⟨0, -1, -1, 0⟩ := rfl
 have PcEta5 : ∀ n : Int, AV.agg [I64 5, I64 (-1), I64 (-1), I64 n] = encPc ⟨5, -1, -1, n⟩ := fun _ => rfl
 rcases plcM_spec hI x.ord with ⟨e, _⟩ | ⟨y, hy, _, e⟩
 ·rw [e] at hR1
  have k2 : ((0 : Int) == 2) = false := rfl
  have k3 : ((0 : Int) == 3) = false := rfl
  have k1 : ((0 : Int) == 1) = false := rfl
  have k4 : ((0 : Int) == 4) = false := rfl
  have k5 : ((0 : Int) == 5) = false := rfl
  simp only [go_sem, Nat.reduceEqDiff, Nat.reduceAdd, Nat.reduceLT, Nat.reduceLeDiff, reduceIte, HEta, HCells, ACells, snH, hotH, snCs, hotCs, WB11, WVH_eq hV, WB12, WVH_eq hO, true_and, d1, d2, WB14, WVH_eq hR1, WVH_eq hR2, bnz, PcCells, PcEta, PcEta0, PcEta5, List.getElem?_cons_zero, List.getElem?_cons_succ, w1, eqPc, Bool.false_eq_true, if_false, if_true, k1, k2, k3, k4, k5, decide_true, WB13, WVH_eq works_ok]
 obtain ⟨z, hz, hg, hhold⟩ := later_plc (m' := x.siz) hcv (by omega) hy hI
 have hs := hI.sts _ hy
 dsimp only at hs
 rw [e] at hR1
 rw [hz] at hR2
 have hcase : y.pc.st = 1 ∨ y.pc.st = 2 ∨ y.pc.st = 3 ∨ y.pc.st = 4 ∨ y.pc.st = 5 := by omega
 rcases hcase with k | k | k | k | k
 ·have hzy := hg.gone (by omega) (by omega)
  rw [hzy] at hR2
  have k2 : (y.pc.st == 2) = false := by rw [k]; rfl
  have k3 : (y.pc.st == 3) = false := by rw [k]; rfl
  have k1 : (y.pc.st == 1) = true := by rw [k]; rfl
  simp only [go_sem, Nat.reduceEqDiff, Nat.reduceAdd, Nat.reduceLT, Nat.reduceLeDiff, reduceIte, HEta, HCells, ACells, snH, hotH, snCs, hotCs, WB11, WVH_eq hV, WB12, WVH_eq hO, true_and, d1, d2, WB14, WVH_eq hR1, WVH_eq hR2, bnz, PcCells, PcEta, PcEta0, PcEta5, List.getElem?_cons_zero, List.getElem?_cons_succ, w1, eqPc, Bool.false_eq_true, if_false, if_true, k1, k2, k3, decide_true, WB13, WVH_eq works_ok]
 ·have hh := hg.held k
  have hsz := hg.sz
  have k2 : (y.pc.st == 2) = true := by rw [k]; rfl
  have q0 : (z.pc.st != 0) = true := by
   rcases hh with e | e | e | e
   ·rw [e, k]; rfl
   ·rw [e]; rfl
   ·rw [e]; rfl
   ·rw [e]; rfl
  have q1 : (z.pc.st != 1) = true := by
   rcases hh with e | e | e | e
   ·rw [e, k]; rfl
   ·rw [e]; rfl
   ·rw [e]; rfl
   ·rw [e]; rfl
  have q3 : (z.pc.size == y.pc.size) = true := by rw [hsz]; simp
  cases d3 : decide (x.siz < x.min + h.hold)
  ·have q2 : (z.pc.st != 2) = true := by
    have := of_decide_eq_false d3
    rw [bne_iff_ne]
    intro e
    have := hhold e
    omega
   simp only [go_sem, Nat.reduceEqDiff, Nat.reduceAdd, Nat.reduceLT, Nat.reduceLeDiff, reduceIte, HEta, HCells, ACells, snH, hotH, snCs, hotCs, WB11, WVH_eq hV, WB12, WVH_eq hO, true_and, d1, d2, WB14, WVH_eq hR1, WVH_eq hR2, bnz, PcCells, PcEta, PcEta0, PcEta5, List.getElem?_cons_zero, List.getElem?_cons_succ, w1, eqPc, Bool.false_eq_true, if_false, if_true, k2, d3, q0, q1, q2, q3, WB13, WVH_eq works_ok]
  ·simp only [go_sem, Nat.reduceEqDiff, Nat.reduceAdd, Nat.reduceLT, Nat.reduceLeDiff, reduceIte, HEta, HCells, ACells, snH, hotH, snCs, hotCs, WB11, WVH_eq hV, WB12, WVH_eq hO, true_and, d1, d2, WB14, WVH_eq hR1, WVH_eq hR2, bnz, PcCells, PcEta, PcEta0, PcEta5, List.getElem?_cons_zero, List.getElem?_cons_succ, w1, eqPc, Bool.false_eq_true, if_false, if_true, k2, d3, q0, q1, q3, WB13, WVH_eq works_ok]
 ·have k2 : (y.pc.st == 2) = false := by rw [k]; rfl
  have k3 : (y.pc.st == 3) = true := by rw [k]; rfl
  rcases hg.sold k with e | e
  ·rw [e] at hR2
   simp only [go_sem, Nat.reduceEqDiff, Nat.reduceAdd, Nat.reduceLT, Nat.reduceLeDiff, reduceIte, HEta, HCells, ACells, snH, hotH, snCs, hotCs, WB11, WVH_eq hV, WB12, WVH_eq hO, true_and, d1, d2, WB14, WVH_eq hR1, WVH_eq hR2, bnz, PcCells, PcEta, PcEta0, PcEta5, List.getElem?_cons_zero, List.getElem?_cons_succ, w1, eqPc, Bool.false_eq_true, if_false, if_true, k2, k3, decide_true, WB13, WVH_eq works_ok]
  ·rw [e] at hR2
   have ne : decide ((outO y 5).pc = y.pc) = false := decide_eq_false fun e' => by
    have := congrArg Pc.st e'
    rw [k] at this
    exact absurd (show (5 : Int) = 3 from this) (by decide)
   have eq5 : decide ((outO y 5).pc = ⟨5, -1, -1, y.pc.size⟩) = true := decide_eq_true rfl
   simp only [go_sem, Nat.reduceEqDiff, Nat.reduceAdd, Nat.reduceLT, Nat.reduceLeDiff, reduceIte, HEta, HCells, ACells, snH, hotH, snCs, hotCs, WB11, WVH_eq hV, WB12, WVH_eq hO, true_and, d1, d2, WB14, WVH_eq hR1, WVH_eq hR2, bnz, PcCells, PcEta, PcEta0, PcEta5, List.getElem?_cons_zero, List.getElem?_cons_succ, w1, eqPc, Bool.false_eq_true, if_false, if_true, k2, k3, ne, eq5, WB13, WVH_eq works_ok]
 ·have hzy := hg.gone (by omega) (by omega)
  rw [hzy] at hR2
  have k2 : (y.pc.st == 2) = false := by rw [k]; rfl
  have k3 : (y.pc.st == 3) = false := by rw [k]; rfl
  have k1 : (y.pc.st == 1) = false := by rw [k]; rfl
  have k4 : (y.pc.st == 4) = true := by rw [k]; rfl
  simp only [go_sem, Nat.reduceEqDiff, Nat.reduceAdd, Nat.reduceLT, Nat.reduceLeDiff, reduceIte, HEta, HCells, ACells, snH, hotH, snCs, hotCs, WB11, WVH_eq hV, WB12, WVH_eq hO, true_and, d1, d2, WB14, WVH_eq hR1, WVH_eq hR2, bnz, PcCells, PcEta, PcEta0, PcEta5, List.getElem?_cons_zero, List.getElem?_cons_succ, w1, eqPc, Bool.false_eq_true, if_false, if_true, k1, k2, k3, k4, decide_true, WB13, WVH_eq works_ok]
 ·have hzy := hg.gone (by omega) (by omega)
  rw [hzy] at hR2
  have k2 : (y.pc.st == 2) = false := by rw [k]; rfl
  have k3 : (y.pc.st == 3) = false := by rw [k]; rfl
  have k1 : (y.pc.st == 1) = false := by rw [k]; rfl
  have k4 : (y.pc.st == 4) = false := by rw [k]; rfl
  have k5 : (y.pc.st == 5) = true := by rw [k]; rfl
  simp only [go_sem, Nat.reduceEqDiff, Nat.reduceAdd, Nat.reduceLT, Nat.reduceLeDiff, reduceIte, HEta, HCells, ACells, snH, hotH, snCs, hotCs, WB11, WVH_eq hV, WB12, WVH_eq hO, true_and, d1, d2, WB14, WVH_eq hR1, WVH_eq hR2, bnz, PcCells, PcEta, PcEta0, PcEta5, List.getElem?_cons_zero, List.getElem?_cons_succ, w1, eqPc, Bool.false_eq_true, if_false, if_true, k1, k2, k3, k4, k5, decide_true, WB13, WVH_eq works_ok]
end Go.Ab.T
end
