/-
 A part of the proofs over this seat.
 (The texts KhK27 KhK29 KhK30, one behind the other.)
-/
import Derived.Test.YtlmhadnbcmjaeaaP9
import Derived.Test.YtlmhadnbcmjaeaaP1
set_option linter.unusedSimpArgs false
set_option linter.unusedVariables false
set_option linter.unusedSectionVars false
section
namespace Go.Ab.T
set_option maxRecDepth 8000
set_option maxHeartbeats 4000000
structure Ak where
 min : Int
 ord : Int
 siz : Int
def encA (x : Ak) : AV := .agg [I64 x.min, I64 x.ord, I64 x.siz]
theorem ACells (x : Ak) : (encA x).cells = [I64 x.min, I64 x.ord, I64 x.siz] := rfl
theorem Rows_len (m : Mem) (s : List (List Int)) : lenAt m (encRows s) = some (I64 s.length) := by unfold encRows; rw [lenAt_sl, List.length_map]
theorem Rows_idx {s : List (List Int)} {k : Nat} {x : List Int} (h : s[k]? = some x) (m : Mem) : idxAt m (encRows s) (I64 (k : Int)) 1 = some (.pv (encIs x) 0) := by
 have hk : k < s.length := (List.getElem?_eq_some_iff.1 h).1
 unfold encRows
 rw [idxAt_sl]
 simp [h]
 rfl
theorem snRows (m : Mem) (q : Nat) (s : List (List Int)) : Ab.snap m (q + 4) (encRows s) = encRows s := by
 show AV.sl ((s.map encIs).map (Ab.snap m (q + 3))) .unk = _
 rw [List.map_map, show Ab.snap m (q + 3) ∘ encIs = encIs from funext (fun r => snIs m (q + 1) r)]; rfl
theorem hotRows (q : Nat) (s : List (List Int)) : hot (q + 4) (encRows s) = false := by
 show (s.map encIs).any (hot (q + 3)) = false
 rw [List.any_map, List.any_eq_false]; intro r _
 simp only [Function.comp]
 rw [show hot (q + 3) (encIs r) = false from hotIs (q + 1) r]; decide
theorem fits_ok (h : Hl) (s : List (List Int)) (hs : s.length ≤ 1000) : RV ft 16 [encH h, encRows s] (.bool (decide (lensM s = h.rows))) := by
 refine RV_of ft16 rfl ?_
 simp only [c16, r16]
 simp only [go_sem, Nat.reduceEqDiff, Nat.reduceAdd, Nat.reduceLT, Nat.reduceLeDiff, reduceIte, HCells]
 refine WL_inv (α := Nat) (fun q e mm => e 1 = encRows s ∧ e 2 = .ptr 0 0 0 ∧ e 5 = I64 q ∧ q ≤ s.length ∧ q ≤ h.rows.length ∧ (∀ i, i < q → (lensM s)[i]? = h.rows[i]?) ∧ mm = ⟨[.live [encH h] 2], []⟩) (fun q => s.length - q) 0 ?_ ?_
 ·simp only [go_sem, Nat.reduceEqDiff, Nat.reduceAdd, Nat.reduceLT, Nat.reduceLeDiff, reduceIte]
  exact ⟨trivial, trivial, rfl, by first | trivial | omega, by first | trivial | omega, fun i hi => by omega, trivial⟩
 rintro q e mm ⟨g1, g2, g5, q1, q2, hq, rfl⟩
 have hgl : ∀ i, (lensM s)[i]? = s[i]?.map fun (r : List Int) => (r.length : Int) := fun i => by unfold lensM; rw [List.getElem?_map]
 have hll : (lensM s).length = s.length := by unfold lensM; rw [List.length_map]
 by_cases c1 : q < s.length
 ·by_cases c2 : q < h.rows.length
  ·have i1 : s[q]? = some s[q] := List.getElem?_eq_getElem c1
   have i2 : h.rows[q]? = some h.rows[q] := List.getElem?_eq_getElem c2
   generalize s[q] = x at i1
   generalize h.rows[q] = y at i2
   cases c3 : ((x.length : Int) != y)
   ·have c3' : (x.length : Int) = y := by simpa using c3
    simp only [go_sem, Nat.reduceEqDiff, Nat.reduceAdd, Nat.reduceLT, Nat.reduceLeDiff, reduceIte, g1, g2, g5, HCells, Rows_len, Rows_idx i1, Is_len, Is_idx i2, dec_lt c1, dec_lt c2, c3, wrap_n1 q (by omega)]
    refine Nx_of (q + 1) (by omega) ?_
    simp only [go_sem, Nat.reduceEqDiff, Nat.reduceAdd, Nat.reduceLT, Nat.reduceLeDiff, reduceIte, g1, g2]
    refine ⟨trivial, trivial, trivial, by first | trivial | omega, by first | trivial | omega, fun i hi => ?_, trivial⟩
    by_cases e : i = q
    ·subst e; rw [hgl, i1, i2, Option.map_some, c3']
    ·exact hq i (by omega)
   ·have c3' : (x.length : Int) ≠ y := by simpa using c3
    simp only [go_sem, Nat.reduceEqDiff, Nat.reduceAdd, Nat.reduceLT, Nat.reduceLeDiff, reduceIte, g1, g2, g5, HCells, Rows_len, Rows_idx i1, Is_len, Is_idx i2, dec_lt c1, dec_lt c2, c3]
    congr 1
    exact (decide_eq_false fun e => by
     have := hgl q
     rw [e, i1, i2, Option.map_some] at this
     exact c3' (Option.some.inj this).symm).symm
  ·have e2 : q = h.rows.length := by omega
   simp only [go_sem, Nat.reduceEqDiff, Nat.reduceAdd, Nat.reduceLT, Nat.reduceLeDiff, reduceIte, g1, g2, g5, HCells, Rows_len, Is_len, dec_lt c1, dec_ge (show h.rows.length ≤ q by omega)]
   congr 1
   rw [show ((s.length : Int) == (h.rows.length : Int)) = false by rw [beq_eq_false_iff_ne]; omega]
   exact (decide_eq_false fun e => by
    have := congrArg List.length e
    rw [hll] at this; omega).symm
 ·have e1 : q = s.length := by omega
  simp only [go_sem, Nat.reduceEqDiff, Nat.reduceAdd, Nat.reduceLT, Nat.reduceLeDiff, reduceIte, g1, g2, g5, HCells, Rows_len, Is_len, dec_ge (show s.length ≤ q by omega)]
  congr 1
  rw [Bool.eq_iff_iff, beq_iff_eq, decide_eq_true_eq]
  constructor
  ·intro e
   apply List.ext_getElem?
   intro i
   by_cases hi : i < q
   ·exact hq i hi
   ·rw [List.getElem?_eq_none (by rw [hll]; omega), List.getElem?_eq_none (by omega)]
  ·intro e
   have := congrArg List.length e
   rw [hll] at this; omega
theorem valid_of {h : Hl} {l : List Cl} {m : Int} (hv : validB h l m = true) : lisE h l m = 0 ∧ okH h = true ∧ HB (afterM h l m) 40 ∧ lensM (afterM h l m).seats = h.rows := by
 unfold validB at hv
 rw [Bool.and_eq_true, Bool.and_eq_true, Bool.and_eq_true, beq_iff_eq, decide_eq_true_eq, decide_eq_true_eq] at hv
 have he : lisE h l m = 0 := by
  unfold lisE
  rw [if_pos hv.2.1, if_pos]
  unfold inR
  rw [Bool.and_eq_true, decide_eq_true_eq, decide_eq_true_eq]
  exact hv.2.2
 obtain ⟨ho, _⟩ := chk_ok hv.2.1
 exact ⟨he, ho, after_HB he, lens_after (okH_all ho).1 l m⟩
end Go.Ab.T
end
section
namespace Go.Ab.T
set_option maxRecDepth 8000
set_option maxHeartbeats 4000000
instance : DecidableEq Pc := fun p q => decidable_of_iff (p.st = q.st ∧ p.row = q.row ∧ p.seat = q.seat ∧ p.size = q.size) ⟨fun ⟨a, b, c, d⟩ => by cases p; cases q; cases a; cases b; cases c; cases d; rfl, fun e => by rw [e]; exact ⟨rfl, rfl, rfl, rfl⟩⟩
theorem eqPc (p q : Pc) : eqAV true [.i, .i, .i, .i] (encPc p) (encPc q) = some (decide (p = q)) := by
 have : (p.st == q.st && (p.row == q.row && (p.seat == q.seat && p.size == q.size))) = decide (p = q) := by
  obtain ⟨a, b, c, d⟩ := p
  obtain ⟨a', b', c', d'⟩ := q
  rw [Bool.eq_iff_iff]
  simp
 rw [← this]
 show eqs [.i, .i, .i, .i] [.int .i64 p.st, .int .i64 p.row, .int .i64 p.seat, .int .i64 p.size] [.int .i64 q.st, .int .i64 q.row, .int .i64 q.seat, .int .i64 q.size] = _
 simp only [eqs_i, eqs_nil, Option.map_some, Bool.and_true]
end Go.Ab.T
end
section
namespace Go.Ab.T
set_option maxRecDepth 8000
set_option maxHeartbeats 4000000
theorem apart_psl (a b c : Nat) (es : List AV) (t : Tk) : apart (.ptr a b c) (.sl es t) = true := rfl
theorem ap0C (bl : List Blk) (l : List Cl) (hl : l.length ≤ 1000) : ∃ v1 t1, appendAt ⟨bl, []⟩ false (.sl [] .tight) (encCs l) 44 5 40 = some (v1, ⟨bl, t1⟩) ∧ Acc 44 (l.map encC) v1 t1 := by
 have h2 : (0 + l.length) * (40 + 1) ≤ limit := by unfold limit; omega
 cases l with
 | nil => exact ⟨_, _, rfl, Acc_nil 44⟩
 | cons c r =>
  refine ⟨.sl ((c :: r).map encC) (.at 0), [((c :: r).length, 44)], ?_, .inr ⟨by simp, rfl, by simp⟩⟩
  have h1 : hdSz ((c :: r).map encC) 5 = true := rfl
  simp only [appendAt, encCs, Mem.elems, h1, List.length_nil, List.length_map, h2, hdSz, true_and, appTk]
  simp [CCells]
theorem cellsC (l : List Cl) : ∀ e ∈ l.map encC, e.cells.length = 5 := fun e he => by
 obtain ⟨c, _, rfl⟩ := List.mem_map.1 he; rfl
theorem snCsA (m : Mem) (q : Nat) (l : List Cl) (t : Tk) : Ab.snap m (q + 3) (.sl (l.map encC) t) = encCs l := by
 show AV.sl ((l.map encC).map (Ab.snap m (q + 2))) .unk = _
 rw [List.map_map, show Ab.snap m (q + 2) ∘ encC = encC from funext fun c => snC m q c]; rfl
theorem hotCsA (q : Nat) (l : List Cl) (t : Tk) : hot (q + 3) (.sl (l.map encC) t) = false := by
 show (l.map encC).any (hot (q + 2)) = false
 rw [List.any_map, List.any_eq_false]; intro c _
 simp only [Function.comp]
 rw [show hot (q + 2) (encC c) = false from hotC q c]; decide
theorem SeatsGets_run (h : Hl) (l : List Cl) (x : Ak) : RV ft 5 [encH h, encCs l, encA x] (.bool true) := by
 refine RV_of ft5 rfl ?_
 simp only [c5, r5]
 have hV := valid_ok h l x.min
 have bnz : ((0 : Int) != 0) = false := rfl
 cases hv : validB h l x.min
 ·rw [hv] at hV
  simp only [go_sem, Nat.reduceEqDiff, Nat.reduceAdd, Nat.reduceLT, Nat.reduceLeDiff, reduceIte, HEta, HCells, ACells, snH, hotH, snCs, hotCs, List.getElem?_cons_zero, List.getElem?_cons_succ, WB11, WVH_eq hV, true_and, WB13, WVH_eq works_ok]
 rw [hv] at hV
 cases d1 : decide (x.siz < 1)
 case true => simp only [go_sem, Nat.reduceEqDiff, Nat.reduceAdd, Nat.reduceLT, Nat.reduceLeDiff, reduceIte, HEta, HCells, ACells, snH, hotH, snCs, hotCs, List.getElem?_cons_zero, List.getElem?_cons_succ, WB11, WVH_eq hV, true_and, d1, WB13, WVH_eq works_ok]
 cases d2 : decide (12 < x.siz)
 case true => simp only [go_sem, Nat.reduceEqDiff, Nat.reduceAdd, Nat.reduceLT, Nat.reduceLeDiff, reduceIte, HEta, HCells, ACells, snH, hotH, snCs, hotCs, List.getElem?_cons_zero, List.getElem?_cons_succ, WB11, WVH_eq hV, true_and, d1, d2, WB13, WVH_eq works_ok]
 cases d3 : decide (40 ≤ (l.length : Int))
 case true => simp only [go_sem, Nat.reduceEqDiff, Nat.reduceAdd, Nat.reduceLT, Nat.reduceLeDiff, reduceIte, HEta, HCells, ACells, snH, hotH, snCs, hotCs, List.getElem?_cons_zero, List.getElem?_cons_succ, Cs_len, WB11, WVH_eq hV, true_and, d1, d2, d3, WB13, WVH_eq works_ok]
 have d1' := of_decide_eq_false d1
 have d2' := of_decide_eq_false d2
 have d3' := of_decide_eq_false d3
 obtain ⟨zn, hzn⟩ : ∃ zn : Nat, x.siz = zn := ⟨x.siz.toNat, by omega⟩
 obtain ⟨he, hok, hHB, hlens⟩ := valid_of hv
 obtain ⟨hc, hm0, hm1⟩ := lisE_ok he
 obtain ⟨_, _, hcv, hnc⟩ := chk_ok hc
 obtain ⟨hxr, _, hh1, hh2⟩ := okH_all hok
 have hR1 := Map_ok h l x.min
 have hR2 := Best_ok h l x.min x.siz
 have hM1 : mapM h l x.min = (afterM h l x.min).seats := by unfold mapM; rw [if_pos he]
 have hsz : szR x.siz = true := by unfold szR inR; rw [Bool.and_eq_true, decide_eq_true_eq, decide_eq_true_eq]; omega
 have hbE : bstE h l x.min x.siz = if (bestS (afterM h l x.min).seats zn).isSome = true then 0 else 3 := by
  unfold bstE; rw [if_pos he, if_pos hsz, hzn, Int.toNat_natCast]
 have hbM : bstM h l x.min x.siz = bestS (afterM h l x.min).seats zn := by
  unfold bstM
  rw [hbE, hzn, Int.toNat_natCast]
  cases hb : bestS (afterM h l x.min).seats zn with
  | none => rfl
  | some q => rfl
 rw [he, hM1] at hR1
 rw [hbM, hbE] at hR2
 have hI := hHB.inv
 have hslen : (afterM h l x.min).seats.length ≤ 6 := hHB.len
 have hrow12 := hHB.row
 have hfit := fits_ok h (afterM h l x.min).seats (by omega)
 rw [hlens, decide_eq_true rfl] at hfit
 obtain ⟨b, hb⟩ : ∃ b, b = bestS (afterM h l x.min).seats zn := ⟨_, rfl⟩
 rw [← hb] at hR2
 obtain ⟨E, hE⟩ : ∃ E : Int, E = if b.isSome = true then 0 else 3 := ⟨_, rfl⟩
 rw [← hE] at hR2
 have hz1 : 1 ≤ zn := by omega
 obtain ⟨s, hs⟩ : ∃ s, s = (afterM h l x.min).seats := ⟨_, rfl⟩
 rw [← hs] at hR1 hslen hrow12 hfit hb
 -- the last part: an order that asks at last
 have T205 : ∀ (idk : Int), -1 ≤ idk → idk < 99 → (∀ c ∈ l, c.id ≤ idk ∧ c.at' ≤ x.min ∧ c.order ≠ 99) → ∀ e : Nat → AV, e 1 = encCs l → e 3 = .ptr 0 0 0 → e 5 = .ptr 1 0 0 → e 11 = I64 (f4 b) → e 12 = I64 (f5 b) → e 13 = I64 E → e 18 = .sl ((l ++ [(⟨idk + 1, x.min, 1, 99, x.siz⟩ : Cl)]).map encC) (.at 0) → ∀ tk, W ft tl5_T205 ⟨e, ⟨[.live [encH h] 2, .live [encA x] 3], tk⟩⟩ (Fin [.t 6] fun u m => Ab.snap m dep u = .bool true) := by
  intro idk i0 i1 hlc e g1 g3 g5 g11 g12 g13 g18 tk
  simp only [tl5_T205]
  obtain ⟨c, hcd⟩ : ∃ c : Cl, c = ⟨idk + 1, x.min, 1, 99, x.siz⟩ := ⟨_, rfl⟩
  rw [← hcd] at g18
  have hcc : CV c := by rw [hcd]; exact ⟨(by decide : (0 : Int) ≤ 99), (by decide : (99 : Int) ≤ 99), by show 0 ≤ idk + 1; omega, by show idk + 1 ≤ 99; omega, hm0, hm1, .inl ⟨rfl, by show 1 ≤ x.siz; omega, by show x.siz ≤ 12; omega⟩⟩
  obtain ⟨q1, q2, q3⟩ := after_asks (h := h) (L := [c]) (m := x.min) hh1 hnc hcv (fun d hd => (hlc d hd).2.1) (List.pairwise_singleton _ _) (fun d hd => by
   rw [List.mem_singleton] at hd; rw [hd]; exact ⟨hcc, by rw [hcd], by rw [hcd]⟩) (fun d hd d' hd' => by
   rw [List.mem_singleton] at hd'; rw [hd', hcd]; have := (hlc d hd).1; show d.id < idk + 1; omega) (fun u hu v hv _ => by rw [List.mem_singleton] at hu hv; rw [hu, hv])
  have hch := chk_of (l := l ++ [c]) hok (by simp; omega) q3 q2
  have hlis := lis_of hch hm0 hm1
  have hOr := Order_ok h (l ++ [c]) x.min 99
  have hoE : ordE h (l ++ [c]) x.min 99 = 0 := by unfold ordE; rw [if_pos hlis]; rfl
  have hoM : ordM h (l ++ [c]) x.min 99 = plcM (afterM h (l ++ [c]) x.min) 99 := by unfold ordM; rw [if_pos hoE]
  have hlk : lkP (afterM h l x.min).ords c.order = none := by
   cases hl' : lkP (afterM h l x.min).ords c.order with
   | none => rfl
   | some y =>
    have := after_from (h := h) (l := l) (m := x.min) (P := fun n => n ≠ 99) (fun d hd => (hlc d hd).2.2) _ (lkP_mem hl')
    rw [hcd] at this
    exact absurd rfl this
  have hpl := plc_ask hI hcc (by rw [hcd]) hlk
  rw [hoE, hoM, q1] at hOr
  have hco : c.order = 99 := by rw [hcd]
  have hcs : c.size = x.siz := by rw [hcd]
  rw [hco, hcs, hzn, Int.toNat_natCast, ← hs, ← hb] at hpl
  rw [List.foldl_cons, List.foldl_nil, hpl, ← hzn] at hOr
  have eR : ∀ n : Int, AV.agg [I64 1, I64 (-1), I64 (-1), I64 n] = encPc ⟨1, -1, -1, n⟩ := fun _ => rfl
  have eH : ∀ a b n : Int, AV.agg [I64 2, I64 a, I64 b, I64 n] = encPc ⟨2, a, b, n⟩ := fun _ _ _ => rfl
  cases hbb : b with
  | none =>
   rw [hbb] at hOr hE g11 g12
   rw [hE] at g13
   simp only [go_sem, Nat.reduceEqDiff, Nat.reduceAdd, Nat.reduceLT, Nat.reduceLeDiff, reduceIte, g1, g3, g5, g11, g12, g13, g18, HEta, HCells, ACells, snH, hotH, snCs, hotCs, List.getElem?_cons_zero, List.getElem?_cons_succ, snCsA, hotCsA, WB14, WVH_eq hOr, true_and, PcCells, eR, PcEta, eqPc, Option.isSome_none, Bool.false_eq_true, if_false, if_true, decide_true, beq_self_eq_true, show ((3 : Int) == 0) = false from rfl, WB13, WVH_eq works_ok]
  | some q =>
   rw [hbb] at hOr hE g11 g12
   rw [hE] at g13
   simp only [go_sem, Nat.reduceEqDiff, Nat.reduceAdd, Nat.reduceLT, Nat.reduceLeDiff, reduceIte, g1, g3, g5, g11, g12, g13, g18, HEta, HCells, ACells, snH, hotH, snCs, hotCs, List.getElem?_cons_zero, List.getElem?_cons_succ, snCsA, hotCsA, WB14, WVH_eq hOr, true_and, PcCells, eR, eH, PcEta, eqPc, wPc, f4, f5, Option.map_some, Option.getD_some, Option.isSome_some, Bool.false_eq_true, if_false, if_true, decide_true, beq_self_eq_true, WB13, WVH_eq works_ok]
 have T189 : ∀ (idk : Int), -1 ≤ idk → idk ≤ 99 → (∀ c ∈ l, c.id ≤ idk ∧ c.at' ≤ x.min ∧ c.order ≠ 99) → ∀ e : Nat → AV, e 1 = encCs l → e 3 = .ptr 0 0 0 → e 5 = .ptr 1 0 0 → e 7 = I64 idk → e 11 = I64 (f4 b) → e 12 = I64 (f5 b) → e 13 = I64 E → W ft tl5_T189 ⟨e, ⟨[.live [encH h] 2, .live [encA x] 3], []⟩⟩ (Fin [.t 6] fun u m => Ab.snap m dep u = .bool true) := by
  intro idk i0 i1 hlc e g1 g3 g5 g7 g11 g12 g13
  simp only [tl5_T189]
  cases d9 : decide (99 ≤ idk)
  case true => simp only [go_sem, Nat.reduceEqDiff, Nat.reduceAdd, Nat.reduceLT, Nat.reduceLeDiff, reduceIte, g1, g3, g5, g7, d9, WB13, WVH_eq works_ok]
  have d9' := of_decide_eq_false d9
  obtain ⟨v1, t1, ha1, hA1⟩ := ap0C [.live [encH h] 2, .live [encA x] 3] l (by omega)
  have w1 : IntKind.i64.wrap (idk + 1) = idk + 1 := wrap_i64 _ (by omega) (by omega)
  have eC : AV.agg [I64 (idk + 1), I64 x.min, I64 1, I64 99, I64 x.siz] = encC ⟨idk + 1, x.min, 1, 99, x.siz⟩ := rfl
  simp only [go_sem, Nat.reduceEqDiff, Nat.reduceAdd, Nat.reduceLT, Nat.reduceLeDiff, reduceIte, g1, g3, g5, g7, d9, HEta, HCells, ACells, snH, hotH, snCs, hotCs, List.getElem?_cons_zero, List.getElem?_cons_succ, ha1, w1, eC]
  refine hA1.app (y := encC ⟨idk + 1, x.min, 1, 99, x.siz⟩) (cellsC l) rfl (by rw [List.length_map]; unfold limit; omega) fun v' tk' hA' => ?_
  have hv' : v' = .sl ((l ++ [(⟨idk + 1, x.min, 1, 99, x.siz⟩ : Cl)]).map encC) (.at 0) := by
   rcases hA' with ⟨h1, _⟩ | ⟨_, h2, _⟩
   ·simp at h1
   ·rw [h2, List.map_append]; rfl
  subst hv'
  simp only [go_sem, Nat.reduceEqDiff, Nat.reduceAdd, Nat.reduceLT, Nat.reduceLeDiff, reduceIte, g1, g3, g5, g7, g11, g12, g13, chkAll_cons, apart_psl]
  refine T205 idk i0 (by omega) hlc _ ?_ ?_ ?_ ?_ ?_ ?_ ?_ _
  ·exact g1
  ·exact g3
  ·exact g5
  ·exact g11
  ·exact g12
  ·exact g13
  ·rfl
 have hEb : E = 0 ∨ E = 3 := by rw [hE]; split <;> simp
 have hEs : E = 0 ↔ b.isSome = true := by
  rw [hE]
  cases hbs : b.isSome
  ·rw [if_neg (by decide)]; decide
  ·rw [if_pos rfl]; decide
 have T150 : ∀ (idk Wv : Int), -1 ≤ idk → idk ≤ 99 → (∀ c ∈ l, c.id ≤ idk ∧ c.at' ≤ x.min ∧ c.order ≠ 99) → 0 ≤ Wv → (0 < Wv → ∃ (r i : Nat) (row : List Int), s[r]? = some row ∧ plcR row zn (i : Int) = true ∧ gapR row (i : Int) zn = false) → ∀ e : Nat → AV, e 1 = encCs l → e 3 = .ptr 0 0 0 → e 5 = .ptr 1 0 0 → e 7 = I64 idk → e 9 = encRows s → e 11 = I64 (f4 b) → e 12 = I64 (f5 b) → e 13 = I64 E → e 15 = I64 Wv → W ft tl5_T150 ⟨e, ⟨[.live [encH h] 2, .live [encA x] 3], []⟩⟩ (Fin [.t 6] fun u m => Ab.snap m dep u = .bool true) := by
  intro idk Wn i0 i1 hlc hW0 hW e g1 g3 g5 g7 g9 g11 g12 g13 g15
  simp only [tl5_T150]
  cases dE : (E == 0)
  ·simp only [go_sem, Nat.reduceEqDiff, Nat.reduceAdd, Nat.reduceLT, Nat.reduceLeDiff, reduceIte, g13, dE]
   exact T189 idk i0 i1 hlc _ g1 g3 g5 g7 g11 g12 g13
  ·have hbs := hEs.1 (by simpa using dE)
   cases hbb : b with
   | none => rw [hbb] at hbs; cases hbs
   | some q =>
    have hq := bestS_some hz1 (by rw [← hb, hbb] : bestS s zn = some q)
    obtain ⟨⟨row, hr, hp⟩, hgap⟩ := hq
    have hrl := hrow12 row (List.mem_of_getElem? hr)
    have hql : q.1 < s.length := (List.getElem?_eq_some_iff.1 hr).1
    have hfit2 := plcR_fit hz1 hp
    have hP := IsPlace_ok row (q.2 : Int) zn (by omega) (by omega) (by omega)
    have hG := Gap_ok row (q.2 : Int) (zn : Int) (by omega) (by omega) (by omega) (by omega)
    rw [hp] at hP
    rw [← hzn] at hP hG
    rw [hbb] at g11 g12
    have c1 : decide ((q.1 : Int) < 0) = false := decide_eq_false (by omega)
    have c2 : decide ((s.length : Int) ≤ (q.1 : Int)) = false := decide_eq_false (by omega)
    have c3 : decide ((q.2 : Int) < 0) = false := decide_eq_false (by omega)
    have fin := T189 idk i0 i1 hlc
    rw [hbb] at fin
    cases hg : gapR row (q.2 : Int) x.siz
    ·rw [hg] at hG
     simp only [go_sem, Nat.reduceEqDiff, Nat.reduceAdd, Nat.reduceLT, Nat.reduceLeDiff, reduceIte, g1, g3, g5, g7, g9, g11, g12, g13, g15, dE, f4, f5, Option.map_some, Option.getD_some, Rows_len, c1, c2, c3, Rows_idx hr, HEta, HCells, ACells, snH, hotH, snCs, hotCs, List.getElem?_cons_zero, List.getElem?_cons_succ, WB21, WVH_eq hP, WB22, WVH_eq hG, true_and]
     exact fin _ g1 g3 g5 g7 g11 g12 g13
    ·rw [hg] at hG
     have hWz : decide (0 < Wn) = false := by
      refine decide_eq_false fun hpos => ?_
      obtain ⟨r', i', row', e1, e2, e3⟩ := hW hpos
      have := hgap row hr (by rw [← hzn]; exact hg) r' i' row' e1 e2
      rw [e3] at this; cases this
     simp only [go_sem, Nat.reduceEqDiff, Nat.reduceAdd, Nat.reduceLT, Nat.reduceLeDiff, reduceIte, g1, g3, g5, g7, g9, g11, g12, g13, g15, dE, f4, f5, Option.map_some, Option.getD_some, Rows_len, c1, c2, c3, Rows_idx hr, HEta, HCells, ACells, snH, hotH, snCs, hotCs, List.getElem?_cons_zero, List.getElem?_cons_succ, WB21, WVH_eq hP, WB22, WVH_eq hG, true_and, hWz]
     exact fin _ g1 g3 g5 g7 g11 g12 g13
 have T145 : ∀ (idk P Wv : Int), -1 ≤ idk → idk ≤ 99 → (∀ c ∈ l, c.id ≤ idk ∧ c.at' ≤ x.min ∧ c.order ≠ 99) → (0 < P ↔ ∃ r i, isPl s zn r i) → 0 ≤ Wv → (0 < Wv → ∃ (r i : Nat) (row : List Int), s[r]? = some row ∧ plcR row zn (i : Int) = true ∧ gapR row (i : Int) zn = false) → ∀ e : Nat → AV, e 1 = encCs l → e 3 = .ptr 0 0 0 → e 5 = .ptr 1 0 0 → e 7 = I64 idk → e 9 = encRows s → e 11 = I64 (f4 b) → e 12 = I64 (f5 b) → e 13 = I64 E → e 14 = I64 P → e 15 = I64 Wv → W ft tl5_T145 ⟨e, ⟨[.live [encH h] 2, .live [encA x] 3], []⟩⟩ (Fin [.t 6] fun u m => Ab.snap m dep u = .bool true) := by
  intro idk P Wn i0 i1 hlc hP hW0 hW e g1 g3 g5 g7 g9 g11 g12 g13 g14 g15
  simp only [tl5_T145]
  have hbp : (E == 0) = decide (0 < P) := by
   rw [Bool.eq_iff_iff, beq_iff_eq, decide_eq_true_eq, hEs, hP, hb]
   cases hbb : bestS s zn with
   | none =>
    have := (bestS_none hz1).1 hbb
    constructor
    ·intro h; cases h
    ·rintro ⟨r, i, h⟩; exact absurd h (this r i)
   | some q => exact ⟨fun _ => ⟨q.1, q.2, (bestS_some hz1 hbb).1⟩, fun _ => rfl⟩
  cases dP : decide (0 < P)
  ·rw [dP] at hbp
   simp only [go_sem, Nat.reduceEqDiff, Nat.reduceAdd, Nat.reduceLT, Nat.reduceLeDiff, reduceIte, g1, g13, g14, hbp, dP, Bool.false_eq_true, if_false, if_true, beq_self_eq_true, Bool.not_true]
   exact T150 idk Wn i0 i1 hlc hW0 hW _ g1 g3 g5 g7 g9 g11 g12 g13 g15
  ·rw [dP] at hbp
   simp only [go_sem, Nat.reduceEqDiff, Nat.reduceAdd, Nat.reduceLT, Nat.reduceLeDiff, reduceIte, g1, g13, g14, hbp, dP, Bool.false_eq_true, if_false, if_true, beq_self_eq_true, Bool.not_true]
   exact T150 idk Wn i0 i1 hlc hW0 hW _ g1 g3 g5 g7 g9 g11 g12 g13 g15
 have T14 : ∀ (idk : Int), -1 ≤ idk → idk ≤ 99 → (∀ c ∈ l, c.id ≤ idk ∧ c.at' ≤ x.min ∧ c.order ≠ 99) → ∀ e : Nat → AV, e 1 = encCs l → e 3 = .ptr 0 0 0 → e 5 = .ptr 1 0 0 → e 7 = I64 idk → e 9 = encRows s → e 11 = I64 (f4 b) → e 12 = I64 (f5 b) → e 13 = I64 E → W ft tl5_T14 ⟨e, ⟨[.live [encH h] 2, .live [encA x] 3], []⟩⟩ (Fin [.t 6] fun u m => Ab.snap m dep u = .bool true) := by
  intro idk i0 i1 hlc e g1 g3 g5 g7 g9 g11 g12 g13
  simp only [tl5_T14]
  simp only [go_sem, Nat.reduceEqDiff, Nat.reduceAdd, Nat.reduceLT, Nat.reduceLeDiff, reduceIte]
  refine WL_inv (α := Nat × Int × Int × List (List Int)) (fun q e mm => e 1 = encCs l ∧ e 3 = .ptr 0 0 0 ∧ e 5 = .ptr 1 0 0 ∧ e 7 = I64 idk ∧ e 9 = encRows s ∧ e 11 = I64 (f4 b) ∧ e 12 = I64 (f5 b) ∧ e 13 = I64 E ∧ e 14 = I64 q.2.1 ∧ e 15 = I64 q.2.2.1 ∧ e 16 = I64 q.1 ∧ s.drop q.1 = q.2.2.2 ∧ 0 ≤ q.2.2.1 ∧ q.2.2.1 ≤ q.2.1 ∧ q.2.1 ≤ 100 * (q.1 : Int) ∧ (0 < q.2.1 ↔ ∃ r i, r < q.1 ∧ isPl s zn r i) ∧ (0 < q.2.2.1 → ∃ (r i : Nat) (row : List Int), s[r]? = some row ∧ plcR row zn (i : Int) = true ∧ gapR row (i : Int) zn = false) ∧ mm = ⟨[.live [encH h] 2, .live [encA x] 3], []⟩) (fun q => q.2.2.2.length) (0, 0, 0, s) ?_ ?_
  ·simp only [go_sem, Nat.reduceEqDiff, Nat.reduceAdd, Nat.reduceLT, Nat.reduceLeDiff, reduceIte, g1, g3, g5, g7, g9, g11, g12, g13]
   refine ⟨trivial, trivial, trivial, trivial, trivial, trivial, trivial, trivial, trivial, trivial, rfl, trivial, by first | trivial | omega, by first | trivial | omega, by first | trivial | omega, ?_, ?_, trivial⟩
   ·constructor
    ·intro h; omega
    ·rintro ⟨r, i, h, _⟩; omega
   ·intro h; omega
  clear g1 g3 g5 g7 g9 g11 g12 g13 e
  rintro ⟨k, P, Wn, r⟩ e mm ⟨g1, g3, g5, g7, g9, g11, g12, g13, g14, g15, g16, hd, w0, w1, w2, hP, hW, rfl⟩
  dsimp only at g14 g15 g16 hd w0 w1 w2 hP hW
  cases r with
  | nil =>
   have h3 := drop_nil hd
   simp only [go_sem, Nat.reduceEqDiff, Nat.reduceAdd, Nat.reduceLT, Nat.reduceLeDiff, reduceIte, g1, g3, g5, g7, g9, g11, g12, g13, g14, g15, g16, Rows_len, dec_ge h3]
   refine T145 idk P Wn i0 i1 hlc ?_ w0 hW _ g1 g3 g5 g7 g9 g11 g12 g13 g14 g15
   rw [hP]
   constructor
   ·rintro ⟨r, i, _, h⟩; exact ⟨r, i, h⟩
   ·rintro ⟨r, i, h⟩
    obtain ⟨row, hr, _⟩ := h
    have := (List.getElem?_eq_some_iff.1 hr).1
    exact ⟨r, i, by omega, row, hr, by assumption⟩
  | cons row r =>
   obtain ⟨hk, hd2, hlt⟩ := drop_cons hd
   have hrl := hrow12 row (List.mem_of_getElem? hk)
   simp only [go_sem, Nat.reduceEqDiff, Nat.reduceAdd, Nat.reduceLT, Nat.reduceLeDiff, reduceIte, g1, g3, g5, g7, g9, g11, g12, g13, g14, g15, g16, Rows_len, dec_lt hlt]
   refine WL_inv (α := Nat × Int × Int) (fun q e mm => e 1 = encCs l ∧ e 3 = .ptr 0 0 0 ∧ e 5 = .ptr 1 0 0 ∧ e 7 = I64 idk ∧ e 9 = encRows s ∧ e 11 = I64 (f4 b) ∧ e 12 = I64 (f5 b) ∧ e 13 = I64 E ∧ e 14 = I64 q.2.1 ∧ e 15 = I64 q.2.2 ∧ e 16 = I64 k ∧ e 17 = I64 q.1 ∧ q.1 ≤ row.length ∧ 0 ≤ q.2.2 ∧ q.2.2 ≤ q.2.1 ∧ q.2.1 ≤ 100 * (k : Int) + q.1 ∧ (0 < q.2.1 ↔ ∃ r i, (r < k ∨ (r = k ∧ i < q.1)) ∧ isPl s zn r i) ∧ (0 < q.2.2 → ∃ (r i : Nat) (row : List Int), s[r]? = some row ∧ plcR row zn (i : Int) = true ∧ gapR row (i : Int) zn = false) ∧ mm = ⟨[.live [encH h] 2, .live [encA x] 3], []⟩) (fun q => row.length - q.1) (0, P, Wn) ?_ ?_
   ·simp only [go_sem, Nat.reduceEqDiff, Nat.reduceAdd, Nat.reduceLT, Nat.reduceLeDiff, reduceIte, g1, g3, g5, g7, g9, g11, g12, g13, g14, g15, g16]
    refine ⟨trivial, trivial, trivial, trivial, trivial, trivial, trivial, trivial, trivial, trivial, trivial, rfl, by first | trivial | omega, by first | trivial | omega, by first | trivial | omega, by first | trivial | omega, ?_, hW, trivial⟩
    rw [hP]
    constructor
    ·rintro ⟨r, i, h, h2⟩; exact ⟨r, i, .inl h, h2⟩
    ·rintro ⟨r, i, h | ⟨_, h⟩, h2⟩
     ·exact ⟨r, i, h, h2⟩
     ·omega
   clear g1 g3 g5 g7 g9 g11 g12 g13 g14 g15 g16 e hP hW w0 w1 w2
   rintro ⟨j, P2, W2⟩ e mm ⟨g1, g3, g5, g7, g9, g11, g12, g13, g14, g15, g16, g17, hj, w0, w1, w2, hP, hW, rfl⟩
   dsimp only at g14 g15 g17 hj w0 w1 w2 hP hW
   by_cases hjl : j < row.length
   case neg =>
    simp only [go_sem, Nat.reduceEqDiff, Nat.reduceAdd, Nat.reduceLT, Nat.reduceLeDiff, reduceIte, g1, g3, g5, g7, g9, g11, g12, g13, g14, g15, g16, g17, Rows_idx hk, Is_len, dec_ge (show row.length ≤ j by omega), wrap_n1 k (by omega)]
    refine Nx_of (k + 1, P2, W2, r) (by simp) ?_
    simp only [go_sem, Nat.reduceEqDiff, Nat.reduceAdd, Nat.reduceLT, Nat.reduceLeDiff, reduceIte, g1, g3, g5, g7, g9, g11, g12, g13, g14, g15]
    refine ⟨trivial, trivial, trivial, trivial, trivial, trivial, trivial, trivial, trivial, trivial, trivial, hd2, w0, w1, by push_cast; omega, ?_, hW, trivial⟩
    rw [hP]
    constructor
    ·rintro ⟨r, i, h | ⟨h, _⟩, h2⟩
     ·exact ⟨r, i, by omega, h2⟩
     ·exact ⟨r, i, by omega, h2⟩
    ·rintro ⟨r, i, h, h2⟩
     by_cases hrk : r < k
     ·exact ⟨r, i, .inl hrk, h2⟩
     ·have hrk' : r = k := by omega
      refine ⟨r, i, .inr ⟨hrk', ?_⟩, h2⟩
      obtain ⟨row', hr', hp'⟩ := h2
      rw [hrk', hk] at hr'
      cases hr'
      have := plcR_fit hz1 hp'
      omega
   have hP1 := IsPlace_ok row (j : Int) zn (by omega) (by omega) (by omega)
   have hG1 := Gap_ok row (j : Int) (zn : Int) (by omega) (by omega) (by omega) (by omega)
   rw [← hzn] at hP1 hG1
   have wP : IntKind.i64.wrap (P2 + 1) = P2 + 1 := wrap_i64 _ (by omega) (by omega)
   have wW : IntKind.i64.wrap (W2 + 1) = W2 + 1 := wrap_i64 _ (by omega) (by omega)
   cases hp : plcR row zn (j : Int)
   ·rw [hp] at hP1
    simp only [go_sem, Nat.reduceEqDiff, Nat.reduceAdd, Nat.reduceLT, Nat.reduceLeDiff, reduceIte, g1, g3, g5, g7, g9, g11, g12, g13, g14, g15, g16, g17, Rows_idx hk, Is_len, dec_lt hjl, HEta, HCells, ACells, snH, hotH, snCs, hotCs, List.getElem?_cons_zero, List.getElem?_cons_succ, snIs, hotIs, WB21, WVH_eq hP1, true_and, wrap_n1 j (by omega)]
    refine Nx_of (j + 1, P2, W2) (by dsimp only; omega) ?_
    simp only [go_sem, Nat.reduceEqDiff, Nat.reduceAdd, Nat.reduceLT, Nat.reduceLeDiff, reduceIte, g1, g3, g5, g7, g9, g11, g12, g13, g14, g15, g16]
    refine ⟨trivial, trivial, trivial, trivial, trivial, trivial, trivial, trivial, trivial, trivial, trivial, trivial, by first | trivial | omega, w0, w1, by push_cast; omega, ?_, hW, trivial⟩
    rw [hP]
    constructor
    ·rintro ⟨r, i, h, h2⟩; exact ⟨r, i, by omega, h2⟩
    ·rintro ⟨r, i, h, h2⟩
     by_cases hij : r = k ∧ i = j
     ·obtain ⟨row', hr', hp'⟩ := h2
      rw [hij.1, hk] at hr'
      cases hr'
      rw [hij.2, hp] at hp'; cases hp'
     ·exact ⟨r, i, by omega, h2⟩
   ·rw [hp] at hP1
    have hPl : isPl s zn k j := ⟨row, hk, hp⟩
    cases hg : gapR row (j : Int) x.siz
    ·rw [hg] at hG1
     simp only [go_sem, Nat.reduceEqDiff, Nat.reduceAdd, Nat.reduceLT, Nat.reduceLeDiff, reduceIte, g1, g3, g5, g7, g9, g11, g12, g13, g14, g15, g16, g17, Rows_idx hk, Is_len, dec_lt hjl, HEta, HCells, ACells, snH, hotH, snCs, hotCs, List.getElem?_cons_zero, List.getElem?_cons_succ, snIs, hotIs, WB21, WVH_eq hP1, WB22, WVH_eq hG1, true_and, wP, wW, wrap_n1 j (by omega)]
     refine Nx_of (j + 1, P2 + 1, W2 + 1) (by dsimp only; omega) ?_
     simp only [go_sem, Nat.reduceEqDiff, Nat.reduceAdd, Nat.reduceLT, Nat.reduceLeDiff, reduceIte, g1, g3, g5, g7, g9, g11, g12, g13, g16]
     refine ⟨trivial, trivial, trivial, trivial, trivial, trivial, trivial, trivial, trivial, trivial, trivial, trivial, by first | trivial | omega, by omega, by omega, by push_cast; omega, ?_, fun _ => ⟨k, j, row, hk, hp, by rw [← hzn]; exact hg⟩, trivial⟩
     exact ⟨fun _ => ⟨k, j, by omega, hPl⟩, fun _ => by omega⟩
    ·rw [hg] at hG1
     simp only [go_sem, Nat.reduceEqDiff, Nat.reduceAdd, Nat.reduceLT, Nat.reduceLeDiff, reduceIte, g1, g3, g5, g7, g9, g11, g12, g13, g14, g15, g16, g17, Rows_idx hk, Is_len, dec_lt hjl, HEta, HCells, ACells, snH, hotH, snCs, hotCs, List.getElem?_cons_zero, List.getElem?_cons_succ, snIs, hotIs, WB21, WVH_eq hP1, WB22, WVH_eq hG1, true_and, wP, wrap_n1 j (by omega)]
     refine Nx_of (j + 1, P2 + 1, W2) (by dsimp only; omega) ?_
     simp only [go_sem, Nat.reduceEqDiff, Nat.reduceAdd, Nat.reduceLT, Nat.reduceLeDiff, reduceIte, g1, g3, g5, g7, g9, g11, g12, g13, g15, g16]
     refine ⟨trivial, trivial, trivial, trivial, trivial, trivial, trivial, trivial, trivial, trivial, trivial, trivial, by first | trivial | omega, by omega, by omega, by push_cast; omega, ?_, hW, trivial⟩
     exact ⟨fun _ => ⟨k, j, by omega, hPl⟩, fun _ => by omega⟩
 -- the calls are looked at
 simp only [go_sem, Nat.reduceEqDiff, Nat.reduceAdd, Nat.reduceLT, Nat.reduceLeDiff, reduceIte, HEta, HCells, ACells, snH, hotH, snCs, hotCs, List.getElem?_cons_zero, List.getElem?_cons_succ, Cs_len, WB11, WVH_eq hV, true_and, d1, d2, d3]
 refine WL_inv (α := Nat × Int × List Cl) (fun q e mm => e 1 = encCs l ∧ e 3 = .ptr 0 0 0 ∧ e 5 = .ptr 1 0 0 ∧ e 7 = I64 q.2.1 ∧ e 8 = I64 q.1 ∧ l.drop q.1 = q.2.2 ∧ -1 ≤ q.2.1 ∧ q.2.1 ≤ 99 ∧ (∀ c ∈ l.take q.1, c.id ≤ q.2.1 ∧ c.at' ≤ x.min ∧ c.order ≠ 99) ∧ mm = ⟨[.live [encH h] 2, .live [encA x] 3], []⟩) (fun q => q.2.2.length) (0, -1, l) ?_ ?_
 ·simp only [go_sem, Nat.reduceEqDiff, Nat.reduceAdd, Nat.reduceLT, Nat.reduceLeDiff, reduceIte]
  refine ⟨trivial, trivial, trivial, trivial, rfl, trivial, by first | trivial | omega, by first | trivial | omega, fun c hc => ?_, trivial⟩
  cases hc
 rintro ⟨k, idk, r⟩ e mm ⟨g1, g3, g5, g7, g8, hd, i0, i1, hlc, rfl⟩
 dsimp only at g7 g8 hd i0 i1 hlc
 cases r with
 | cons c r =>
  obtain ⟨hk, hd2, hlt⟩ := drop_cons hd
  have hcc := hcv c (List.mem_of_getElem? hk)
  have := hcc.i0; have := hcc.i1
  cases e1 : decide (x.min < c.at')
  case true => simp only [go_sem, Nat.reduceEqDiff, Nat.reduceAdd, Nat.reduceLT, Nat.reduceLeDiff, reduceIte, g1, g3, g5, g7, g8, HEta, HCells, ACells, snH, hotH, snCs, hotCs, List.getElem?_cons_zero, List.getElem?_cons_succ, Cs_len, dec_lt hlt, Cs_idx hk, CCells, e1, WB13, WVH_eq works_ok, true_and]
  cases e2 : (c.order == 99)
  case true => simp only [go_sem, Nat.reduceEqDiff, Nat.reduceAdd, Nat.reduceLT, Nat.reduceLeDiff, reduceIte, g1, g3, g5, g7, g8, HEta, HCells, ACells, snH, hotH, snCs, hotCs, List.getElem?_cons_zero, List.getElem?_cons_succ, Cs_len, dec_lt hlt, Cs_idx hk, CCells, e1, e2, WB13, WVH_eq works_ok, true_and]
  have e1' := of_decide_eq_false e1
  have e2' : c.order ≠ 99 := by simpa using e2
  simp only [go_sem, Nat.reduceEqDiff, Nat.reduceAdd, Nat.reduceLT, Nat.reduceLeDiff, reduceIte, g1, g3, g5, g7, g8, HEta, HCells, ACells, snH, hotH, snCs, hotCs, List.getElem?_cons_zero, List.getElem?_cons_succ, Cs_len, dec_lt hlt, Cs_idx hk, CCells, e1, e2, wrap_n1 k (by omega)]
  refine Nx_of (k + 1, max idk c.id, r) (by simp) ?_
  simp only [go_sem, Nat.reduceEqDiff, Nat.reduceAdd, Nat.reduceLT, Nat.reduceLeDiff, reduceIte, g1, g3, g5]
  refine ⟨trivial, trivial, trivial, by first | trivial | rfl, trivial, hd2, by first | trivial | omega, by first | trivial | omega, fun d hd' => ?_, trivial⟩
  rw [take_snoc hk] at hd'
  rcases List.mem_append.1 hd' with hd' | hd'
  ·have := hlc d hd'; exact ⟨by omega, this.2⟩
  ·rw [List.mem_singleton] at hd'
   subst hd'
   exact ⟨by omega, by omega, e2'⟩
 | nil =>
  have h3 := drop_nil hd
  have hlc' : ∀ c ∈ l, c.id ≤ idk ∧ c.at' ≤ x.min ∧ c.order ≠ 99 := fun c hc => hlc c (by rw [List.take_of_length_le h3]; exact hc)
  rcases hEb with hE0 | hE0
  ·simp only [go_sem, Nat.reduceEqDiff, Nat.reduceAdd, Nat.reduceLT, Nat.reduceLeDiff, reduceIte, g1, g3, g5, g7, g8, HEta, HCells, ACells, snH, hotH, snCs, hotCs, List.getElem?_cons_zero, List.getElem?_cons_succ, Cs_len, dec_ge h3, WB15, WVH_eq hR1, WB20, WVH_eq hR2, WB16, snRows, hotRows, WVH_eq hfit, true_and, bnz, hE0, show ((0 : Int) != 0) = false from rfl]
   exact T14 idk i0 i1 hlc' _ g1 g3 g5 g7 rfl rfl rfl (by rw [hE0]; rfl)
  ·simp only [go_sem, Nat.reduceEqDiff, Nat.reduceAdd, Nat.reduceLT, Nat.reduceLeDiff, reduceIte, g1, g3, g5, g7, g8, HEta, HCells, ACells, snH, hotH, snCs, hotCs, List.getElem?_cons_zero, List.getElem?_cons_succ, Cs_len, dec_ge h3, WB15, WVH_eq hR1, WB20, WVH_eq hR2, WB16, snRows, hotRows, WVH_eq hfit, true_and, bnz, hE0, show ((3 : Int) != 0) = true from rfl, show ((3 : Int) != 3) = false from rfl]
   exact T14 idk i0 i1 hlc' _ g1 g3 g5 g7 rfl rfl rfl (by rw [hE0]; rfl)
end Go.Ab.T
end
