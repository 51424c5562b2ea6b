/-
  A part of the proofs over this seat.
  (The texts KrK18, one behind the other.)
-/
import Derived.Test.YtnkdfekbifcglaaP13
set_option linter.unusedSimpArgs false
set_option linter.unusedVariables false
set_option linter.unusedSectionVars false
section
namespace Go.Ab.T
set_option maxRecDepth 8000
set_option maxHeartbeats 10000000
theorem More_neg (h : Ho) (T : Int) (x : Mr) (hX : readyB h T = true ∧ (0 ≤ x.mi ∧ x.mi ≤ 10) ∧ (0 ≤ x.wd ∧ x.wd ≤ 20) ∧ (0 ≤ x.wk ∧ x.wk ≤ 9)) (hro : x.ro < 0) : RV ft 8 [encH h, I64 T, encX x] (.bool true) := by
  refine RV_of ft8 rfl ?_
  simp only [c8, r8]
  have hR := ready_ok h T
  obtain ⟨hr, ⟨x1, x2⟩, ⟨x3, x4⟩, x5, x6⟩ := hX
  rw [hr] at hR
  have b1 : decide (x.mi < 0) = false := decide_eq_false (by omega)
  have b2 : decide (10 < x.mi) = false := decide_eq_false (by omega)
  have b3 : decide (x.wd < 0) = false := decide_eq_false (by omega)
  have b4 : decide (20 < x.wd) = false := decide_eq_false (by omega)
  have b5 : decide (x.wk < 0) = false := decide_eq_false (by omega)
  have b6 : decide (9 < x.wk) = false := decide_eq_false (by omega)
  obtain ⟨hV, n3, s5, a12, hT0, hT10⟩ := ready_iff'.1 hr
  obtain ⟨n, m1, m2⟩ := Most_ok hV hT0 (show T ≤ 60 by omega)
  obtain ⟨n2, m3, m4⟩ := Most_ok hV (show (0 : Int) ≤ min 10 (T + x.mi) by omega) (show min 10 (T + x.mi) ≤ 60 by omega)
  have w1 := wrap_i64 (T + x.mi) (by omega) (by omega)
  have d1 : decide (n2 < n) = false := decide_eq_false (by have := IsM.grow hV hT0 (show T ≤ min 10 (T + x.mi) by omega) m1 m3; omega)
  have n30 : ((3 : Int) == 0) = false := rfl
  have r0 : decide (x.ro < 0) = true := decide_eq_true hro
  have r1 : True := trivial
  simp only [go_sem, Nat.reduceEqDiff, Nat.reduceAdd, Nat.reduceLT, Nat.reduceLeDiff, reduceIte, HEta, XSolid, XCells, WB35, WVH_eq hR, true_and, b1, b2, b3, b4, b5, b6, WB21, WVH_eq m2, WVH_eq m4, bne_self_eq_false, w1, d1, WB13]
  generalize hD : upd _ _ _ = D
  have D1 : D 1 = I64 T ∧ D 3 = .ptr 0 0 0 ∧ D 5 = .ptr 1 0 0 ∧ D 7 = I64 n := by rw [← hD]; simp only [go_sem, Nat.reduceEqDiff, Nat.reduceAdd, Nat.reduceLT, Nat.reduceLeDiff, reduceIte, and_self]
  clear hD; obtain ⟨D1, D3, D5, D7⟩ := D1
  refine Copy_W hV.pne (by omega) (by omega) (fun he => ?_) fun he => ?_
  · have hsh : Ab.shift 2 0 12 (.agg [.ref 2 0 h.p.length, .sl [] .tight]) = .agg [.ref 4 0 h.p.length, .sl [] .tight] := rfl
    obtain ⟨X1, hX1⟩ : ∃ X, X = shiftB 2 0 12 (.live [encH h] 2) := ⟨_, rfl⟩
    obtain ⟨X2, hX2⟩ : ∃ X, X = shiftB 2 0 12 (.live [.agg [.ref 2 0 h.p.length, .sl [] .tight]] 2) := ⟨_, rfl⟩
    have z5 : decide (((0 : Nat) : Int) < 5) = true := rfl
    cases c0 : decide (0 ≤ x.pa)
    · simp only [go_sem, Nat.reduceEqDiff, Nat.reduceAdd, Nat.reduceLT, Nat.reduceLeDiff, reduceIte, D1, D3, D5, D7, joinMem, shI, shP, shR, hsh, ← hX1, ← hX2, HEta, PEta, XCells, WB35, c0, z5, apA]
      refine ⟨trivial, ?_⟩
      generalize hE : upd _ _ _ = E
      have E1 : E 1 = I64 T ∧ E 3 = .ptr 0 0 0 ∧ E 5 = .ptr 1 0 0 ∧ E 7 = I64 n ∧ E 11 = .ptr 5 0 0 := by rw [← hE]; simp only [go_sem, Nat.reduceEqDiff, Nat.reduceAdd, Nat.reduceLT, Nat.reduceLeDiff, reduceIte, D1, D3, D5, D7, and_self]
      clear hE; obtain ⟨E1, E3, E5, E7, E11⟩ := E1
      obtain ⟨g, hgd⟩ : ∃ g : Ho, g = ⟨h.p, [x.an]⟩ := ⟨_, rfl⟩
      have hs := fun M => hsnN M h.p [x.an] h.p.length rfl
      rw [← hgd] at hs
      simp only [List.map_cons, List.map_nil] at hs
      have hW : Wider h g := by rw [hgd]; exact ⟨rfl, by rw [he]; simp, fun i hi => by rw [he] at hi; simp at hi⟩
      rcases More_g hV hW hT0 hT10 m1 with y1 | ⟨k2, ea, ec, y1, y2, y3, y4, y5, y6⟩ | ⟨k2, ea, ec, ed, y1, y2, y3, y4, y5⟩ <;>
        first
        | simp only [go_sem, Nat.reduceEqDiff, Nat.reduceAdd, Nat.reduceLT, Nat.reduceLeDiff, reduceIte, E1, E3, E5, E7, E11, hs, WVH_eq y1, true_and, WB21, WVH_eq y2, WB29, HEta, WVH_eq y4, WVH_eq y5, y3, y6, bne_self_eq_false, XCells, r0, r1, HCells, WB13, WB12, WVH_eq works_ok]
        | simp only [go_sem, Nat.reduceEqDiff, Nat.reduceAdd, Nat.reduceLT, Nat.reduceLeDiff, reduceIte, E1, E3, E5, E7, E11, hs, WVH_eq y1, true_and, WB21, WVH_eq y2, WB29, HEta, WVH_eq y4, WVH_eq y5, y3, n30, bne_self_eq_false, XCells, r0, r1, HCells, WB13, WB12, WVH_eq works_ok]
        | simp only [go_sem, Nat.reduceEqDiff, Nat.reduceAdd, Nat.reduceLT, Nat.reduceLeDiff, reduceIte, E1, E3, E5, E7, E11, hs, WVH_eq y1, true_and, XCells, r0, r1, HEta, HCells, WB13, WB12, WVH_eq works_ok]
    · have c1 : decide (x.pa < ((0 : Nat) : Int)) = false := decide_eq_false (by have := of_decide_eq_true c0; omega)
      simp only [go_sem, Nat.reduceEqDiff, Nat.reduceAdd, Nat.reduceLT, Nat.reduceLeDiff, reduceIte, D1, D3, D5, D7, joinMem, shI, shP, shR, hsh, ← hX1, ← hX2, HEta, PEta, XCells, WB35, c0, c1, z5, apA]
      refine ⟨trivial, ?_⟩
      generalize hE : upd _ _ _ = E
      have E1 : E 1 = I64 T ∧ E 3 = .ptr 0 0 0 ∧ E 5 = .ptr 1 0 0 ∧ E 7 = I64 n ∧ E 11 = .ptr 5 0 0 := by rw [← hE]; simp only [go_sem, Nat.reduceEqDiff, Nat.reduceAdd, Nat.reduceLT, Nat.reduceLeDiff, reduceIte, D1, D3, D5, D7, and_self]
      clear hE; obtain ⟨E1, E3, E5, E7, E11⟩ := E1
      obtain ⟨g, hgd⟩ : ∃ g : Ho, g = ⟨h.p, [x.an]⟩ := ⟨_, rfl⟩
      have hs := fun M => hsnN M h.p [x.an] h.p.length rfl
      rw [← hgd] at hs
      simp only [List.map_cons, List.map_nil] at hs
      have hW : Wider h g := by rw [hgd]; exact ⟨rfl, by rw [he]; simp, fun i hi => by rw [he] at hi; simp at hi⟩
      rcases More_g hV hW hT0 hT10 m1 with y1 | ⟨k2, ea, ec, y1, y2, y3, y4, y5, y6⟩ | ⟨k2, ea, ec, ed, y1, y2, y3, y4, y5⟩ <;>
        first
        | simp only [go_sem, Nat.reduceEqDiff, Nat.reduceAdd, Nat.reduceLT, Nat.reduceLeDiff, reduceIte, E1, E3, E5, E7, E11, hs, WVH_eq y1, true_and, WB21, WVH_eq y2, WB29, HEta, WVH_eq y4, WVH_eq y5, y3, y6, bne_self_eq_false, XCells, r0, r1, HCells, WB13, WB12, WVH_eq works_ok]
        | simp only [go_sem, Nat.reduceEqDiff, Nat.reduceAdd, Nat.reduceLT, Nat.reduceLeDiff, reduceIte, E1, E3, E5, E7, E11, hs, WVH_eq y1, true_and, WB21, WVH_eq y2, WB29, HEta, WVH_eq y4, WVH_eq y5, y3, n30, bne_self_eq_false, XCells, r0, r1, HCells, WB13, WB12, WVH_eq works_ok]
        | simp only [go_sem, Nat.reduceEqDiff, Nat.reduceAdd, Nat.reduceLT, Nat.reduceLeDiff, reduceIte, E1, E3, E5, E7, E11, hs, WVH_eq y1, true_and, XCells, r0, r1, HEta, HCells, WB13, WB12, WVH_eq works_ok]
  · have hsh : Ab.shift 2 0 12 (.agg [.ref 2 0 h.p.length, .ref 3 0 h.s.length]) = .agg [.ref 4 0 h.p.length, .ref 5 0 h.s.length] := rfl
    obtain ⟨X1, hX1⟩ : ∃ X, X = shiftB 2 0 12 (.live [encH h] 2) := ⟨_, rfl⟩
    obtain ⟨X2, hX2⟩ : ∃ X, X = shiftB 2 0 12 (.live [.agg [.ref 2 0 h.p.length, .ref 3 0 h.s.length]] 2) := ⟨_, rfl⟩
    have apS := fun (bl : List Blk) tk => apB (bl := bl) (tk := tk) (id := 5) (l := h.s) x.an (by omega)
    by_cases hin : 0 ≤ x.pa ∧ x.pa < (h.s.length : Int)
    · obtain ⟨k, hk⟩ := Int.eq_ofNat_of_zero_le hin.1
      have hkl : k < h.s.length := by omega
      have c0 : decide (0 ≤ x.pa) = true := decide_eq_true hin.1
      have c1 : decide (x.pa < (h.s.length : Int)) = true := decide_eq_true hin.2
      have c2 : decide ((0 ≤ x.pa ∧ x.pa < (h.s.length : Int)) ∧ True) = true := decide_eq_true ⟨hin, trivial⟩
      have e0 : 0 + x.pa.toNat = k := by omega
      have hq := pq_get hkl
      obtain ⟨q0, q1, q2, q3, q4, q5, q6, q7, q8⟩ := hV.sv _ (pq_mem hkl)
      have hg : (h.s.map encP)[k]? = some (encP (pq h k)) := by rw [List.getElem?_map, hq]; rfl
      have w5 := wrap_i64 ((pq h k).wd + x.wd) (by omega) (by omega)
      have w6 := wrap_i64 ((pq h k).wk - x.wk) (by omega) (by omega)
      have n17 : ((1 : Nat) != 7) = true := rfl
      have sM : (h.s.map encP).set k (encP (widQ x (pq h k))) = (h.s.set k (widQ x (pq h k))).map encP := by rw [List.map_set]
      have wE1 : writeCells (encP (pq h k)) 2 [.int .i64 (min 20 ((pq h k).wd + x.wd))] = some (encP ⟨(pq h k).fr, (pq h k).to, min 20 ((pq h k).wd + x.wd), (pq h k).wk⟩) := rfl
      have wE2 : writeCells (encP ⟨(pq h k).fr, (pq h k).to, min 20 ((pq h k).wd + x.wd), (pq h k).wk⟩) 3 [.int .i64 (max 1 ((pq h k).wk - x.wk))] = some (encP (widQ x (pq h k))) := rfl
      have wE3 : writeCells (encP (pq h k)) 0 [I64 (widQ x (pq h k)).fr, I64 (widQ x (pq h k)).to, I64 (widQ x (pq h k)).wd, I64 (widQ x (pq h k)).wk] = some (encP (widQ x (pq h k))) := rfl
      have sL : (h.s.set k (widQ x (pq h k))).length = h.s.length := by simp
      have apS2 := fun (bl : List Blk) tk => apB (bl := bl) (tk := tk) (id := 5) (l := h.s.set k (widQ x (pq h k))) x.an (by omega)
      rw [sL] at apS2
      have hrel : k < h.s.length → (widQ x (pq h k)).fr = (pq h k).fr ∧ (widQ x (pq h k)).to = (pq h k).to ∧ (pq h k).wd ≤ (widQ x (pq h k)).wd ∧ (widQ x (pq h k)).wk ≤ (pq h k).wk := fun _ => ⟨rfl, rfl, by show _ ≤ min 20 _; omega, by show max 1 _ ≤ _; omega⟩
      cases d5 : decide ((h.s.length : Int) < 5)
      · simp only [go_sem, Nat.reduceEqDiff, Nat.reduceAdd, Nat.reduceLT, Nat.reduceLeDiff, reduceIte, D1, D3, D5, D7, joinMem, shI, shP, shR, hsh, ← hX1, ← hX2, HEta, PEta, XCells, WB35, c0, c1, c2, e0, hg, PCells, w5, w6, n17, wE1, wE2, wE3, sM, d5]
        refine ⟨trivial, ?_⟩
        generalize hE : upd _ _ _ = E
        have E1 : E 1 = I64 T ∧ E 3 = .ptr 0 0 0 ∧ E 5 = .ptr 1 0 0 ∧ E 7 = I64 n ∧ E 11 = .ptr 6 0 0 := by rw [← hE]; simp only [go_sem, Nat.reduceEqDiff, Nat.reduceAdd, Nat.reduceLT, Nat.reduceLeDiff, reduceIte, D1, D3, D5, D7, and_self]
        clear hE; obtain ⟨E1, E3, E5, E7, E11⟩ := E1
        obtain ⟨g, hgd⟩ : ∃ g : Ho, g = ⟨h.p, h.s.set k (widQ x (pq h k))⟩ := ⟨_, rfl⟩
        have hs := fun M => (hsnP M h.p (h.s.set k (widQ x (pq h k))) h.p.length (h.s.length) rfl (by simp))
        rw [← hgd] at hs
        have hW : Wider h g := by rw [hgd]; exact by simpa using wider_of k _ [] hrel
        rcases More_g hV hW hT0 hT10 m1 with y1 | ⟨k2, ea, ec, y1, y2, y3, y4, y5, y6⟩ | ⟨k2, ea, ec, ed, y1, y2, y3, y4, y5⟩ <;>
          first
          | simp only [go_sem, Nat.reduceEqDiff, Nat.reduceAdd, Nat.reduceLT, Nat.reduceLeDiff, reduceIte, E1, E3, E5, E7, E11, hs, WVH_eq y1, true_and, WB21, WVH_eq y2, WB29, HEta, WVH_eq y4, WVH_eq y5, y3, y6, bne_self_eq_false, XCells, r0, r1, HCells, WB13, WB12, WVH_eq works_ok]
          | simp only [go_sem, Nat.reduceEqDiff, Nat.reduceAdd, Nat.reduceLT, Nat.reduceLeDiff, reduceIte, E1, E3, E5, E7, E11, hs, WVH_eq y1, true_and, WB21, WVH_eq y2, WB29, HEta, WVH_eq y4, WVH_eq y5, y3, n30, bne_self_eq_false, XCells, r0, r1, HCells, WB13, WB12, WVH_eq works_ok]
          | simp only [go_sem, Nat.reduceEqDiff, Nat.reduceAdd, Nat.reduceLT, Nat.reduceLeDiff, reduceIte, E1, E3, E5, E7, E11, hs, WVH_eq y1, true_and, XCells, r0, r1, HEta, HCells, WB13, WB12, WVH_eq works_ok]
      · simp only [go_sem, Nat.reduceEqDiff, Nat.reduceAdd, Nat.reduceLT, Nat.reduceLeDiff, reduceIte, D1, D3, D5, D7, joinMem, shI, shP, shR, hsh, ← hX1, ← hX2, HEta, PEta, XCells, WB35, c0, c1, c2, e0, hg, PCells, w5, w6, n17, wE1, wE2, wE3, sM, d5, apS2]
        refine ⟨trivial, ?_⟩
        generalize hE : upd _ _ _ = E
        have E1 : E 1 = I64 T ∧ E 3 = .ptr 0 0 0 ∧ E 5 = .ptr 1 0 0 ∧ E 7 = I64 n ∧ E 11 = .ptr 6 0 0 := by rw [← hE]; simp only [go_sem, Nat.reduceEqDiff, Nat.reduceAdd, Nat.reduceLT, Nat.reduceLeDiff, reduceIte, D1, D3, D5, D7, and_self]
        clear hE; obtain ⟨E1, E3, E5, E7, E11⟩ := E1
        obtain ⟨g, hgd⟩ : ∃ g : Ho, g = ⟨h.p, h.s.set k (widQ x (pq h k)) ++ [x.an]⟩ := ⟨_, rfl⟩
        have hs := fun M => (hsnP M h.p (h.s.set k (widQ x (pq h k)) ++ [x.an]) h.p.length (h.s.length + 1) rfl (by simp))
        rw [← hgd] at hs
        have hW : Wider h g := by rw [hgd]; exact wider_of k _ [x.an] hrel
        rcases More_g hV hW hT0 hT10 m1 with y1 | ⟨k2, ea, ec, y1, y2, y3, y4, y5, y6⟩ | ⟨k2, ea, ec, ed, y1, y2, y3, y4, y5⟩ <;>
          first
          | simp only [go_sem, Nat.reduceEqDiff, Nat.reduceAdd, Nat.reduceLT, Nat.reduceLeDiff, reduceIte, E1, E3, E5, E7, E11, hs, WVH_eq y1, true_and, WB21, WVH_eq y2, WB29, HEta, WVH_eq y4, WVH_eq y5, y3, y6, bne_self_eq_false, XCells, r0, r1, HCells, WB13, WB12, WVH_eq works_ok]
          | simp only [go_sem, Nat.reduceEqDiff, Nat.reduceAdd, Nat.reduceLT, Nat.reduceLeDiff, reduceIte, E1, E3, E5, E7, E11, hs, WVH_eq y1, true_and, WB21, WVH_eq y2, WB29, HEta, WVH_eq y4, WVH_eq y5, y3, n30, bne_self_eq_false, XCells, r0, r1, HCells, WB13, WB12, WVH_eq works_ok]
          | simp only [go_sem, Nat.reduceEqDiff, Nat.reduceAdd, Nat.reduceLT, Nat.reduceLeDiff, reduceIte, E1, E3, E5, E7, E11, hs, WVH_eq y1, true_and, XCells, r0, r1, HEta, HCells, WB13, WB12, WVH_eq works_ok]
    · cases c0 : decide (0 ≤ x.pa)
      · cases d5 : decide ((h.s.length : Int) < 5)
        · simp only [go_sem, Nat.reduceEqDiff, Nat.reduceAdd, Nat.reduceLT, Nat.reduceLeDiff, reduceIte, D1, D3, D5, D7, joinMem, shI, shP, shR, hsh, ← hX1, ← hX2, HEta, PEta, XCells, WB35, c0, d5]
          refine ⟨trivial, ?_⟩
          generalize hE : upd _ _ _ = E
          have E1 : E 1 = I64 T ∧ E 3 = .ptr 0 0 0 ∧ E 5 = .ptr 1 0 0 ∧ E 7 = I64 n ∧ E 11 = .ptr 6 0 0 := by rw [← hE]; simp only [go_sem, Nat.reduceEqDiff, Nat.reduceAdd, Nat.reduceLT, Nat.reduceLeDiff, reduceIte, D1, D3, D5, D7, and_self]
          clear hE; obtain ⟨E1, E3, E5, E7, E11⟩ := E1
          obtain ⟨g, hgd⟩ : ∃ g : Ho, g = ⟨h.p, h.s⟩ := ⟨_, rfl⟩
          have hs := fun M => (hsnP M h.p (h.s) h.p.length (h.s.length) rfl (by simp))
          rw [← hgd] at hs
          have hW : Wider h g := by rw [hgd]; exact ⟨rfl, Nat.le_refl _, fun i hi => ⟨rfl, rfl, Int.le_refl _, Int.le_refl _⟩⟩
          rcases More_g hV hW hT0 hT10 m1 with y1 | ⟨k2, ea, ec, y1, y2, y3, y4, y5, y6⟩ | ⟨k2, ea, ec, ed, y1, y2, y3, y4, y5⟩ <;>
            first
            | simp only [go_sem, Nat.reduceEqDiff, Nat.reduceAdd, Nat.reduceLT, Nat.reduceLeDiff, reduceIte, E1, E3, E5, E7, E11, hs, WVH_eq y1, true_and, WB21, WVH_eq y2, WB29, HEta, WVH_eq y4, WVH_eq y5, y3, y6, bne_self_eq_false, XCells, r0, r1, HCells, WB13, WB12, WVH_eq works_ok]
            | simp only [go_sem, Nat.reduceEqDiff, Nat.reduceAdd, Nat.reduceLT, Nat.reduceLeDiff, reduceIte, E1, E3, E5, E7, E11, hs, WVH_eq y1, true_and, WB21, WVH_eq y2, WB29, HEta, WVH_eq y4, WVH_eq y5, y3, n30, bne_self_eq_false, XCells, r0, r1, HCells, WB13, WB12, WVH_eq works_ok]
            | simp only [go_sem, Nat.reduceEqDiff, Nat.reduceAdd, Nat.reduceLT, Nat.reduceLeDiff, reduceIte, E1, E3, E5, E7, E11, hs, WVH_eq y1, true_and, XCells, r0, r1, HEta, HCells, WB13, WB12, WVH_eq works_ok]
        · simp only [go_sem, Nat.reduceEqDiff, Nat.reduceAdd, Nat.reduceLT, Nat.reduceLeDiff, reduceIte, D1, D3, D5, D7, joinMem, shI, shP, shR, hsh, ← hX1, ← hX2, HEta, PEta, XCells, WB35, c0, d5, apS]
          refine ⟨trivial, ?_⟩
          generalize hE : upd _ _ _ = E
          have E1 : E 1 = I64 T ∧ E 3 = .ptr 0 0 0 ∧ E 5 = .ptr 1 0 0 ∧ E 7 = I64 n ∧ E 11 = .ptr 6 0 0 := by rw [← hE]; simp only [go_sem, Nat.reduceEqDiff, Nat.reduceAdd, Nat.reduceLT, Nat.reduceLeDiff, reduceIte, D1, D3, D5, D7, and_self]
          clear hE; obtain ⟨E1, E3, E5, E7, E11⟩ := E1
          obtain ⟨g, hgd⟩ : ∃ g : Ho, g = ⟨h.p, h.s ++ [x.an]⟩ := ⟨_, rfl⟩
          have hs := fun M => (hsnP M h.p (h.s ++ [x.an]) h.p.length (h.s.length + 1) rfl (by simp))
          rw [← hgd] at hs
          have hW : Wider h g := by rw [hgd]; exact by have := wider_of (h := h) h.s.length x.an [x.an] (fun h => absurd h (Nat.lt_irrefl _)); rwa [List.set_eq_of_length_le (Nat.le_refl _)] at this
          rcases More_g hV hW hT0 hT10 m1 with y1 | ⟨k2, ea, ec, y1, y2, y3, y4, y5, y6⟩ | ⟨k2, ea, ec, ed, y1, y2, y3, y4, y5⟩ <;>
            first
            | simp only [go_sem, Nat.reduceEqDiff, Nat.reduceAdd, Nat.reduceLT, Nat.reduceLeDiff, reduceIte, E1, E3, E5, E7, E11, hs, WVH_eq y1, true_and, WB21, WVH_eq y2, WB29, HEta, WVH_eq y4, WVH_eq y5, y3, y6, bne_self_eq_false, XCells, r0, r1, HCells, WB13, WB12, WVH_eq works_ok]
            | simp only [go_sem, Nat.reduceEqDiff, Nat.reduceAdd, Nat.reduceLT, Nat.reduceLeDiff, reduceIte, E1, E3, E5, E7, E11, hs, WVH_eq y1, true_and, WB21, WVH_eq y2, WB29, HEta, WVH_eq y4, WVH_eq y5, y3, n30, bne_self_eq_false, XCells, r0, r1, HCells, WB13, WB12, WVH_eq works_ok]
            | simp only [go_sem, Nat.reduceEqDiff, Nat.reduceAdd, Nat.reduceLT, Nat.reduceLeDiff, reduceIte, E1, E3, E5, E7, E11, hs, WVH_eq y1, true_and, XCells, r0, r1, HEta, HCells, WB13, WB12, WVH_eq works_ok]
      · have c1 : decide (x.pa < (h.s.length : Int)) = false := decide_eq_false (by have := of_decide_eq_true c0; omega)
        cases d5 : decide ((h.s.length : Int) < 5)
        · simp only [go_sem, Nat.reduceEqDiff, Nat.reduceAdd, Nat.reduceLT, Nat.reduceLeDiff, reduceIte, D1, D3, D5, D7, joinMem, shI, shP, shR, hsh, ← hX1, ← hX2, HEta, PEta, XCells, WB35, c0, c1, d5]
          refine ⟨trivial, ?_⟩
          generalize hE : upd _ _ _ = E
          have E1 : E 1 = I64 T ∧ E 3 = .ptr 0 0 0 ∧ E 5 = .ptr 1 0 0 ∧ E 7 = I64 n ∧ E 11 = .ptr 6 0 0 := by rw [← hE]; simp only [go_sem, Nat.reduceEqDiff, Nat.reduceAdd, Nat.reduceLT, Nat.reduceLeDiff, reduceIte, D1, D3, D5, D7, and_self]
          clear hE; obtain ⟨E1, E3, E5, E7, E11⟩ := E1
          obtain ⟨g, hgd⟩ : ∃ g : Ho, g = ⟨h.p, h.s⟩ := ⟨_, rfl⟩
          have hs := fun M => (hsnP M h.p (h.s) h.p.length (h.s.length) rfl (by simp))
          rw [← hgd] at hs
          have hW : Wider h g := by rw [hgd]; exact ⟨rfl, Nat.le_refl _, fun i hi => ⟨rfl, rfl, Int.le_refl _, Int.le_refl _⟩⟩
          rcases More_g hV hW hT0 hT10 m1 with y1 | ⟨k2, ea, ec, y1, y2, y3, y4, y5, y6⟩ | ⟨k2, ea, ec, ed, y1, y2, y3, y4, y5⟩ <;>
            first
            | simp only [go_sem, Nat.reduceEqDiff, Nat.reduceAdd, Nat.reduceLT, Nat.reduceLeDiff, reduceIte, E1, E3, E5, E7, E11, hs, WVH_eq y1, true_and, WB21, WVH_eq y2, WB29, HEta, WVH_eq y4, WVH_eq y5, y3, y6, bne_self_eq_false, XCells, r0, r1, HCells, WB13, WB12, WVH_eq works_ok]
            | simp only [go_sem, Nat.reduceEqDiff, Nat.reduceAdd, Nat.reduceLT, Nat.reduceLeDiff, reduceIte, E1, E3, E5, E7, E11, hs, WVH_eq y1, true_and, WB21, WVH_eq y2, WB29, HEta, WVH_eq y4, WVH_eq y5, y3, n30, bne_self_eq_false, XCells, r0, r1, HCells, WB13, WB12, WVH_eq works_ok]
            | simp only [go_sem, Nat.reduceEqDiff, Nat.reduceAdd, Nat.reduceLT, Nat.reduceLeDiff, reduceIte, E1, E3, E5, E7, E11, hs, WVH_eq y1, true_and, XCells, r0, r1, HEta, HCells, WB13, WB12, WVH_eq works_ok]
        · simp only [go_sem, Nat.reduceEqDiff, Nat.reduceAdd, Nat.reduceLT, Nat.reduceLeDiff, reduceIte, D1, D3, D5, D7, joinMem, shI, shP, shR, hsh, ← hX1, ← hX2, HEta, PEta, XCells, WB35, c0, c1, d5, apS]
          refine ⟨trivial, ?_⟩
          generalize hE : upd _ _ _ = E
          have E1 : E 1 = I64 T ∧ E 3 = .ptr 0 0 0 ∧ E 5 = .ptr 1 0 0 ∧ E 7 = I64 n ∧ E 11 = .ptr 6 0 0 := by rw [← hE]; simp only [go_sem, Nat.reduceEqDiff, Nat.reduceAdd, Nat.reduceLT, Nat.reduceLeDiff, reduceIte, D1, D3, D5, D7, and_self]
          clear hE; obtain ⟨E1, E3, E5, E7, E11⟩ := E1
          obtain ⟨g, hgd⟩ : ∃ g : Ho, g = ⟨h.p, h.s ++ [x.an]⟩ := ⟨_, rfl⟩
          have hs := fun M => (hsnP M h.p (h.s ++ [x.an]) h.p.length (h.s.length + 1) rfl (by simp))
          rw [← hgd] at hs
          have hW : Wider h g := by rw [hgd]; exact by have := wider_of (h := h) h.s.length x.an [x.an] (fun h => absurd h (Nat.lt_irrefl _)); rwa [List.set_eq_of_length_le (Nat.le_refl _)] at this
          rcases More_g hV hW hT0 hT10 m1 with y1 | ⟨k2, ea, ec, y1, y2, y3, y4, y5, y6⟩ | ⟨k2, ea, ec, ed, y1, y2, y3, y4, y5⟩ <;>
            first
            | simp only [go_sem, Nat.reduceEqDiff, Nat.reduceAdd, Nat.reduceLT, Nat.reduceLeDiff, reduceIte, E1, E3, E5, E7, E11, hs, WVH_eq y1, true_and, WB21, WVH_eq y2, WB29, HEta, WVH_eq y4, WVH_eq y5, y3, y6, bne_self_eq_false, XCells, r0, r1, HCells, WB13, WB12, WVH_eq works_ok]
            | simp only [go_sem, Nat.reduceEqDiff, Nat.reduceAdd, Nat.reduceLT, Nat.reduceLeDiff, reduceIte, E1, E3, E5, E7, E11, hs, WVH_eq y1, true_and, WB21, WVH_eq y2, WB29, HEta, WVH_eq y4, WVH_eq y5, y3, n30, bne_self_eq_false, XCells, r0, r1, HCells, WB13, WB12, WVH_eq works_ok]
            | simp only [go_sem, Nat.reduceEqDiff, Nat.reduceAdd, Nat.reduceLT, Nat.reduceLeDiff, reduceIte, E1, E3, E5, E7, E11, hs, WVH_eq y1, true_and, XCells, r0, r1, HEta, HCells, WB13, WB12, WVH_eq works_ok]
end Go.Ab.T
end
