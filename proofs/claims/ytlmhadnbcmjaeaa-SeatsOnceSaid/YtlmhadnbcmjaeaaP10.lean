/-
 A part of the proofs over this seat.
 (The texts KhK27 KhK28, one behind the other.)
-/
import Derived.Test.YtlmhadnbcmjaeaaP9
import Derived.Test.YtlmhadnbcmjaeaaP1
set_option linter.unusedSimpArgs false
set_option linter.unusedVariables false
set_option linter.unusedSectionVars false
section
namespace Go.Ab.T
set_option maxRecDepth 8000
set_option maxHeartbeats 4000000
structure Ak where
 min : Int
 ord : Int
 siz : Int
def encA (x : Ak) : AV := .agg [I64 x.min, I64 x.ord, I64 x.siz]
theorem ACells (x : Ak) : (encA x).cells = [I64 x.min, I64 x.ord, I64 x.siz] := rfl
theorem Rows_len (m : Mem) (s : List (List Int)) : lenAt m (encRows s) = some (I64 s.length) := by unfold encRows; rw [lenAt_sl, List.length_map]
theorem Rows_idx {s : List (List Int)} {k : Nat} {x : List Int} (h : s[k]? = some x) (m : Mem) : idxAt m (encRows s) (I64 (k : Int)) 1 = some (.pv (encIs x) 0) := by
 have hk : k < s.length := (List.getElem?_eq_some_iff.1 h).1
 unfold encRows
 rw [idxAt_sl]
 simp [h]
 rfl
theorem snRows (m : Mem) (q : Nat) (s : List (List Int)) : Ab.snap m (q + 4) (encRows s) = encRows s := by
 show AV.sl ((s.map encIs).map (Ab.snap m (q + 3))) .unk = _
 rw [List.map_map, show Ab.snap m (q + 3) ∘ encIs = encIs from funext (fun r => snIs m (q + 1) r)]; rfl
theorem hotRows (q : Nat) (s : List (List Int)) : hot (q + 4) (encRows s) = false := by
 show (s.map encIs).any (hot (q + 3)) = false
 rw [List.any_map, List.any_eq_false]; intro r _
 simp only [Function.comp]
 rw [show hot (q + 3) (encIs r) = false from hotIs (q + 1) r]; decide
theorem isOrder_ok (n : Int) : RV ft 12 [I64 n] (.bool (inR n 0 99)) := by
 refine RV_of ft12 rfl ?_
 simp only [c12, r12]
 unfold inR
 cases h1 : decide (0 ≤ n) <;> simp only [go_sem, Nat.reduceEqDiff, Nat.reduceAdd, Nat.reduceLT, Nat.reduceLeDiff, reduceIte, h1]
theorem fits_ok (h : Hl) (s : List (List Int)) (hs : s.length ≤ 1000) : RV ft 16 [encH h, encRows s] (.bool (decide (lensM s = h.rows))) := by
 refine RV_of ft16 rfl ?_
 simp only [c16, r16]
 simp only [go_sem, Nat.reduceEqDiff, Nat.reduceAdd, Nat.reduceLT, Nat.reduceLeDiff, reduceIte, HCells]
 refine WL_inv (α := Nat) (fun q e mm => e 1 = encRows s ∧ e 2 = .ptr 0 0 0 ∧ e 5 = I64 q ∧ q ≤ s.length ∧ q ≤ h.rows.length ∧ (∀ i, i < q → (lensM s)[i]? = h.rows[i]?) ∧ mm = ⟨[.live [encH h] 2], []⟩) (fun q => s.length - q) 0 ?_ ?_
 ·simp only [go_sem, Nat.reduceEqDiff, Nat.reduceAdd, Nat.reduceLT, Nat.reduceLeDiff, reduceIte]
  exact ⟨trivial, trivial, rfl, by first | trivial | omega, by first | trivial | omega, fun i hi => by omega, trivial⟩
 rintro q e mm ⟨g1, g2, g5, q1, q2, hq, rfl⟩
 have hgl : ∀ i, (lensM s)[i]? = s[i]?.map fun (r : List Int) => (r.length : Int) := fun i => by unfold lensM; rw [List.getElem?_map]
 have hll : (lensM s).length = s.length := by unfold lensM; rw [List.length_map]
 by_cases c1 : q < s.length
 ·by_cases c2 : q < h.rows.length
  ·have i1 : s[q]? = some s[q] := List.getElem?_eq_getElem c1
   have i2 : h.rows[q]? = some h.rows[q] := List.getElem?_eq_getElem c2
   generalize s[q] = x at i1
   generalize h.rows[q] = y at i2
   cases c3 : ((x.length : Int) != y)
   ·have c3' : (x.length : Int) = y := by simpa using c3
    simp only [go_sem, Nat.reduceEqDiff, Nat.reduceAdd, Nat.reduceLT, Nat.reduceLeDiff, reduceIte, g1, g2, g5, HCells, Rows_len, Rows_idx i1, Is_len, Is_idx i2, dec_lt c1, dec_lt c2, c3, wrap_n1 q (by omega)]
    refine Nx_of (q + 1) (by omega) ?_
    simp only [go_sem, Nat.reduceEqDiff, Nat.reduceAdd, Nat.reduceLT, Nat.reduceLeDiff, reduceIte, g1, g2]
    refine ⟨trivial, trivial, trivial, by first | trivial | omega, by first | trivial | omega, fun i hi => ?_, trivial⟩
    by_cases e : i = q
    ·subst e; rw [hgl, i1, i2, Option.map_some, c3']
    ·exact hq i (by omega)
   ·have c3' : (x.length : Int) ≠ y := by simpa using c3
    simp only [go_sem, Nat.reduceEqDiff, Nat.reduceAdd, Nat.reduceLT, Nat.reduceLeDiff, reduceIte, g1, g2, g5, HCells, Rows_len, Rows_idx i1, Is_len, Is_idx i2, dec_lt c1, dec_lt c2, c3]
    congr 1
    exact (decide_eq_false fun e => by
     have := hgl q
     rw [e, i1, i2, Option.map_some] at this
     exact c3' (Option.some.inj this).symm).symm
  ·have e2 : q = h.rows.length := by omega
   simp only [go_sem, Nat.reduceEqDiff, Nat.reduceAdd, Nat.reduceLT, Nat.reduceLeDiff, reduceIte, g1, g2, g5, HCells, Rows_len, Is_len, dec_lt c1, dec_ge (show h.rows.length ≤ q by omega)]
   congr 1
   rw [show ((s.length : Int) == (h.rows.length : Int)) = false by rw [beq_eq_false_iff_ne]; omega]
   exact (decide_eq_false fun e => by
    have := congrArg List.length e
    rw [hll] at this; omega).symm
 ·have e1 : q = s.length := by omega
  simp only [go_sem, Nat.reduceEqDiff, Nat.reduceAdd, Nat.reduceLT, Nat.reduceLeDiff, reduceIte, g1, g2, g5, HCells, Rows_len, Is_len, dec_ge (show s.length ≤ q by omega)]
  congr 1
  rw [Bool.eq_iff_iff, beq_iff_eq, decide_eq_true_eq]
  constructor
  ·intro e
   apply List.ext_getElem?
   intro i
   by_cases hi : i < q
   ·exact hq i hi
   ·rw [List.getElem?_eq_none (by rw [hll]; omega), List.getElem?_eq_none (by omega)]
  ·intro e
   have := congrArg List.length e
   rw [hll] at this; omega
theorem valid_of {h : Hl} {l : List Cl} {m : Int} (hv : validB h l m = true) : lisE h l m = 0 ∧ okH h = true ∧ HB (afterM h l m) 40 ∧ lensM (afterM h l m).seats = h.rows := by
 unfold validB at hv
 rw [Bool.and_eq_true, Bool.and_eq_true, Bool.and_eq_true, beq_iff_eq, decide_eq_true_eq, decide_eq_true_eq] at hv
 have he : lisE h l m = 0 := by
  unfold lisE
  rw [if_pos hv.2.1, if_pos]
  unfold inR
  rw [Bool.and_eq_true, decide_eq_true_eq, decide_eq_true_eq]
  exact hv.2.2
 obtain ⟨ho, _⟩ := chk_ok hv.2.1
 exact ⟨he, ho, after_HB he, lens_after (okH_all ho).1 l m⟩
end Go.Ab.T
end
section
namespace Go.Ab.T
set_option maxRecDepth 8000
set_option maxHeartbeats 4000000
def tl3_1 : ACode := (.seq (.region [⟨(some 12), none, .mov (.c (.int .i64 0))⟩])
 (.seq (.seq (.region [⟨(some 13), none, .mov (.c (.int .i64 0))⟩])
 (.block 0 (.loop (.seq (.seq (.region [⟨(some 81), none, .mov (.t 13)⟩,
  ⟨(some 82), none, .mov (.t 9)⟩,
  ⟨(some 83), none, .len (.t 82)⟩,
  ⟨(some 84), none, .bin .lss (.t 81) (.t 83)⟩])
 (.cond (.t 84) (.skip)
 (.exit 0)))
 (.seq (.block 1 (.seq (.region [⟨(some 14), none, .mov (.c (.int .i64 0))⟩])
 (.block 2 (.loop (.seq (.seq (.region [⟨(some 87), none, .mov (.t 14)⟩,
  ⟨(some 88), none, .mov (.t 9)⟩,
  ⟨(some 89), none, .mov (.t 13)⟩,
  ⟨(some 90), none, .idx (.t 88) (.t 89) 1⟩,
  ⟨(some 91), none, .load (.t 90) none⟩,
  ⟨(some 92), none, .len (.t 91)⟩,
  ⟨(some 93), none, .bin .lss (.t 87) (.t 92)⟩])
 (.cond (.t 93) (.skip)
 (.exit 2)))
 (.seq (.block 3 (.seq (.region [⟨(some 96), none, .mov (.t 9)⟩,
  ⟨(some 97), none, .mov (.t 13)⟩,
  ⟨(some 98), none, .idx (.t 96) (.t 97) 1⟩,
  ⟨(some 99), none, .load (.t 98) none⟩,
  ⟨(some 100), none, .mov (.t 14)⟩,
  ⟨(some 101), none, .idx (.t 99) (.t 100) 1⟩,
  ⟨(some 102), none, .load (.t 101) none⟩,
  ⟨(some 15), none, .mov (.t 102)⟩])
 (.seq (.seq (.region [⟨(some 103), none, .mov (.t 15)⟩,
  ⟨(some 104), none, .addr (.t 5) 1⟩,
  ⟨(some 105), none, .load (.t 104) none⟩,
  ⟨(some 106), none, .bin .eql (.t 103) (.t 105)⟩])
 (.cond (.t 106) (.seq (.region [⟨(some 107), none, .mov (.t 12)⟩,
  ⟨(some 108), none, .bin .add (.t 107) (.c (.int .i64 1))⟩,
  ⟨(some 12), none, .mov (.t 108)⟩])
 (.seq (.region [⟨(some 109), none, .mov (.t 11)⟩,
  ⟨(some 110), none, .not (.t 109)⟩,
  ⟨(some 111), none, .mov (.t 110)⟩,
  ⟨(some 112), some (111, false), .mov (.t 13)⟩,
  ⟨(some 113), some (111, false), .addr (.t 7) 1⟩,
  ⟨(some 114), some (111, false), .load (.t 113) none⟩,
  ⟨(some 115), some (111, false), .bin .neq (.t 112) (.t 114)⟩,
  ⟨(some 116), none, .pick (.t 111) (.c (.bool true)) (.t 115)⟩,
  ⟨(some 117), none, .mov (.t 116)⟩,
  ⟨(some 118), some (117, false), .mov (.t 14)⟩,
  ⟨(some 119), some (117, false), .addr (.t 7) 2⟩,
  ⟨(some 120), some (117, false), .load (.t 119) none⟩,
  ⟨(some 121), some (117, false), .bin .lss (.t 118) (.t 120)⟩,
  ⟨(some 122), none, .pick (.t 117) (.c (.bool true)) (.t 121)⟩,
  ⟨(some 123), none, .mov (.t 122)⟩,
  ⟨(some 124), some (123, false), .mov (.t 14)⟩,
  ⟨(some 125), some (123, false), .addr (.t 7) 2⟩,
  ⟨(some 126), some (123, false), .load (.t 125) none⟩,
  ⟨(some 127), some (123, false), .addr (.t 7) 3⟩,
  ⟨(some 128), some (123, false), .load (.t 127) none⟩,
  ⟨(some 129), some (123, false), .bin .add (.t 126) (.t 128)⟩,
  ⟨(some 130), some (123, false), .bin .geq (.t 124) (.t 129)⟩,
  ⟨(some 131), none, .pick (.t 123) (.c (.bool true)) (.t 130)⟩])
 (.cond (.t 131) (.seq (.region [⟨(some 6), none, .mov (.c (.bool false))⟩])
 (.ret))
 (.skip))))
 (.skip)))
 (.seq (.seq (.region [⟨(some 132), none, .mov (.t 15)⟩,
  ⟨(some 133), none, .bin .eql (.t 132) (.c (.int .i64 (-1)))⟩])
 (.cond (.t 133) (.exit 3)
 (.skip)))
 (.seq (.region [⟨(some 135), none, .load (.t 3) (some 2)⟩,
  ⟨(some 136), none, .mov (.t 1)⟩,
  ⟨(some 137), none, .addr (.t 5) 0⟩,
  ⟨(some 138), none, .load (.t 137) none⟩,
  ⟨(some 139), none, .mov (.t 15)⟩,
  ⟨(some 140), none, .call 14 [(.t 135), (.t 136), (.t 138), (.t 139)]⟩,
  ⟨(some 134), none, .mov (.t 140)⟩,
  ⟨(some 141), none, .ext (.t 134) 0⟩,
  ⟨(some 142), none, .ext (.t 134) 1⟩,
  ⟨(some 16), none, .new (.agg [(.int .i64 0), (.int .i64 0), (.int .i64 0), (.int .i64 0)]) 4⟩,
  ⟨none, none, .store (.t 16) (.t 141) 4⟩,
  ⟨(some 17), none, .mov (.t 142)⟩])
 (.seq (.region [⟨(some 143), none, .mov (.t 17)⟩,
  ⟨(some 144), none, .bin .neq (.t 143) (.c (.int .i64 0))⟩,
  ⟨(some 145), none, .mov (.t 144)⟩,
  ⟨(some 146), some (145, false), .addr (.t 16) 0⟩,
  ⟨(some 147), some (145, false), .load (.t 146) none⟩,
  ⟨(some 148), some (145, false), .bin .neq (.t 147) (.c (.int .i64 2))⟩,
  ⟨(some 149), some (145, false), .mov (.t 148)⟩,
  ⟨(some 150), some (149, true), .addr (.t 16) 0⟩,
  ⟨(some 151), some (149, true), .load (.t 150) none⟩,
  ⟨(some 152), some (149, true), .bin .neq (.t 151) (.c (.int .i64 3))⟩,
  ⟨(some 153), some (145, false), .pick (.t 149) (.t 152) (.c (.bool false))⟩,
  ⟨(some 154), none, .pick (.t 145) (.c (.bool true)) (.t 153)⟩,
  ⟨(some 155), none, .mov (.t 154)⟩,
  ⟨(some 156), some (155, false), .addr (.t 16) 1⟩,
  ⟨(some 157), some (155, false), .load (.t 156) none⟩,
  ⟨(some 158), some (155, false), .mov (.t 13)⟩,
  ⟨(some 159), some (155, false), .bin .neq (.t 157) (.t 158)⟩,
  ⟨(some 160), none, .pick (.t 155) (.c (.bool true)) (.t 159)⟩,
  ⟨(some 161), none, .mov (.t 160)⟩,
  ⟨(some 162), some (161, false), .mov (.t 14)⟩,
  ⟨(some 163), some (161, false), .addr (.t 16) 2⟩,
  ⟨(some 164), some (161, false), .load (.t 163) none⟩,
  ⟨(some 165), some (161, false), .bin .lss (.t 162) (.t 164)⟩,
  ⟨(some 166), none, .pick (.t 161) (.c (.bool true)) (.t 165)⟩,
  ⟨(some 167), none, .mov (.t 166)⟩,
  ⟨(some 168), some (167, false), .mov (.t 14)⟩,
  ⟨(some 169), some (167, false), .addr (.t 16) 2⟩,
  ⟨(some 170), some (167, false), .load (.t 169) none⟩,
  ⟨(some 171), some (167, false), .addr (.t 16) 3⟩,
  ⟨(some 172), some (167, false), .load (.t 171) none⟩,
  ⟨(some 173), some (167, false), .bin .add (.t 170) (.t 172)⟩,
  ⟨(some 174), some (167, false), .bin .geq (.t 168) (.t 173)⟩,
  ⟨(some 175), none, .pick (.t 167) (.c (.bool true)) (.t 174)⟩])
 (.cond (.t 175) (.seq (.region [⟨(some 6), none, .mov (.c (.bool false))⟩])
 (.ret))
 (.skip))))))))
 (.region [⟨(some 94), none, .mov (.t 14)⟩,
  ⟨(some 95), none, .bin .add (.t 94) (.c (.int .i64 1))⟩,
  ⟨(some 14), none, .mov (.t 95)⟩])))))))
 (.region [⟨(some 85), none, .mov (.t 13)⟩,
  ⟨(some 86), none, .bin .add (.t 85) (.c (.int .i64 1))⟩,
  ⟨(some 13), none, .mov (.t 86)⟩]))))))
 (.seq (.region [⟨(some 176), none, .mov (.t 11)⟩,
  ⟨(some 177), none, .not (.t 176)⟩,
  ⟨(some 178), none, .mov (.t 177)⟩,
  ⟨(some 179), some (178, false), .mov (.t 12)⟩,
  ⟨(some 180), some (178, false), .addr (.t 7) 3⟩,
  ⟨(some 181), some (178, false), .load (.t 180) none⟩,
  ⟨(some 182), some (178, false), .bin .eql (.t 179) (.t 181)⟩,
  ⟨(some 183), none, .pick (.t 178) (.c (.bool true)) (.t 182)⟩,
  ⟨(some 184), none, .mov (.t 183)⟩,
  ⟨(some 185), some (184, true), .call 13 []⟩,
  ⟨(some 186), none, .pick (.t 184) (.t 185) (.c (.bool false))⟩,
  ⟨(some 6), none, .mov (.t 186)⟩])
 (.ret))))
def tl3_0 : ACode := (.seq (.seq (.region [⟨(some 69), none, .mov (.t 11)⟩,
  ⟨(some 70), none, .not (.t 69)⟩,
  ⟨(some 71), none, .mov (.t 70)⟩,
  ⟨(some 72), some (71, true), .addr (.t 7) 1⟩,
  ⟨(some 73), some (71, true), .load (.t 72) none⟩,
  ⟨(some 74), some (71, true), .bin .neq (.t 73) (.c (.int .i64 (-1)))⟩,
  ⟨(some 75), some (71, true), .mov (.t 74)⟩,
  ⟨(some 76), some (75, false), .addr (.t 7) 2⟩,
  ⟨(some 77), some (75, false), .load (.t 76) none⟩,
  ⟨(some 78), some (75, false), .bin .neq (.t 77) (.c (.int .i64 (-1)))⟩,
  ⟨(some 79), some (71, true), .pick (.t 75) (.c (.bool true)) (.t 78)⟩,
  ⟨(some 80), none, .pick (.t 71) (.t 79) (.c (.bool false))⟩])
 (.cond (.t 80) (.seq (.region [⟨(some 6), none, .mov (.c (.bool false))⟩])
 (.ret))
 (.skip)))
 tl3_1)
theorem cut3 : c3 = .seq (.region [⟨(some 3), none, .box (.t 0) 2⟩,
  ⟨(some 5), none, .box (.t 2) 3⟩,
  ⟨(some 6), none, .mov (.c (.bool false))⟩])
 (.seq (.seq (.region [⟨(some 18), none, .load (.t 3) (some 2)⟩,
  ⟨(some 19), none, .mov (.t 1)⟩,
  ⟨(some 20), none, .addr (.t 5) 0⟩,
  ⟨(some 21), none, .load (.t 20) none⟩,
  ⟨(some 22), none, .call 11 [(.t 18), (.t 19), (.t 21)]⟩,
  ⟨(some 23), none, .not (.t 22)⟩,
  ⟨(some 24), none, .mov (.t 23)⟩,
  ⟨(some 25), some (24, false), .addr (.t 5) 1⟩,
  ⟨(some 26), some (24, false), .load (.t 25) none⟩,
  ⟨(some 27), some (24, false), .call 12 [(.t 26)]⟩,
  ⟨(some 28), some (24, false), .not (.t 27)⟩,
  ⟨(some 29), none, .pick (.t 24) (.c (.bool true)) (.t 28)⟩])
 (.cond (.t 29) (.seq (.region [⟨(some 30), none, .call 13 []⟩,
  ⟨(some 6), none, .mov (.t 30)⟩])
 (.ret))
 (.skip)))
 (.seq (.region [⟨(some 32), none, .load (.t 3) (some 2)⟩,
  ⟨(some 33), none, .mov (.t 1)⟩,
  ⟨(some 34), none, .addr (.t 5) 0⟩,
  ⟨(some 35), none, .load (.t 34) none⟩,
  ⟨(some 36), none, .addr (.t 5) 1⟩,
  ⟨(some 37), none, .load (.t 36) none⟩,
  ⟨(some 38), none, .call 14 [(.t 32), (.t 33), (.t 35), (.t 37)]⟩,
  ⟨(some 31), none, .mov (.t 38)⟩,
  ⟨(some 39), none, .ext (.t 31) 0⟩,
  ⟨(some 40), none, .ext (.t 31) 1⟩,
  ⟨(some 7), none, .new (.agg [(.int .i64 0), (.int .i64 0), (.int .i64 0), (.int .i64 0)]) 4⟩,
  ⟨none, none, .store (.t 7) (.t 39) 4⟩,
  ⟨(some 8), none, .mov (.t 40)⟩])
 (.seq (.region [⟨(some 42), none, .load (.t 3) (some 2)⟩,
  ⟨(some 43), none, .mov (.t 1)⟩,
  ⟨(some 44), none, .addr (.t 5) 0⟩,
  ⟨(some 45), none, .load (.t 44) none⟩,
  ⟨(some 46), none, .call 15 [(.t 42), (.t 43), (.t 45)]⟩,
  ⟨(some 41), none, .mov (.t 46)⟩,
  ⟨(some 47), none, .ext (.t 41) 0⟩,
  ⟨(some 48), none, .ext (.t 41) 1⟩,
  ⟨(some 9), none, .mov (.t 47)⟩,
  ⟨(some 10), none, .mov (.t 48)⟩])
 (.seq (.seq (.region [⟨(some 49), none, .mov (.t 8)⟩,
  ⟨(some 50), none, .bin .neq (.t 49) (.c (.int .i64 0))⟩,
  ⟨(some 51), none, .mov (.t 50)⟩,
  ⟨(some 52), some (51, false), .mov (.t 10)⟩,
  ⟨(some 53), some (51, false), .bin .neq (.t 52) (.c (.int .i64 0))⟩,
  ⟨(some 54), none, .pick (.t 51) (.c (.bool true)) (.t 53)⟩,
  ⟨(some 55), none, .mov (.t 54)⟩,
  ⟨(some 56), some (55, false), .load (.t 3) (some 2)⟩,
  ⟨(some 57), some (55, false), .mov (.t 9)⟩,
  ⟨(some 58), some (55, false), .call 16 [(.t 56), (.t 57)]⟩,
  ⟨(some 59), some (55, false), .not (.t 58)⟩,
  ⟨(some 60), none, .pick (.t 55) (.c (.bool true)) (.t 59)⟩])
 (.cond (.t 60) (.seq (.region [⟨(some 6), none, .mov (.c (.bool false))⟩])
 (.ret))
 (.skip)))
 (.seq (.region [⟨(some 61), none, .addr (.t 7) 0⟩,
  ⟨(some 62), none, .load (.t 61) none⟩,
  ⟨(some 63), none, .bin .eql (.t 62) (.c (.int .i64 2))⟩,
  ⟨(some 64), none, .mov (.t 63)⟩,
  ⟨(some 65), some (64, false), .addr (.t 7) 0⟩,
  ⟨(some 66), some (64, false), .load (.t 65) none⟩,
  ⟨(some 67), some (64, false), .bin .eql (.t 66) (.c (.int .i64 3))⟩,
  ⟨(some 68), none, .pick (.t 64) (.c (.bool true)) (.t 67)⟩,
  ⟨(some 11), none, .mov (.t 68)⟩])
 tl3_0))))) := rfl
theorem ownF_row {p : Pc} (hh : p.st = 2 ∨ p.st = 3) {s : List (List Int)} {r0 s0 z0 : Nat} {row0 : List Int} (e1 : p.row = r0) (e2 : p.seat = s0) (e3 : p.size = z0) (e4 : s[r0]? = some row0) (e5 : s0 + z0 ≤ row0.length) {k : Nat} {row : List Int} (hk : s[k]? = some row) : ownF p k row.length = ownF p (k + 1) 0 := by
 unfold ownF
 rw [if_pos hh, if_pos hh, e1, e2, e3]
 by_cases h1 : r0 < k
 ·rw [if_pos (by omega), if_pos (by omega)]
 ·by_cases h2 : r0 = k
  ·subst h2
   rw [hk] at e4; cases e4
   rw [if_neg (by omega), if_pos rfl, if_pos (by omega)]; omega
  ·rw [if_neg (by omega), if_neg (by omega), if_neg (by omega)]
   by_cases h3 : r0 = k + 1
   ·rw [if_pos (by omega)]; omega
   ·rw [if_neg (by omega)]
theorem SeatsOnce_run (h : Hl) (l : List Cl) (x : Ak) : RV ft 3 [encH h, encCs l, encA x] (.bool true) := by
 refine RV_of ft3 rfl ?_
 simp only [cut3, r3]
 have hV := valid_ok h l x.min
 have hO := isOrder_ok x.ord
 cases hv : validB h l x.min
 ·rw [hv] at hV
  simp only [go_sem, Nat.reduceEqDiff, Nat.reduceAdd, Nat.reduceLT, Nat.reduceLeDiff, reduceIte, HEta, HCells, ACells, snH, hotH, snCs, hotCs, WB11, WVH_eq hV, true_and, WB13, WVH_eq works_ok]
 rw [hv] at hV
 cases ho : inR x.ord 0 99
 ·rw [ho] at hO
  simp only [go_sem, Nat.reduceEqDiff, Nat.reduceAdd, Nat.reduceLT, Nat.reduceLeDiff, reduceIte, HEta, HCells, ACells, snH, hotH, snCs, hotCs, WB11, WVH_eq hV, WB12, WVH_eq hO, true_and, WB13, WVH_eq works_ok]
 rw [ho] at hO
 obtain ⟨he, hok, hHB, hlens⟩ := valid_of hv
 have hR1 := Order_ok h l x.min x.ord
 have hR2 := Map_ok h l x.min
 have hE : ordE h l x.min x.ord = 0 := by unfold ordE; rw [if_pos he, if_pos ho]
 have hM : ordM h l x.min x.ord = plcM (afterM h l x.min) x.ord := by unfold ordM; rw [if_pos hE]
 have hM2 : mapM h l x.min = (afterM h l x.min).seats := by unfold mapM; rw [if_pos he]
 have hOrd : ∀ n, 0 ≤ n → n ≤ 99 → RV ft 14 [encH h, encCs l, I64 x.min, I64 n] (.tup [encPc (plcM (afterM h l x.min) n), I64 0]) := fun n n0 n1 => by
  have h1 := Order_ok h l x.min n
  have h2 : ordE h l x.min n = 0 := by
   unfold ordE; rw [if_pos he, if_pos]
   unfold inR; rw [Bool.and_eq_true, decide_eq_true_eq, decide_eq_true_eq]; exact ⟨n0, n1⟩
  have h3 : ordM h l x.min n = plcM (afterM h l x.min) n := by unfold ordM; rw [if_pos h2]
  rw [h2, h3] at h1; exact h1
 rw [hE, hM] at hR1
 rw [he, hM2] at hR2
 have hI := hHB.inv
 have hslen : (afterM h l x.min).seats.length ≤ 6 := hHB.len
 have hrow12 := hHB.row
 generalize afterM h l x.min = S at *
 have hfit := fits_ok h S.seats (by omega)
 rw [hlens, decide_eq_true rfl] at hfit
 have ho' := inR_iff ho
 have bnz : ((0 : Int) != 0) = false := rfl
 obtain ⟨p, hp⟩ : ∃ p, p = plcM S x.ord := ⟨_, rfl⟩
 rw [← hp] at hR1
 obtain ⟨hs, hhs⟩ : ∃ hs : Bool, hs = (p.st == 2 || p.st == 3) := ⟨_, rfl⟩
 have hsI : hs = true ↔ (p.st = 2 ∨ p.st = 3) := by rw [hhs, Bool.or_eq_true, beq_iff_eq, beq_iff_eq]
 have hp2 : (p.st == 2) = true → hs = true := fun h => by rw [hhs, h]; rfl
 have hnot : hs = false → p.row = -1 ∧ p.seat = -1 := fun hf => by
  have := plc_not hI (n := x.ord)
  rw [← hp, ← hsI, hf] at this
  exact this (by decide)
 -- a seat of the order is within its place
 have hseat : ∀ (k j : Nat) (row : List Int), S.seats[k]? = some row → row[j]? = some x.ord → hs = true ∧ p.row = k ∧ p.seat ≤ j ∧ (j : Int) < p.seat + p.size := fun k j row hk hj => by
  have h1 := (seat_has hI hk hj (by omega)).1
  have hjl := (List.getElem?_eq_some_iff.1 hj).1
  have h2 := (plc_seat hI h1 hk hjl).1 hj
  rw [← hp] at h1 h2
  exact ⟨hsI.2 h1, h2⟩
 have hownS : ∀ (k j : Nat) (row : List Int) (n : Int), S.seats[k]? = some row → row[j]? = some n → ownF p k (j + 1) = ownF p k j + (if n = x.ord then 1 else 0) := fun k j row n hk hj => by
  have hjl := (List.getElem?_eq_some_iff.1 hj).1
  unfold ownF
  by_cases hh : p.st = 2 ∨ p.st = 3
  ·rw [if_pos hh, if_pos hh]
   have hh' : (plcM S x.ord).st = 2 ∨ (plcM S x.ord).st = 3 := by rw [← hp]; exact hh
   have h2 := plc_seat hI hh' hk hjl
   obtain ⟨r0, s0, z0, row0, e1, e2, e3, e4, e5⟩ := plc_has hI hh'
   rw [← hp] at h2 e1 e2 e3
   rw [hj] at h2
   have h2' : n = x.ord ↔ (p.row = k ∧ p.seat ≤ j ∧ (j : Int) < p.seat + p.size) := ⟨fun e => h2.1 (by rw [e]), fun e => Option.some.inj (h2.2 e)⟩
   rw [e1, e2, e3] at h2' ⊢
   by_cases hn : n = x.ord
   ·obtain ⟨a, b, c⟩ := h2'.1 hn
    rw [if_pos hn, if_neg (by omega), if_pos a, if_neg (by omega), if_pos a]; omega
   ·have hc : ¬((r0 : Int) = k ∧ (s0 : Int) ≤ j ∧ (j : Int) < s0 + z0) := fun e => hn (h2'.2 e)
    rw [if_neg hn]
    by_cases h3 : (r0 : Int) < k
    ·rw [if_pos h3, if_pos h3]; omega
    ·rw [if_neg h3, if_neg h3]
     by_cases h4 : (r0 : Int) = k
     ·rw [if_pos h4, if_pos h4]; omega
     ·rw [if_neg h4, if_neg h4]; omega
  ·rw [if_neg hh, if_neg hh]
   by_cases hn : n = x.ord
   ·exfalso
    subst hn
    exact hh (hsI.1 (hseat k j row hk hj).1)
   ·rw [if_neg hn]; omega
 have hrowE : ∀ (k : Nat) (row : List Int), S.seats[k]? = some row → ownF p k row.length = ownF p (k + 1) 0 := fun k row hk => by
  by_cases hh : p.st = 2 ∨ p.st = 3
  ·obtain ⟨r0, s0, z0, row0, e1, e2, e3, e4, e5⟩ := plc_has hI (n := x.ord) (by rw [← hp]; exact hh)
   rw [← hp] at e1 e2 e3
   exact ownF_row hh e1 e2 e3 e4 e5 hk
  ·unfold ownF; rw [if_neg hh, if_neg hh]
 have hend : ∀ k, S.seats.length ≤ k → ownF p k 0 = if hs = true then p.size else 0 := fun k hk => by
  by_cases hh : p.st = 2 ∨ p.st = 3
  ·obtain ⟨r0, s0, z0, row0, e1, e2, e3, e4, e5⟩ := plc_has hI (n := x.ord) (by rw [← hp]; exact hh)
   rw [← hp] at e1 e2 e3
   have := (List.getElem?_eq_some_iff.1 e4).1
   unfold ownF
   rw [if_pos hh, if_pos (hsI.2 hh), if_pos (by omega)]
  ·unfold ownF; rw [if_neg hh, if_neg (fun e => hh (hsI.1 e))]
 have hownB : ∀ k j, 0 ≤ ownF p k j ∧ ownF p k j ≤ 1000 := fun k j => by
  by_cases hh : p.st = 2 ∨ p.st = 3
  ·obtain ⟨r0, s0, z0, row0, e1, e2, e3, e4, e5⟩ := plc_has hI (n := x.ord) (by rw [← hp]; exact hh)
   rw [← hp] at e1 e2 e3
   have := hrow12 row0 (List.mem_of_getElem? e4)
   unfold ownF
   rw [if_pos hh, e3]
   split
   ·omega
   ·split <;> omega
  ·unfold ownF; rw [if_neg hh]; omega
 have hown0 : ownF p 0 0 = 0 := by
  by_cases hh : p.st = 2 ∨ p.st = 3
  ·obtain ⟨r0, s0, z0, row0, e1, e2, e3, e4, e5⟩ := plc_has hI (n := x.ord) (by rw [← hp]; exact hh)
   rw [← hp] at e1 e2 e3
   unfold ownF
   rw [if_pos hh, e1, e2, e3, if_neg (by omega)]
   split <;> omega
  ·unfold ownF; rw [if_neg hh]
 have hpr : p.seat + p.size ≤ 1000 ∧ -1000 ≤ p.seat + p.size := by
  by_cases hh : p.st = 2 ∨ p.st = 3
  ·obtain ⟨r0, s0, z0, row0, e1, e2, e3, e4, e5⟩ := plc_has hI (n := x.ord) (by rw [← hp]; exact hh)
   rw [← hp] at e1 e2 e3
   have := hrow12 row0 (List.mem_of_getElem? e4)
   omega
  ·rcases plcM_spec hI x.ord with ⟨e, _⟩ | ⟨y, hy, _, e⟩
   ·rw [hp, e]; decide
   ·have h1 := hI.szs _ hy
    have h2 := hnot (by cases hc : hs; rfl; exact absurd (hsI.1 hc) hh)
    rw [hp, e] at h2 ⊢
    dsimp only at h1
    omega
 have T1 : ∀ e : Nat → AV, e 1 = encCs l → e 3 = .ptr 0 0 0 → e 5 = .ptr 1 0 0 → e 7 = .ptr 2 0 0 → e 9 = encRows S.seats → e 11 = .bool hs → W ft tl3_1 ⟨e, ⟨[.live [encH h] 2, .live [encA x] 3, .live [encPc p] 4], []⟩⟩ (Fin [.t 6] fun u m => Ab.snap m dep u = .bool true) := by
  intro e g1 g3 g5 g7 g9 g11
  simp only [tl3_1]
  simp only [go_sem, Nat.reduceEqDiff, Nat.reduceAdd, Nat.reduceLT, Nat.reduceLeDiff, reduceIte, g1, g3, g5, g7, g9, g11]
  refine WL_inv (α := Nat × List (List Int)) (fun q e mm => e 1 = encCs l ∧ e 3 = .ptr 0 0 0 ∧ e 5 = .ptr 1 0 0 ∧ e 7 = .ptr 2 0 0 ∧ e 9 = encRows S.seats ∧ e 11 = .bool hs ∧ e 12 = I64 (ownF p q.1 0) ∧ e 13 = I64 q.1 ∧ S.seats.drop q.1 = q.2 ∧ ∃ ext, mm = ⟨.live [encH h] 2 :: .live [encA x] 3 :: .live [encPc p] 4 :: ext, []⟩) (fun q => q.2.length) (0, S.seats) ?_ ?_
  ·simp only [go_sem, Nat.reduceEqDiff, Nat.reduceAdd, Nat.reduceLT, Nat.reduceLeDiff, reduceIte, g1, g3, g5, g7, g9, g11]
   refine ⟨trivial, trivial, trivial, trivial, trivial, trivial, ?_, rfl, trivial, [], rfl⟩
   rw [hown0]
  clear g1 g3 g5 g7 g9 g11 e
  rintro ⟨k, r⟩ e mm ⟨g1, g3, g5, g7, g9, g11, g12, g13, hd, ext, rfl⟩
  dsimp only at g12 g13 hd
  cases r with
  | nil =>
   have h3 := drop_nil hd
   rw [hend k h3] at g12
   cases hs
   ·simp only [go_sem, Nat.reduceEqDiff, Nat.reduceAdd, Nat.reduceLT, Nat.reduceLeDiff, reduceIte, g1, g3, g5, g7, g9, g11, g12, g13, Rows_len, dec_ge h3, WB13, WVH_eq works_ok, true_and]
   ·simp only [go_sem, Nat.reduceEqDiff, Nat.reduceAdd, Nat.reduceLT, Nat.reduceLeDiff, reduceIte, g1, g3, g5, g7, g9, g11, g12, g13, Rows_len, dec_ge h3, PcCells, beq_self_eq_true, WB13, WVH_eq works_ok, true_and, List.getElem?_cons_zero, List.getElem?_cons_succ]
  | cons row r =>
   obtain ⟨hk, hd2, hlt⟩ := drop_cons hd
   have hrl := hrow12 row (List.mem_of_getElem? hk)
   simp only [go_sem, Nat.reduceEqDiff, Nat.reduceAdd, Nat.reduceLT, Nat.reduceLeDiff, reduceIte, g1, g3, g5, g7, g9, g11, g12, g13, Rows_len, dec_lt hlt]
   refine WL_inv (α := Nat × List Int) (fun q e mm => e 1 = encCs l ∧ e 3 = .ptr 0 0 0 ∧ e 5 = .ptr 1 0 0 ∧ e 7 = .ptr 2 0 0 ∧ e 9 = encRows S.seats ∧ e 11 = .bool hs ∧ e 12 = I64 (ownF p k q.1) ∧ e 13 = I64 k ∧ e 14 = I64 q.1 ∧ row.drop q.1 = q.2 ∧ q.1 ≤ row.length ∧ ∃ ext, mm = ⟨.live [encH h] 2 :: .live [encA x] 3 :: .live [encPc p] 4 :: ext, []⟩) (fun q => q.2.length) (0, row) ?_ ?_
   ·simp only [go_sem, Nat.reduceEqDiff, Nat.reduceAdd, Nat.reduceLT, Nat.reduceLeDiff, reduceIte, g1, g3, g5, g7, g9, g11, g12, g13]
    exact ⟨trivial, trivial, trivial, trivial, trivial, trivial, trivial, trivial, rfl, trivial, Nat.zero_le _, ext, rfl⟩
   clear g1 g3 g5 g7 g9 g11 g12 g13 e ext
   rintro ⟨j, r2⟩ e mm ⟨g1, g3, g5, g7, g9, g11, g12, g13, g14, hd3, hjle, ext, rfl⟩
   dsimp only at g12 g14 hd3
   cases r2 with
   | nil =>
    have h4 := drop_nil hd3
    have hjl : j = row.length := by omega
    simp only [go_sem, Nat.reduceEqDiff, Nat.reduceAdd, Nat.reduceLT, Nat.reduceLeDiff, reduceIte, g1, g3, g5, g7, g9, g11, g12, g13, g14, Rows_idx hk, Is_len, dec_ge h4, wrap_n1 k (by omega)]
    refine Nx_of (k + 1, r) (by simp) ?_
    simp only [go_sem, Nat.reduceEqDiff, Nat.reduceAdd, Nat.reduceLT, Nat.reduceLeDiff, reduceIte, g1, g3, g5, g7, g9, g11]
    refine ⟨trivial, trivial, trivial, trivial, trivial, trivial, ?_, trivial, hd2, ext, rfl⟩
    rw [g12, hjl, hrowE k row hk]
   | cons n r2 =>
   obtain ⟨hj, hd4, hlt4⟩ := drop_cons hd3
   have hS1 := hownS k j row n hk hj
   have hob := hownB k j
   have gK : ∀ (a b c : Blk) (l m : List Blk), (a :: b :: c :: (l ++ m))[l.length + 1 + 1 + 1]? = m[0]? := fun a b c l m => gA0 l m
   have sK : ∀ (a b c : Blk) (l m : List Blk) (X : Blk), (a :: b :: c :: (l ++ m)).set (l.length + 1 + 1 + 1) X = a :: b :: c :: (l ++ m.set 0 X) := fun a b c l m X => by
    show a :: b :: c :: ((l ++ m).set l.length X) = _
    rw [sA0]
   cases d1 : (n == x.ord)
   case true =>
    have d1' : n = x.ord := by simpa using d1
    rw [if_pos d1'] at hS1
    have hjx := hj
    rw [d1'] at hjx
    obtain ⟨hsx, y1, y2, y3⟩ := hseat k j row hk hjx
    have w1 : IntKind.i64.wrap (ownF p k j + 1) = ownF p k j + 1 := wrap_i64 _ (by omega) (by omega)
    have w3 : IntKind.i64.wrap (p.seat + p.size) = p.seat + p.size := wrap_i64 _ (by omega) (by omega)
    have x1 : ((k : Int) != p.row) = false := by rw [y1]; simp
    have x2 : decide ((j : Int) < p.seat) = false := decide_eq_false (by omega)
    have x3 : decide (p.seat + p.size ≤ (j : Int)) = false := decide_eq_false (by omega)
    have d2 : (n == -1) = false := by rw [beq_eq_false_iff_ne]; omega
    obtain ⟨hq1, hq2, hq3⟩ := seat_has hI hk hj (by simpa using d2)
    have hjl := (List.getElem?_eq_some_iff.1 hj).1
    obtain ⟨a1, a2, a3⟩ := (plc_seat hI hq1 hk hjl).1 hj
    obtain ⟨r0, s0, z0, row0, b1, b2, b3, b4, b5⟩ := plc_has hI hq1
    have hr12 := hrow12 row0 (List.mem_of_getElem? b4)
    have hON := hOrd n hq2 hq3
    generalize plcM S n = q at hq1 a1 a2 a3 b1 b2 b3 hON
    have w2 : IntKind.i64.wrap (q.seat + q.size) = q.seat + q.size := wrap_i64 _ (by omega) (by omega)
    have f1 : (q.row != (k : Int)) = false := by rw [a1]; simp
    have f2 : decide ((j : Int) < q.seat) = false := decide_eq_false (by omega)
    have f3 : decide (q.seat + q.size ≤ (j : Int)) = false := decide_eq_false (by omega)
    have f4 : (q.st != 2 && q.st != 3) = false := by
     rcases hq1 with e | e <;> rw [e] <;> rfl
    cases f5 : (q.st != 2) <;> cases f6 : (q.st != 3)
    case true.true => rw [f5, f6] at f4; cases f4
    all_goals
     simp only [go_sem, Nat.reduceEqDiff, Nat.reduceAdd, Nat.reduceLT, Nat.reduceLeDiff, reduceIte, g1, g3, g5, g7, g9, g11, g12, g13, g14, Rows_idx hk, Is_len, dec_lt hlt4, Is_idx hj, HEta, HCells, ACells, snH, hotH, snCs, hotCs, PcCells, d1, d2, WB14, WVH_eq hON, true_and, bnz, f1, f2, f3, f5, f6, w2, x1, x2, x3, hsx, w1, w3, List.length_append, List.length_cons, List.length_nil, gK, sK, List.getElem?_cons_zero, List.set_cons_zero, List.getElem?_cons_succ, wrap_n1 j (by omega)]
     refine Nx_of (j + 1, r2) (by simp) ?_
     simp only [go_sem, Nat.reduceEqDiff, Nat.reduceAdd, Nat.reduceLT, Nat.reduceLeDiff, reduceIte, g1, g3, g5, g7, g9, g11, g13]
     refine ⟨trivial, trivial, trivial, trivial, trivial, trivial, by first | (rw [hS1]; done) | rw [g12, hS1], trivial, trivial, hd4, by omega, _, rfl⟩
   case false =>
    have d1' : n ≠ x.ord := by simpa using d1
    rw [if_neg d1', Int.add_zero] at hS1
    cases d2 : (n == -1)
    case true =>
     simp only [go_sem, Nat.reduceEqDiff, Nat.reduceAdd, Nat.reduceLT, Nat.reduceLeDiff, reduceIte, g1, g3, g5, g7, g9, g11, g12, g13, g14, Rows_idx hk, Is_len, dec_lt hlt4, Is_idx hj, HEta, HCells, ACells, snH, hotH, snCs, hotCs, d1, d2, List.getElem?_cons_zero, List.getElem?_cons_succ, wrap_n1 j (by omega)]
     refine Nx_of (j + 1, r2) (by simp) ?_
     simp only [go_sem, Nat.reduceEqDiff, Nat.reduceAdd, Nat.reduceLT, Nat.reduceLeDiff, reduceIte, g1, g3, g5, g7, g9, g11, g13]
     exact ⟨trivial, trivial, trivial, trivial, trivial, trivial, by rw [g12, hS1], trivial, trivial, hd4, by omega, _, rfl⟩
    obtain ⟨hq1, hq2, hq3⟩ := seat_has hI hk hj (by simpa using d2)
    have hjl := (List.getElem?_eq_some_iff.1 hj).1
    obtain ⟨a1, a2, a3⟩ := (plc_seat hI hq1 hk hjl).1 hj
    obtain ⟨r0, s0, z0, row0, b1, b2, b3, b4, b5⟩ := plc_has hI hq1
    have hr12 := hrow12 row0 (List.mem_of_getElem? b4)
    have hON := hOrd n hq2 hq3
    generalize plcM S n = q at hq1 a1 a2 a3 b1 b2 b3 hON
    have w2 : IntKind.i64.wrap (q.seat + q.size) = q.seat + q.size := wrap_i64 _ (by omega) (by omega)
    have f1 : (q.row != (k : Int)) = false := by rw [a1]; simp
    have f2 : decide ((j : Int) < q.seat) = false := decide_eq_false (by omega)
    have f3 : decide (q.seat + q.size ≤ (j : Int)) = false := decide_eq_false (by omega)
    have f4 : (q.st != 2 && q.st != 3) = false := by
     rcases hq1 with e | e <;> rw [e] <;> rfl
    cases f5 : (q.st != 2) <;> cases f6 : (q.st != 3)
    case true.true => rw [f5, f6] at f4; cases f4
    all_goals
     simp only [go_sem, Nat.reduceEqDiff, Nat.reduceAdd, Nat.reduceLT, Nat.reduceLeDiff, reduceIte, g1, g3, g5, g7, g9, g11, g12, g13, g14, Rows_idx hk, Is_len, dec_lt hlt4, Is_idx hj, HEta, HCells, ACells, snH, hotH, snCs, hotCs, PcCells, d1, d2, WB14, WVH_eq hON, true_and, bnz, f1, f2, f3, f5, f6, w2, Bool.not_true, List.length_append, List.length_cons, List.length_nil, gK, sK, List.getElem?_cons_zero, List.set_cons_zero, List.getElem?_cons_succ, wrap_n1 j (by omega)]
     refine Nx_of (j + 1, r2) (by simp) ?_
     simp only [go_sem, Nat.reduceEqDiff, Nat.reduceAdd, Nat.reduceLT, Nat.reduceLeDiff, reduceIte, g1, g3, g5, g7, g9, g11, g13]
     refine ⟨trivial, trivial, trivial, trivial, trivial, trivial, by first | (rw [hS1]; done) | rw [g12, hS1], trivial, trivial, hd4, by omega, _, rfl⟩
 have T0 : ∀ e : Nat → AV, e 1 = encCs l → e 3 = .ptr 0 0 0 → e 5 = .ptr 1 0 0 → e 7 = .ptr 2 0 0 → e 9 = encRows S.seats → e 11 = .bool hs → W ft tl3_0 ⟨e, ⟨[.live [encH h] 2, .live [encA x] 3, .live [encPc p] 4], []⟩⟩ (Fin [.t 6] fun u m => Ab.snap m dep u = .bool true) := by
  intro e g1 g3 g5 g7 g9 g11
  simp only [tl3_0]
  cases hs
  ·obtain ⟨u1, u2⟩ := hnot rfl
   simp only [go_sem, Nat.reduceEqDiff, Nat.reduceAdd, Nat.reduceLT, Nat.reduceLeDiff, reduceIte, g1, g3, g5, g7, g9, g11, PcCells, u1, u2, List.getElem?_cons_zero, List.getElem?_cons_succ, show ((-1 : Int) != -1) = false from rfl]
   exact T1 _ (by simp only [go_sem, Nat.reduceEqDiff, Nat.reduceAdd, Nat.reduceLT, Nat.reduceLeDiff, reduceIte, g1]) (by simp only [go_sem, Nat.reduceEqDiff, Nat.reduceAdd, Nat.reduceLT, Nat.reduceLeDiff, reduceIte, g3]) (by simp only [go_sem, Nat.reduceEqDiff, Nat.reduceAdd, Nat.reduceLT, Nat.reduceLeDiff, reduceIte, g5]) (by simp only [go_sem, Nat.reduceEqDiff, Nat.reduceAdd, Nat.reduceLT, Nat.reduceLeDiff, reduceIte, g7]) (by simp only [go_sem, Nat.reduceEqDiff, Nat.reduceAdd, Nat.reduceLT, Nat.reduceLeDiff, reduceIte, g9]) (by simp only [go_sem, Nat.reduceEqDiff, Nat.reduceAdd, Nat.reduceLT, Nat.reduceLeDiff, reduceIte, g11])
  ·simp only [go_sem, Nat.reduceEqDiff, Nat.reduceAdd, Nat.reduceLT, Nat.reduceLeDiff, reduceIte, g1, g3, g5, g7, g9, g11]
   exact T1 _ (by simp only [go_sem, Nat.reduceEqDiff, Nat.reduceAdd, Nat.reduceLT, Nat.reduceLeDiff, reduceIte, g1]) (by simp only [go_sem, Nat.reduceEqDiff, Nat.reduceAdd, Nat.reduceLT, Nat.reduceLeDiff, reduceIte, g3]) (by simp only [go_sem, Nat.reduceEqDiff, Nat.reduceAdd, Nat.reduceLT, Nat.reduceLeDiff, reduceIte, g5]) (by simp only [go_sem, Nat.reduceEqDiff, Nat.reduceAdd, Nat.reduceLT, Nat.reduceLeDiff, reduceIte, g7]) (by simp only [go_sem, Nat.reduceEqDiff, Nat.reduceAdd, Nat.reduceLT, Nat.reduceLeDiff, reduceIte, g9]) (by simp only [go_sem, Nat.reduceEqDiff, Nat.reduceAdd, Nat.reduceLT, Nat.reduceLeDiff, reduceIte, g11])
 cases c2 : (p.st == 2)
 ·cases c3 : (p.st == 3)
  ·have hhf : hs = false := by rw [hhs, c2, c3]; rfl
   simp only [go_sem, Nat.reduceEqDiff, Nat.reduceAdd, Nat.reduceLT, Nat.reduceLeDiff, reduceIte, HEta, HCells, ACells, snH, hotH, snCs, hotCs, WB11, WVH_eq hV, WB12, WVH_eq hO, WB14, WVH_eq hR1, WB15, WVH_eq hR2, WB16, snRows, hotRows, WVH_eq hfit, true_and, bnz, PcCells, PcEta, List.getElem?_cons_zero, List.getElem?_cons_succ, c2, c3]
   exact T0 _ (by simp only [go_sem, Nat.reduceEqDiff, Nat.reduceAdd, Nat.reduceLT, Nat.reduceLeDiff, reduceIte]) (by simp only [go_sem, Nat.reduceEqDiff, Nat.reduceAdd, Nat.reduceLT, Nat.reduceLeDiff, reduceIte]) (by simp only [go_sem, Nat.reduceEqDiff, Nat.reduceAdd, Nat.reduceLT, Nat.reduceLeDiff, reduceIte]) (by simp only [go_sem, Nat.reduceEqDiff, Nat.reduceAdd, Nat.reduceLT, Nat.reduceLeDiff, reduceIte]) (by simp only [go_sem, Nat.reduceEqDiff, Nat.reduceAdd, Nat.reduceLT, Nat.reduceLeDiff, reduceIte]) (by simp only [go_sem, Nat.reduceEqDiff, Nat.reduceAdd, Nat.reduceLT, Nat.reduceLeDiff, reduceIte, hhf])
  ·have hhf : hs = true := by rw [hhs, c2, c3]; rfl
   simp only [go_sem, Nat.reduceEqDiff, Nat.reduceAdd, Nat.reduceLT, Nat.reduceLeDiff, reduceIte, HEta, HCells, ACells, snH, hotH, snCs, hotCs, WB11, WVH_eq hV, WB12, WVH_eq hO, WB14, WVH_eq hR1, WB15, WVH_eq hR2, WB16, snRows, hotRows, WVH_eq hfit, true_and, bnz, PcCells, PcEta, List.getElem?_cons_zero, List.getElem?_cons_succ, c2, c3]
   exact T0 _ (by simp only [go_sem, Nat.reduceEqDiff, Nat.reduceAdd, Nat.reduceLT, Nat.reduceLeDiff, reduceIte]) (by simp only [go_sem, Nat.reduceEqDiff, Nat.reduceAdd, Nat.reduceLT, Nat.reduceLeDiff, reduceIte]) (by simp only [go_sem, Nat.reduceEqDiff, Nat.reduceAdd, Nat.reduceLT, Nat.reduceLeDiff, reduceIte]) (by simp only [go_sem, Nat.reduceEqDiff, Nat.reduceAdd, Nat.reduceLT, Nat.reduceLeDiff, reduceIte]) (by simp only [go_sem, Nat.reduceEqDiff, Nat.reduceAdd, Nat.reduceLT, Nat.reduceLeDiff, reduceIte]) (by simp only [go_sem, Nat.reduceEqDiff, Nat.reduceAdd, Nat.reduceLT, Nat.reduceLeDiff, reduceIte, hhf])
 ·have hhf : hs = true := hp2 c2
  simp only [go_sem, Nat.reduceEqDiff, Nat.reduceAdd, Nat.reduceLT, Nat.reduceLeDiff, reduceIte, HEta, HCells, ACells, snH, hotH, snCs, hotCs, WB11, WVH_eq hV, WB12, WVH_eq hO, WB14, WVH_eq hR1, WB15, WVH_eq hR2, WB16, snRows, hotRows, WVH_eq hfit, true_and, bnz, PcCells, PcEta, List.getElem?_cons_zero, List.getElem?_cons_succ, c2]
  exact T0 _ (by simp only [go_sem, Nat.reduceEqDiff, Nat.reduceAdd, Nat.reduceLT, Nat.reduceLeDiff, reduceIte]) (by simp only [go_sem, Nat.reduceEqDiff, Nat.reduceAdd, Nat.reduceLT, Nat.reduceLeDiff, reduceIte]) (by simp only [go_sem, Nat.reduceEqDiff, Nat.reduceAdd, Nat.reduceLT, Nat.reduceLeDiff, reduceIte]) (by simp only [go_sem, Nat.reduceEqDiff, Nat.reduceAdd, Nat.reduceLT, Nat.reduceLeDiff, reduceIte]) (by simp only [go_sem, Nat.reduceEqDiff, Nat.reduceAdd, Nat.reduceLT, Nat.reduceLeDiff, reduceIte]) (by simp only [go_sem, Nat.reduceEqDiff, Nat.reduceAdd, Nat.reduceLT, Nat.reduceLeDiff, reduceIte, hhf])
end Go.Ab.T
end
