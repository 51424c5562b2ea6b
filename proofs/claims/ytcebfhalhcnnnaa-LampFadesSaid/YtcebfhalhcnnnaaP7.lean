/-
  A part of the proofs over this seat.
  (The texts KlK13, one behind the other.)
-/
import Derived.Test.YtcebfhalhcnnnaaP6
set_option linter.unusedSimpArgs false
set_option linter.unusedVariables false
set_option linter.unusedSectionVars false
section
namespace Go.Ab.T
set_option maxRecDepth 8000
set_option maxHeartbeats 4000000
def tl8_1 : ACode := (.seq (.seq (.region [⟨(some 101), none, .mov (.t 2)⟩,
    ⟨(some 102), none, .mov (.t 11)⟩,
    ⟨(some 103), none, .bin .gtr (.t 101) (.t 102)⟩])
  (.cond (.t 103) (.seq (.region [⟨(some 104), none, .call 13 []⟩,
    ⟨(some 6), none, .mov (.t 104)⟩])
  (.ret))
  (.skip)))
  (.seq (.region [⟨(some 106), none, .load (.t 3) (some 9)⟩,
    ⟨(some 107), none, .mov (.t 2)⟩,
    ⟨(some 108), none, .call 28 [(.t 106), (.t 107)]⟩,
    ⟨(some 105), none, .mov (.t 108)⟩,
    ⟨(some 109), none, .ext (.t 105) 0⟩,
    ⟨(some 110), none, .ext (.t 105) 1⟩,
    ⟨(some 111), none, .ext (.t 105) 2⟩,
    ⟨(some 14), none, .mov (.t 109)⟩,
    ⟨(some 15), none, .mov (.t 110)⟩,
    ⟨(some 16), none, .mov (.t 111)⟩])
  (.seq (.region [⟨(some 112), none, .mov (.t 16)⟩,
    ⟨(some 113), none, .bin .eql (.t 112) (.c (.int .i64 0))⟩,
    ⟨(some 114), none, .mov (.t 113)⟩,
    ⟨(some 115), some (114, true), .mov (.t 14)⟩,
    ⟨(some 116), some (114, true), .mov (.t 11)⟩,
    ⟨(some 117), some (114, true), .bin .eql (.t 115) (.t 116)⟩,
    ⟨(some 118), none, .pick (.t 114) (.t 117) (.c (.bool false))⟩,
    ⟨(some 119), none, .mov (.t 118)⟩,
    ⟨(some 120), some (119, true), .call 13 []⟩,
    ⟨(some 121), none, .pick (.t 119) (.t 120) (.c (.bool false))⟩,
    ⟨(some 6), none, .mov (.t 121)⟩])
  (.ret))))
def tl8_0 : ACode := (.seq (.seq (.region [⟨(some 65), none, .mov (.t 13)⟩,
    ⟨(some 66), none, .bin .neq (.t 65) (.c (.int .i64 0))⟩,
    ⟨(some 67), none, .mov (.t 66)⟩,
    ⟨(some 68), some (67, false), .addr (.t 9) 0⟩,
    ⟨(some 69), some (67, false), .load (.t 68) none⟩,
    ⟨(some 70), some (67, false), .addr (.t 7) 0⟩,
    ⟨(some 71), some (67, false), .load (.t 70) none⟩,
    ⟨(some 72), some (67, false), .bin .gtr (.t 69) (.t 71)⟩,
    ⟨(some 73), none, .pick (.t 67) (.c (.bool true)) (.t 72)⟩,
    ⟨(some 74), none, .mov (.t 73)⟩,
    ⟨(some 75), some (74, false), .addr (.t 9) 1⟩,
    ⟨(some 76), some (74, false), .load (.t 75) none⟩,
    ⟨(some 77), some (74, false), .addr (.t 7) 1⟩,
    ⟨(some 78), some (74, false), .load (.t 77) none⟩,
    ⟨(some 79), some (74, false), .bin .gtr (.t 76) (.t 78)⟩,
    ⟨(some 80), none, .pick (.t 74) (.c (.bool true)) (.t 79)⟩,
    ⟨(some 81), none, .mov (.t 80)⟩,
    ⟨(some 82), some (81, false), .addr (.t 7) 0⟩,
    ⟨(some 83), some (81, false), .load (.t 82) none⟩,
    ⟨(some 84), some (81, false), .addr (.t 7) 1⟩,
    ⟨(some 85), some (81, false), .load (.t 84) none⟩,
    ⟨(some 86), some (81, false), .bin .gtr (.t 83) (.t 85)⟩,
    ⟨(some 87), none, .pick (.t 81) (.c (.bool true)) (.t 86)⟩,
    ⟨(some 88), none, .mov (.t 87)⟩,
    ⟨(some 89), some (88, false), .mov (.t 11)⟩,
    ⟨(some 90), some (88, false), .mov (.t 12)⟩,
    ⟨(some 91), some (88, false), .bin .gtr (.t 89) (.t 90)⟩,
    ⟨(some 92), none, .pick (.t 88) (.c (.bool true)) (.t 91)⟩,
    ⟨(some 93), none, .mov (.t 92)⟩,
    ⟨(some 94), some (93, false), .mov (.t 11)⟩,
    ⟨(some 95), some (93, false), .bin .geq (.t 94) (.c (.int .i64 0))⟩,
    ⟨(some 96), some (93, false), .mov (.t 95)⟩,
    ⟨(some 97), some (96, true), .mov (.t 12)⟩,
    ⟨(some 98), some (96, true), .bin .lss (.t 97) (.c (.int .i64 0))⟩,
    ⟨(some 99), some (93, false), .pick (.t 96) (.t 98) (.c (.bool false))⟩,
    ⟨(some 100), none, .pick (.t 93) (.c (.bool true)) (.t 99)⟩])
  (.cond (.t 100) (.seq (.region [⟨(some 6), none, .mov (.c (.bool false))⟩])
  (.ret))
  (.skip)))
  tl8_1)
theorem cut8 : c8 = .seq (.region [⟨(some 3), none, .box (.t 0) 9⟩,
    ⟨(some 6), none, .mov (.c (.bool false))⟩])
  (.seq (.seq (.region [⟨(some 17), none, .load (.t 3) (some 9)⟩,
    ⟨(some 18), none, .call 32 [(.t 17)]⟩,
    ⟨(some 19), none, .not (.t 18)⟩,
    ⟨(some 20), none, .mov (.t 19)⟩,
    ⟨(some 21), some (20, false), .mov (.t 1)⟩,
    ⟨(some 22), some (20, false), .call 33 [(.t 21)]⟩,
    ⟨(some 23), some (20, false), .not (.t 22)⟩,
    ⟨(some 24), none, .pick (.t 20) (.c (.bool true)) (.t 23)⟩,
    ⟨(some 25), none, .mov (.t 24)⟩,
    ⟨(some 26), some (25, false), .mov (.t 2)⟩,
    ⟨(some 27), some (25, false), .call 33 [(.t 26)]⟩,
    ⟨(some 28), some (25, false), .not (.t 27)⟩,
    ⟨(some 29), none, .pick (.t 25) (.c (.bool true)) (.t 28)⟩,
    ⟨(some 30), none, .mov (.t 29)⟩,
    ⟨(some 31), some (30, false), .mov (.t 2)⟩,
    ⟨(some 32), some (30, false), .mov (.t 1)⟩,
    ⟨(some 33), some (30, false), .bin .lss (.t 31) (.t 32)⟩,
    ⟨(some 34), none, .pick (.t 30) (.c (.bool true)) (.t 33)⟩])
  (.cond (.t 34) (.seq (.region [⟨(some 35), none, .call 13 []⟩,
    ⟨(some 6), none, .mov (.t 35)⟩])
  (.ret))
  (.skip)))
  (.seq (.region [⟨(some 37), none, .load (.t 3) (some 9)⟩,
    ⟨(some 38), none, .mov (.t 1)⟩,
    ⟨(some 39), none, .call 24 [(.t 37), (.t 38)]⟩,
    ⟨(some 36), none, .mov (.t 39)⟩,
    ⟨(some 40), none, .ext (.t 36) 0⟩,
    ⟨(some 41), none, .ext (.t 36) 1⟩,
    ⟨(some 7), none, .new (.agg [(.int .i64 0), (.int .i64 0)]) 2⟩,
    ⟨none, none, .store (.t 7) (.t 40) 2⟩,
    ⟨(some 8), none, .mov (.t 41)⟩])
  (.seq (.region [⟨(some 43), none, .load (.t 3) (some 9)⟩,
    ⟨(some 44), none, .mov (.t 2)⟩,
    ⟨(some 45), none, .call 24 [(.t 43), (.t 44)]⟩,
    ⟨(some 42), none, .mov (.t 45)⟩,
    ⟨(some 46), none, .ext (.t 42) 0⟩,
    ⟨(some 47), none, .ext (.t 42) 1⟩,
    ⟨(some 9), none, .new (.agg [(.int .i64 0), (.int .i64 0)]) 2⟩,
    ⟨none, none, .store (.t 9) (.t 46) 2⟩,
    ⟨(some 10), none, .mov (.t 47)⟩])
  (.seq (.seq (.region [⟨(some 48), none, .mov (.t 8)⟩,
    ⟨(some 49), none, .mov (.t 10)⟩,
    ⟨(some 50), none, .bin .neq (.t 48) (.t 49)⟩])
  (.cond (.t 50) (.seq (.region [⟨(some 6), none, .mov (.c (.bool false))⟩])
  (.ret))
  (.skip)))
  (.seq (.seq (.region [⟨(some 51), none, .mov (.t 8)⟩,
    ⟨(some 52), none, .bin .neq (.t 51) (.c (.int .i64 0))⟩])
  (.cond (.t 52) (.seq (.region [⟨(some 53), none, .mov (.t 8)⟩,
    ⟨(some 54), none, .bin .eql (.t 53) (.c (.int .i64 3))⟩,
    ⟨(some 55), none, .mov (.t 54)⟩,
    ⟨(some 56), some (55, true), .call 13 []⟩,
    ⟨(some 57), none, .pick (.t 55) (.t 56) (.c (.bool false))⟩,
    ⟨(some 6), none, .mov (.t 57)⟩])
  (.ret))
  (.skip)))
  (.seq (.region [⟨(some 59), none, .load (.t 3) (some 9)⟩,
    ⟨(some 60), none, .mov (.t 1)⟩,
    ⟨(some 61), none, .call 28 [(.t 59), (.t 60)]⟩,
    ⟨(some 58), none, .mov (.t 61)⟩,
    ⟨(some 62), none, .ext (.t 58) 0⟩,
    ⟨(some 63), none, .ext (.t 58) 1⟩,
    ⟨(some 64), none, .ext (.t 58) 2⟩,
    ⟨(some 11), none, .mov (.t 62)⟩,
    ⟨(some 12), none, .mov (.t 63)⟩,
    ⟨(some 13), none, .mov (.t 64)⟩])
  tl8_0)))))) := rfl
theorem kpR_iff {l : Lm} {a b : Int} {x : Ln} : kpR l a b x = true ↔ ∀ j, a ≤ j → j ≤ b → inS l.no (lit x j) = true := by
  unfold kpR
  rw [List.all_eq_true]
  exact ⟨fun h j j0 j1 => h j (mem_rgI.2 ⟨j0, j1⟩), fun h j hj => h j (mem_rgI.1 hj).1 (mem_rgI.1 hj).2⟩
theorem lit_mono {x : Ln} (hx : 0 ≤ x.fd) {a b : Int} (h : a ≤ b) : lit x b ≤ lit x a := by
  unfold lit
  have := Int.mul_le_mul_of_nonneg_right h hx
  omega
theorem at_mono {l : Lm} {a b : Int} (ha : khM l a = 0) (hb : khM l b = 0) (hab : a ≤ b) : (atM l b).lo ≤ (atM l a).lo ∧ (atM l b).hi ≤ (atM l a).hi ∧ (atM l a).lo ≤ (atM l a).hi := by
  obtain ⟨hv, _, _⟩ := khM_0.1 ha
  obtain ⟨s1, ⟨x, hx, e1⟩, _⟩ := at_spec ha
  obtain ⟨t1, _, ⟨y, hy, e2⟩⟩ := at_spec hb
  have m1 := lit_mono (linM_NV hv (truM_lin hx)).b0 hab
  have m2 := lit_mono (linM_NV hv (truM_lin hy)).b0 hab
  have := t1 x hx
  have := s1 y hy
  have := s1 x hx
  exact ⟨by omega, by omega, by omega⟩
theorem un_again {l : Lm} {a b : Int} (ha : khM l a = 0) (hb : khM l b = 0) (hab : a ≤ b) (hs : b ≤ (unM l a).lo) : (unM l b).lo = (unM l a).lo := by
  obtain ⟨u1, u2, ⟨u3, u4⟩, u5, u6⟩ := unM_spec ha
  obtain ⟨v1, v2, ⟨v3, v4⟩, v5, v6⟩ := unM_spec hb
  obtain ⟨hv, ⟨b0, b1⟩, hne⟩ := khM_0.1 hb
  generalize (unM l a).lo = s at *
  generalize (unM l b).lo = t at *
  have h1 : (truM l).all (kpR l a s) = true := by
    rw [(u6 s (by omega) (by omega)).1]; exact decide_eq_true (Int.le_refl _)
  have h2 : (truM l).all (kpR l b s) = true := by
    rw [List.all_eq_true] at h1 ⊢
    intro x hx
    have := kpR_iff.1 (h1 x hx)
    exact kpR_iff.2 fun j j0 j1 => this j (by omega) j1
  have h3 : s ≤ t := by
    rw [(v6 s hs (by omega)).1] at h2; exact of_decide_eq_true h2
  have h4 : (truM l).all (kpR l b t) = true := by
    rw [(v6 t (by omega) (by omega)).1]; exact decide_eq_true (Int.le_refl _)
  have h5 : (truM l).all (kpR l a t) = true := by
    rw [List.all_eq_true] at h1 h4 ⊢
    intro x hx
    have p := kpR_iff.1 (h1 x hx)
    have q := kpR_iff.1 (h4 x hx)
    refine kpR_iff.2 fun j j0 j1 => ?_
    by_cases hj : j < b
    · exact p j j0 (by omega)
    · exact q j (by omega) j1
  rw [(u6 t (by omega) (by omega)).1] at h5
  have := of_decide_eq_true h5
  omega
theorem LampFades_run (l : Lm) (h k : Int) : RV ft 8 [encL l, I64 h, I64 k] (.bool true) := by
  refine RV_of ft8 rfl ?_
  simp only [cut8, r8]
  have hR := ready_ok l
  cases hr : rdM l
  case false =>
    rw [hr] at hR
    simp only [go_sem, Nat.reduceEqDiff, Nat.reduceAdd, Nat.reduceLT, Nat.reduceLeDiff, reduceIte, WB32, WVH_eq hR, true_and, WB13, WVH_eq works_ok]
  obtain ⟨hfar, hok⟩ := rdM_iff hr
  have hv := okL_iff.1 hok
  have h40 := rdM_len hfar
  have hl : l.gs.length < 1073741824 := by omega
  rw [hr] at hR
  have hH := isHourR_ok h
  cases hh : hrR h
  case false =>
    rw [hh] at hH
    simp only [go_sem, Nat.reduceEqDiff, Nat.reduceAdd, Nat.reduceLT, Nat.reduceLeDiff, reduceIte, WB32, WVH_eq hR, WB33, WVH_eq hH, true_and, WB13, WVH_eq works_ok]
  rw [hh] at hH
  have hG := isHourR_ok k
  cases hk : hrR k
  case false =>
    rw [hk] at hG
    simp only [go_sem, Nat.reduceEqDiff, Nat.reduceAdd, Nat.reduceLT, Nat.reduceLeDiff, reduceIte, WB32, WVH_eq hR, WB33, WVH_eq hH, WVH_eq hG, true_and, WB13, WVH_eq works_ok]
  rw [hk] at hG
  cases hhk : decide (k < h)
  case true => simp only [go_sem, Nat.reduceEqDiff, Nat.reduceAdd, Nat.reduceLT, Nat.reduceLeDiff, reduceIte, WB32, WVH_eq hR, WB33, WVH_eq hH, WVH_eq hG, hhk, true_and, WB13, WVH_eq works_ok]
  have hle : h ≤ k := by have := of_decide_eq_false hhk; omega
  have hA := At_ok l h hl
  have hB := At_ok l k hl
  obtain ⟨h0, h1⟩ := hrR_iff.1 hh
  obtain ⟨k0, k1⟩ := hrR_iff.1 hk
  have z : ((0 : Int) != 0) = false := rfl
  have z3 : ((3 : Int) != 0) = true := rfl
  have z4 : ((3 : Int) != 3) = false := rfl
  have z5 : ((3 : Int) == 3) = true := rfl
  have z6 : ((0 : Int) == 0) = true := rfl
  by_cases he : truM l = []
  · have e1 : ∀ n, hrR n = true → khM l n = 3 := fun n hn => by
      unfold khM; rw [if_pos hok, if_pos hn, if_pos (by rw [he]; rfl)]
    rw [e1 h hh] at hA
    rw [e1 k hk] at hB
    simp only [go_sem, Nat.reduceEqDiff, Nat.reduceAdd, Nat.reduceLT, Nat.reduceLeDiff, reduceIte, LCells, SCells, WB32, WVH_eq hR, WB33, WVH_eq hH, WVH_eq hG, hhk, true_and, WB24, WVH_eq hA, WVH_eq hB, z3, z4, z5, WB13, WVH_eq works_ok]
  have q1 : khM l h = 0 := khM_0.2 ⟨hv, ⟨h0, h1⟩, he⟩
  have q2 : khM l k = 0 := khM_0.2 ⟨hv, ⟨k0, k1⟩, he⟩
  have hU := Until_ok l h hl
  have hV := Until_ok l k hl
  obtain ⟨m1, m2, m3⟩ := at_mono q1 q2 hle
  have ha := un_again q1 q2 hle
  obtain ⟨u1, u2, ⟨u3, u4⟩, u5, u6⟩ := unM_spec q1
  rw [q1] at hA hU
  rw [q2] at hB hV
  generalize atM l h = A at hA m1 m2 m3
  generalize atM l k = B at hB m1 m2
  generalize unM l h = U at hU ha u1 u2 u3 u4 u5 u6
  generalize unM l k = V at hV ha
  obtain ⟨sure, may⟩ := U
  obtain ⟨again, am⟩ := V
  dsimp only at hU hV ha u1 u2 u3 u4 u5 u6
  have c1 : decide (A.lo < B.lo) = false := decide_eq_false (by omega)
  have c2 : decide (A.hi < B.hi) = false := decide_eq_false (by omega)
  have c3 : decide (A.hi < A.lo) = false := decide_eq_false (by omega)
  have c4 : decide (may < sure) = false := decide_eq_false (by omega)
  have ss : decide (0 ≤ sure) = false ∨ (decide (0 ≤ sure) = true ∧ decide (may < 0) = false) := by
    by_cases hs : 0 ≤ sure
    · exact .inr ⟨decide_eq_true hs, decide_eq_false (by omega)⟩
    · exact .inl (decide_eq_false hs)
  clear u1 u2 u3 u4 u5 u6 m1 m2 m3
  have T1 : ∀ e : Nat → AV, e 2 = I64 k → e 3 = .ptr 0 0 0 → e 11 = I64 sure → ∀ bl, W ft tl8_1 ⟨e, ⟨.live [encL l] 9 :: .live [encS A] 2 :: .live [encS B] 2 :: bl, []⟩⟩ (Fin [.t 6] fun u m => Ab.snap m dep u = .bool true) := by
    intro e g2 g3 g11 bl
    simp only [tl8_1]
    cases hs : decide (sure < k)
    · have hag := ha (by have := of_decide_eq_false hs; omega)
      subst hag
      simp only [go_sem, Nat.reduceEqDiff, Nat.reduceAdd, Nat.reduceLT, Nat.reduceLeDiff, reduceIte, g2, g3, g11, LCells, LEta, hs, WB28, WVH_eq hV, z6, beq_self_eq_true, WB13, WVH_eq works_ok, true_and]
    · simp only [go_sem, Nat.reduceEqDiff, Nat.reduceAdd, Nat.reduceLT, Nat.reduceLeDiff, reduceIte, g2, g3, g11, LCells, LEta, hs, WB13, WVH_eq works_ok, true_and]
  have T0 : ∀ e : Nat → AV, e 2 = I64 k → e 3 = .ptr 0 0 0 → e 7 = .ptr 1 0 0 → e 9 = .ptr 2 0 0 → e 11 = I64 sure → e 12 = I64 may → e 13 = I64 0 → ∀ bl, W ft tl8_0 ⟨e, ⟨.live [encL l] 9 :: .live [encS A] 2 :: .live [encS B] 2 :: bl, []⟩⟩ (Fin [.t 6] fun u m => Ab.snap m dep u = .bool true) := by
    intro e g2 g3 g7 g9 g11 g12 g13 bl
    simp only [tl8_0]
    rcases ss with ss | ⟨ss, sq⟩
    · simp only [go_sem, Nat.reduceEqDiff, Nat.reduceAdd, Nat.reduceLT, Nat.reduceLeDiff, reduceIte, g2, g3, g7, g9, g11, g12, g13, LCells, SCells, z, c1, c2, c3, c4, ss]
      exact T1 _ (by simp only [go_sem, Nat.reduceEqDiff, Nat.reduceAdd, Nat.reduceLT, Nat.reduceLeDiff, reduceIte, g2]) (by simp only [go_sem, Nat.reduceEqDiff, Nat.reduceAdd, Nat.reduceLT, Nat.reduceLeDiff, reduceIte, g3]) (by simp only [go_sem, Nat.reduceEqDiff, Nat.reduceAdd, Nat.reduceLT, Nat.reduceLeDiff, reduceIte, g11]) _
    · simp only [go_sem, Nat.reduceEqDiff, Nat.reduceAdd, Nat.reduceLT, Nat.reduceLeDiff, reduceIte, g2, g3, g7, g9, g11, g12, g13, LCells, SCells, z, c1, c2, c3, c4, ss, sq]
      exact T1 _ (by simp only [go_sem, Nat.reduceEqDiff, Nat.reduceAdd, Nat.reduceLT, Nat.reduceLeDiff, reduceIte, g2]) (by simp only [go_sem, Nat.reduceEqDiff, Nat.reduceAdd, Nat.reduceLT, Nat.reduceLeDiff, reduceIte, g3]) (by simp only [go_sem, Nat.reduceEqDiff, Nat.reduceAdd, Nat.reduceLT, Nat.reduceLeDiff, reduceIte, g11]) _
  simp only [go_sem, Nat.reduceEqDiff, Nat.reduceAdd, Nat.reduceLT, Nat.reduceLeDiff, reduceIte, LCells, SCells, WB32, WVH_eq hR, WB33, WVH_eq hH, WVH_eq hG, hhk, true_and, WB24, WVH_eq hA, WVH_eq hB, WB28, WVH_eq hU, z]
  exact T0 _ (by simp only [go_sem, Nat.reduceEqDiff, Nat.reduceAdd, Nat.reduceLT, Nat.reduceLeDiff, reduceIte]) (by simp only [go_sem, Nat.reduceEqDiff, Nat.reduceAdd, Nat.reduceLT, Nat.reduceLeDiff, reduceIte]) (by simp only [go_sem, Nat.reduceEqDiff, Nat.reduceAdd, Nat.reduceLT, Nat.reduceLeDiff, reduceIte]) (by simp only [go_sem, Nat.reduceEqDiff, Nat.reduceAdd, Nat.reduceLT, Nat.reduceLeDiff, reduceIte]) (by simp only [go_sem, Nat.reduceEqDiff, Nat.reduceAdd, Nat.reduceLT, Nat.reduceLeDiff, reduceIte]) (by simp only [go_sem, Nat.reduceEqDiff, Nat.reduceAdd, Nat.reduceLT, Nat.reduceLeDiff, reduceIte]) (by simp only [go_sem, Nat.reduceEqDiff, Nat.reduceAdd, Nat.reduceLT, Nat.reduceLeDiff, reduceIte]) _
end Go.Ab.T
end
