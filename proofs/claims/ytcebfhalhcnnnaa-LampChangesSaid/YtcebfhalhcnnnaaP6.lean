/-
  A part of the proofs over this seat.
  (The texts KlK12, one behind the other.)
-/
import Derived.Test.YtcebfhalhcnnnaaP5
set_option linter.unusedSimpArgs false
set_option linter.unusedVariables false
set_option linter.unusedSectionVars false
section
namespace Go.Ab.T
set_option maxRecDepth 8000
set_option maxHeartbeats 4000000
theorem hrR_iff {h : Int} : hrR h = true ↔ 0 ≤ h ∧ h ≤ 40 := inR_iff
theorem at_spec {l : Lm} {h : Int} (h0 : khM l h = 0) : (∀ x ∈ truM l, (atM l h).lo ≤ lit x h ∧ lit x h ≤ (atM l h).hi) ∧ (∃ x ∈ truM l, lit x h = (atM l h).lo) ∧ (∃ x ∈ truM l, lit x h = (atM l h).hi) := by
  obtain ⟨hv, ⟨h1, h2⟩, h3⟩ := khM_0.1 h0
  unfold atM
  rw [if_pos h0]
  exact bnd_spec (fun x => lit x h) h3
theorem kp_spec {l : Lm} {h : Int} (h0 : khM l h = 0) {x : Ln} (hx : x ∈ truM l) : (inS l.no (lit x h) = true → kpM l h = 1 ∨ kpM l h = 3) ∧ (inS l.no (lit x h) = false → kpM l h = 2 ∨ kpM l h = 3) := by
  unfold kpM
  rw [if_pos h0]
  constructor
  · intro hi
    split
    · exact .inl rfl
    · rw [if_pos (List.any_eq_true.2 ⟨x, hx, hi⟩)]; exact .inr rfl
  · intro hi
    rw [if_neg (fun ha => by have := List.all_eq_true.1 ha x hx; rw [hi] at this; cases this)]
    split
    · exact .inr rfl
    · exact .inl rfl
theorem unM_spec {l : Lm} {h : Int} (h0 : khM l h = 0) : ((unM l h).lo = -1 ∨ h ≤ (unM l h).lo) ∧ ((unM l h).hi = -1 ∨ h ≤ (unM l h).hi) ∧ ((unM l h).lo ≤ l.ra ∧ (unM l h).hi ≤ l.ra) ∧ (unM l h).lo ≤ (unM l h).hi ∧ ∀ k, h ≤ k → k ≤ l.ra → ((truM l).all (kpR l h k) = decide (k ≤ (unM l h).lo) ∧ (truM l).any (kpR l h k) = decide (k ≤ (unM l h).hi)) := by
  obtain ⟨hv, ⟨h1, h2⟩, h3⟩ := khM_0.1 h0
  obtain ⟨a, b, c, d⟩ := un_spec hv h1 h3
  have e : (bndM (lastK l h) (truM l)).1.lo ≤ (bndM (lastK l h) (truM l)).1.hi := by
    obtain ⟨s1, ⟨x, hx, _⟩, _⟩ := bnd_spec (lastK l h) h3
    have := s1 x hx; omega
  unfold unM
  rw [if_pos h0]
  exact ⟨a, b, c, e, d⟩
theorem kpR_nil (l : Lm) {a b : Int} (h : b < a) (x : Ln) : kpR l a b x = true := by
  unfold kpR; rw [rgI_nil h]; rfl
def tl6_3 : ACode := (.seq (.region [⟨(some 140), none, .mov (.t 16)⟩,
    ⟨(some 141), none, .bin .add (.t 140) (.c (.int .i64 1))⟩,
    ⟨(some 142), none, .addr (.t 3) 6⟩,
    ⟨(some 143), none, .load (.t 142) none⟩,
    ⟨(some 144), none, .bin .gtr (.t 141) (.t 143)⟩,
    ⟨(some 145), none, .mov (.t 144)⟩,
    ⟨(some 146), some (145, false), .load (.t 3) (some 9)⟩,
    ⟨(some 147), some (145, false), .load (.t 4) (some 2)⟩,
    ⟨(some 148), some (145, false), .mov (.t 2)⟩,
    ⟨(some 149), some (145, false), .mov (.t 16)⟩,
    ⟨(some 150), some (145, false), .bin .add (.t 149) (.c (.int .i64 1))⟩,
    ⟨(some 151), some (145, false), .call 36 [(.t 146), (.t 147), (.t 148), (.t 150)]⟩,
    ⟨(some 152), some (145, false), .not (.t 151)⟩,
    ⟨(some 153), none, .pick (.t 145) (.c (.bool true)) (.t 152)⟩,
    ⟨(some 154), none, .mov (.t 153)⟩,
    ⟨(some 155), some (154, true), .call 13 []⟩,
    ⟨(some 156), none, .pick (.t 154) (.t 155) (.c (.bool false))⟩,
    ⟨(some 6), none, .mov (.t 156)⟩])
  (.ret))
def tl6_2 : ACode := (.seq (.seq (.region [⟨(some 109), none, .mov (.t 11)⟩,
    ⟨(some 110), none, .addr (.t 3) 6⟩,
    ⟨(some 111), none, .load (.t 110) none⟩,
    ⟨(some 112), none, .bin .gtr (.t 109) (.t 111)⟩,
    ⟨(some 113), none, .mov (.t 112)⟩,
    ⟨(some 114), some (113, false), .mov (.t 12)⟩,
    ⟨(some 115), some (113, false), .addr (.t 3) 6⟩,
    ⟨(some 116), some (113, false), .load (.t 115) none⟩,
    ⟨(some 117), some (113, false), .bin .gtr (.t 114) (.t 116)⟩,
    ⟨(some 118), none, .pick (.t 113) (.c (.bool true)) (.t 117)⟩,
    ⟨(some 119), none, .mov (.t 118)⟩,
    ⟨(some 120), some (119, false), .mov (.t 11)⟩,
    ⟨(some 121), some (119, false), .bin .geq (.t 120) (.c (.int .i64 0))⟩,
    ⟨(some 122), some (119, false), .mov (.t 121)⟩,
    ⟨(some 123), some (122, true), .mov (.t 11)⟩,
    ⟨(some 124), some (122, true), .mov (.t 2)⟩,
    ⟨(some 125), some (122, true), .bin .lss (.t 123) (.t 124)⟩,
    ⟨(some 126), some (122, true), .mov (.t 125)⟩,
    ⟨(some 127), some (126, false), .load (.t 3) (some 9)⟩,
    ⟨(some 128), some (126, false), .load (.t 4) (some 2)⟩,
    ⟨(some 129), some (126, false), .mov (.t 2)⟩,
    ⟨(some 130), some (126, false), .mov (.t 11)⟩,
    ⟨(some 131), some (126, false), .call 36 [(.t 127), (.t 128), (.t 129), (.t 130)]⟩,
    ⟨(some 132), some (126, false), .not (.t 131)⟩,
    ⟨(some 133), some (122, true), .pick (.t 126) (.c (.bool true)) (.t 132)⟩,
    ⟨(some 134), some (119, false), .pick (.t 122) (.t 133) (.c (.bool false))⟩,
    ⟨(some 135), none, .pick (.t 119) (.c (.bool true)) (.t 134)⟩])
  (.cond (.t 135) (.seq (.region [⟨(some 6), none, .mov (.c (.bool false))⟩])
  (.ret))
  (.skip)))
  (.seq (.region [⟨(some 136), none, .mov (.t 12)⟩,
    ⟨(some 137), none, .mov (.t 2)⟩,
    ⟨(some 138), none, .bin .sub (.t 137) (.c (.int .i64 1))⟩,
    ⟨(some 139), none, .mnx true (.t 136) (.t 138)⟩,
    ⟨(some 16), none, .mov (.t 139)⟩])
  tl6_3))
def tl6_1 : ACode := (.seq (.seq (.region [⟨(some 88), none, .mov (.t 15)⟩,
    ⟨(some 89), none, .mov (.t 88)⟩,
    ⟨(some 90), some (89, true), .mov (.t 9)⟩,
    ⟨(some 91), some (89, true), .bin .eql (.t 90) (.c (.int .i64 2))⟩,
    ⟨(some 92), none, .pick (.t 89) (.t 91) (.c (.bool false))⟩,
    ⟨(some 93), none, .mov (.t 92)⟩,
    ⟨(some 94), some (93, false), .mov (.t 15)⟩,
    ⟨(some 95), some (93, false), .not (.t 94)⟩,
    ⟨(some 96), some (93, false), .mov (.t 95)⟩,
    ⟨(some 97), some (96, true), .mov (.t 9)⟩,
    ⟨(some 98), some (96, true), .bin .eql (.t 97) (.c (.int .i64 1))⟩,
    ⟨(some 99), some (93, false), .pick (.t 96) (.t 98) (.c (.bool false))⟩,
    ⟨(some 100), none, .pick (.t 93) (.c (.bool true)) (.t 99)⟩,
    ⟨(some 101), none, .mov (.t 100)⟩,
    ⟨(some 102), some (101, false), .mov (.t 9)⟩,
    ⟨(some 103), some (101, false), .bin .lss (.t 102) (.c (.int .i64 1))⟩,
    ⟨(some 104), none, .pick (.t 101) (.c (.bool true)) (.t 103)⟩,
    ⟨(some 105), none, .mov (.t 104)⟩,
    ⟨(some 106), some (105, false), .mov (.t 9)⟩,
    ⟨(some 107), some (105, false), .bin .gtr (.t 106) (.c (.int .i64 3))⟩,
    ⟨(some 108), none, .pick (.t 105) (.c (.bool true)) (.t 107)⟩])
  (.cond (.t 108) (.seq (.region [⟨(some 6), none, .mov (.c (.bool false))⟩])
  (.ret))
  (.skip)))
  tl6_2)
def tl6_0 : ACode := (.seq (.region [⟨(some 76), none, .mov (.t 14)⟩,
    ⟨(some 77), none, .addr (.t 3) 4⟩,
    ⟨(some 78), none, .addr (.t 77) 0⟩,
    ⟨(some 79), none, .load (.t 78) none⟩,
    ⟨(some 80), none, .bin .geq (.t 76) (.t 79)⟩,
    ⟨(some 81), none, .mov (.t 80)⟩,
    ⟨(some 82), some (81, true), .mov (.t 14)⟩,
    ⟨(some 83), some (81, true), .addr (.t 3) 4⟩,
    ⟨(some 84), some (81, true), .addr (.t 83) 1⟩,
    ⟨(some 85), some (81, true), .load (.t 84) none⟩,
    ⟨(some 86), some (81, true), .bin .leq (.t 82) (.t 85)⟩,
    ⟨(some 87), none, .pick (.t 81) (.t 86) (.c (.bool false))⟩,
    ⟨(some 15), none, .mov (.t 87)⟩])
  tl6_1)
theorem cut6 : c6 = .seq (.region [⟨(some 3), none, .box (.t 0) 9⟩,
    ⟨(some 4), none, .box (.t 1) 2⟩,
    ⟨(some 6), none, .mov (.c (.bool false))⟩])
  (.seq (.seq (.region [⟨(some 17), none, .load (.t 3) (some 9)⟩,
    ⟨(some 18), none, .call 32 [(.t 17)]⟩,
    ⟨(some 19), none, .not (.t 18)⟩,
    ⟨(some 20), none, .mov (.t 19)⟩,
    ⟨(some 21), some (20, false), .mov (.t 2)⟩,
    ⟨(some 22), some (20, false), .call 33 [(.t 21)]⟩,
    ⟨(some 23), some (20, false), .not (.t 22)⟩,
    ⟨(some 24), none, .pick (.t 20) (.c (.bool true)) (.t 23)⟩,
    ⟨(some 25), none, .mov (.t 24)⟩,
    ⟨(some 26), some (25, false), .load (.t 3) (some 9)⟩,
    ⟨(some 27), some (25, false), .load (.t 4) (some 2)⟩,
    ⟨(some 28), some (25, false), .call 34 [(.t 26), (.t 27)]⟩,
    ⟨(some 29), some (25, false), .not (.t 28)⟩,
    ⟨(some 30), none, .pick (.t 25) (.c (.bool true)) (.t 29)⟩])
  (.cond (.t 30) (.seq (.region [⟨(some 31), none, .call 13 []⟩,
    ⟨(some 6), none, .mov (.t 31)⟩])
  (.ret))
  (.skip)))
  (.seq (.region [⟨(some 33), none, .load (.t 3) (some 9)⟩,
    ⟨(some 34), none, .mov (.t 2)⟩,
    ⟨(some 35), none, .call 24 [(.t 33), (.t 34)]⟩,
    ⟨(some 32), none, .mov (.t 35)⟩,
    ⟨(some 36), none, .ext (.t 32) 0⟩,
    ⟨(some 37), none, .ext (.t 32) 1⟩,
    ⟨(some 7), none, .new (.agg [(.int .i64 0), (.int .i64 0)]) 2⟩,
    ⟨none, none, .store (.t 7) (.t 36) 2⟩,
    ⟨(some 8), none, .mov (.t 37)⟩])
  (.seq (.region [⟨(some 39), none, .load (.t 3) (some 9)⟩,
    ⟨(some 40), none, .mov (.t 2)⟩,
    ⟨(some 41), none, .call 26 [(.t 39), (.t 40)]⟩,
    ⟨(some 38), none, .mov (.t 41)⟩,
    ⟨(some 42), none, .ext (.t 38) 0⟩,
    ⟨(some 43), none, .ext (.t 38) 1⟩,
    ⟨(some 9), none, .mov (.t 42)⟩,
    ⟨(some 10), none, .mov (.t 43)⟩])
  (.seq (.region [⟨(some 45), none, .load (.t 3) (some 9)⟩,
    ⟨(some 46), none, .mov (.t 2)⟩,
    ⟨(some 47), none, .call 28 [(.t 45), (.t 46)]⟩,
    ⟨(some 44), none, .mov (.t 47)⟩,
    ⟨(some 48), none, .ext (.t 44) 0⟩,
    ⟨(some 49), none, .ext (.t 44) 1⟩,
    ⟨(some 50), none, .ext (.t 44) 2⟩,
    ⟨(some 11), none, .mov (.t 48)⟩,
    ⟨(some 12), none, .mov (.t 49)⟩,
    ⟨(some 13), none, .mov (.t 50)⟩])
  (.seq (.region [⟨(some 51), none, .load (.t 4) (some 2)⟩,
    ⟨(some 52), none, .mov (.t 2)⟩,
    ⟨(some 53), none, .call 35 [(.t 51), (.t 52)]⟩,
    ⟨(some 14), none, .mov (.t 53)⟩])
  (.seq (.seq (.region [⟨(some 54), none, .mov (.t 8)⟩,
    ⟨(some 55), none, .bin .neq (.t 54) (.c (.int .i64 0))⟩,
    ⟨(some 56), none, .mov (.t 55)⟩,
    ⟨(some 57), some (56, false), .mov (.t 10)⟩,
    ⟨(some 58), some (56, false), .bin .neq (.t 57) (.c (.int .i64 0))⟩,
    ⟨(some 59), none, .pick (.t 56) (.c (.bool true)) (.t 58)⟩,
    ⟨(some 60), none, .mov (.t 59)⟩,
    ⟨(some 61), some (60, false), .mov (.t 13)⟩,
    ⟨(some 62), some (60, false), .bin .neq (.t 61) (.c (.int .i64 0))⟩,
    ⟨(some 63), none, .pick (.t 60) (.c (.bool true)) (.t 62)⟩,
    ⟨(some 64), none, .mov (.t 63)⟩,
    ⟨(some 65), some (64, false), .mov (.t 14)⟩,
    ⟨(some 66), some (64, false), .addr (.t 7) 0⟩,
    ⟨(some 67), some (64, false), .load (.t 66) none⟩,
    ⟨(some 68), some (64, false), .bin .lss (.t 65) (.t 67)⟩,
    ⟨(some 69), none, .pick (.t 64) (.c (.bool true)) (.t 68)⟩,
    ⟨(some 70), none, .mov (.t 69)⟩,
    ⟨(some 71), some (70, false), .mov (.t 14)⟩,
    ⟨(some 72), some (70, false), .addr (.t 7) 1⟩,
    ⟨(some 73), some (70, false), .load (.t 72) none⟩,
    ⟨(some 74), some (70, false), .bin .gtr (.t 71) (.t 73)⟩,
    ⟨(some 75), none, .pick (.t 70) (.c (.bool true)) (.t 74)⟩])
  (.cond (.t 75) (.seq (.region [⟨(some 6), none, .mov (.c (.bool false))⟩])
  (.ret))
  (.skip)))
  tl6_0)))))) := rfl
theorem LampTrue_run (l : Lm) (x : Ln) (h : Int) : RV ft 6 [encL l, encN x, I64 h] (.bool true) := by
  refine RV_of ft6 rfl ?_
  simp only [cut6, r6]
  have hR := ready_ok l
  cases hr : rdM l
  case false =>
    rw [hr] at hR
    simp only [go_sem, Nat.reduceEqDiff, Nat.reduceAdd, Nat.reduceLT, Nat.reduceLeDiff, reduceIte, WB32, WVH_eq hR, true_and, WB13, WVH_eq works_ok]
  obtain ⟨hfar, hok⟩ := rdM_iff hr
  have hv := okL_iff.1 hok
  have h40 := rdM_len hfar
  have hl : l.gs.length < 1073741824 := by omega
  rw [hr] at hR
  have hH := isHourR_ok h
  cases hh : hrR h
  case false =>
    rw [hh] at hH
    simp only [go_sem, Nat.reduceEqDiff, Nat.reduceAdd, Nat.reduceLT, Nat.reduceLeDiff, reduceIte, WB32, WVH_eq hR, WB33, WVH_eq hH, true_and, WB13, WVH_eq works_ok]
  rw [hh] at hH
  have hT := IsTruth_ok hv x
  cases hi : itM l x
  case false =>
    rw [hi] at hT
    simp only [go_sem, Nat.reduceEqDiff, Nat.reduceAdd, Nat.reduceLT, Nat.reduceLeDiff, reduceIte, NCells, NEta, WB32, WVH_eq hR, WB33, WVH_eq hH, WB34, WVH_eq hT, true_and, WB13, WVH_eq works_ok]
  rw [hi] at hT
  have hx := itM_iff.1 hi
  have hN := linM_NV hv (truM_lin hx)
  obtain ⟨h0, h1⟩ := hrR_iff.1 hh
  have hkh : khM l h = 0 := khM_0.2 ⟨hv, ⟨h0, h1⟩, fun he => by rw [he] at hx; cases hx⟩
  have hA := At_ok l h hl
  have hK := Keeps_ok l h hl
  have hU := Until_ok l h hl
  have hL := Light_ok hN h0 (show h ≤ 80 by omega)
  obtain ⟨sa, _, _⟩ := at_spec hkh
  obtain ⟨a1, a2⟩ := sa x hx
  have sk := kp_spec hkh hx
  obtain ⟨u1, u2, ⟨u3, u4⟩, u5, u6⟩ := unM_spec hkh
  rw [hkh] at hA hK hU
  generalize atM l h = A at hA a1 a2
  generalize kpM l h = n at hK sk
  generalize unM l h = U at hU u1 u2 u3 u4 u5 u6
  obtain ⟨sure, may⟩ := U
  dsimp only at hU u1 u2 u3 u4 u5 u6
  have hr1 := hv.r1
  have z : ((0 : Int) != 0) = false := rfl
  have c1 : decide (lit x h < A.lo) = false := decide_eq_false (by omega)
  have c2 : decide (A.hi < lit x h) = false := decide_eq_false (by omega)
  have t1 : decide (l.ra < sure) = false := decide_eq_false (by omega)
  have t2 : decide (l.ra < may) = false := decide_eq_false (by omega)
  have k1 := Kept_ok l hN h0 (show sure ≤ 80 by omega)
  have k1' : kpR l h sure x = true := by
    rcases u1 with u1 | u1
    · exact kpR_nil l (by omega) x
    · have := (u6 sure u1 (by omega)).1
      rw [decide_eq_true (Int.le_refl _)] at this
      exact List.all_eq_true.1 this x hx
  rw [k1'] at k1
  have w1 : IntKind.i64.wrap (h - 1) = h - 1 := wrap_i64 _ (by omega) (by omega)
  have w2 : IntKind.i64.wrap (max may (h - 1) + 1) = max may (h - 1) + 1 := wrap_i1 _ (by omega) (by omega)
  have k2 := Kept_ok l hN h0 (show max may (h - 1) + 1 ≤ 80 by omega)
  have hn : decide (n < 1) = false ∧ decide (3 < n) = false := by
    cases hin : inS l.no (lit x h)
    · rcases sk.2 hin with h | h <;> subst h <;> exact ⟨rfl, rfl⟩
    · rcases sk.1 hin with h | h <;> subst h <;> exact ⟨rfl, rfl⟩
  obtain ⟨n1, n2⟩ := hn
  have ks : (∃ (b1 b2 : Bool), decide (l.no.lo ≤ lit x h) = b1 ∧ decide (lit x h ≤ l.no.hi) = b2 ∧ (((b1 && b2) = true ∧ (n == 2) = false) ∨ ((b1 && b2) = false ∧ (n == 1) = false))) := by
    refine ⟨_, _, rfl, rfl, ?_⟩
    cases hin : inS l.no (lit x h)
    · right
      refine ⟨hin, ?_⟩
      rcases sk.2 hin with h | h <;> subst h <;> rfl
    · left
      refine ⟨hin, ?_⟩
      rcases sk.1 hin with h | h <;> subst h <;> rfl
  obtain ⟨b1, b2, e1, e2, hb⟩ := ks
  have kk : decide (l.ra < max may (h - 1) + 1) = true ∨ (decide (l.ra < max may (h - 1) + 1) = false ∧ kpR l h (max may (h - 1) + 1) x = false) := by
    by_cases hlt : l.ra < max may (h - 1) + 1
    · exact .inl (decide_eq_true hlt)
    · refine .inr ⟨decide_eq_false hlt, ?_⟩
      have := (u6 (max may (h - 1) + 1) (by omega) (by omega)).2
      rw [decide_eq_false (show ¬ max may (h - 1) + 1 ≤ may by omega)] at this
      cases hkp : kpR l h (max may (h - 1) + 1) x
      · rfl
      · rw [List.any_eq_true.2 ⟨x, hx, hkp⟩] at this; cases this
  have ss : decide (0 ≤ sure) = false ∨ (decide (0 ≤ sure) = true ∧ decide (sure < h) = false) := by
    rcases u1 with u1 | u1
    · left; exact decide_eq_false (by omega)
    · right; exact ⟨decide_eq_true (by omega), decide_eq_false (by omega)⟩
  clear u1 u2 u3 u4 u5 u6 sk sa a1 a2 hi hkh
  have T3 : ∀ e : Nat → AV, e 2 = I64 h → e 3 = .ptr 0 0 0 → e 4 = .ptr 1 0 0 → e 16 = I64 (max may (h - 1)) → ∀ bl, W ft tl6_3 ⟨e, ⟨.live [encL l] 9 :: .live [encN x] 2 :: bl, []⟩⟩ (Fin [.t 6] fun u m => Ab.snap m dep u = .bool true) := by
    intro e g2 g3 g4 g16 bl
    simp only [tl6_3]
    rcases kk with kk | ⟨kk, kq⟩
    · simp only [go_sem, Nat.reduceEqDiff, Nat.reduceAdd, Nat.reduceLT, Nat.reduceLeDiff, reduceIte, g2, g3, g4, g16, LCells, NCells, NEta, kk, w2, WB13, WVH_eq works_ok, true_and]
    · rw [kq] at k2
      simp only [go_sem, Nat.reduceEqDiff, Nat.reduceAdd, Nat.reduceLT, Nat.reduceLeDiff, reduceIte, g2, g3, g4, g16, LCells, NCells, NEta, kk, w2, WB36, WVH_eq k2, WB13, WVH_eq works_ok, true_and]
  have T2 : ∀ e : Nat → AV, e 2 = I64 h → e 3 = .ptr 0 0 0 → e 4 = .ptr 1 0 0 → e 11 = I64 sure → e 12 = I64 may → ∀ bl, W ft tl6_2 ⟨e, ⟨.live [encL l] 9 :: .live [encN x] 2 :: bl, []⟩⟩ (Fin [.t 6] fun u m => Ab.snap m dep u = .bool true) := by
    intro e g2 g3 g4 g11 g12 bl
    simp only [tl6_2]
    rcases ss with ss | ⟨ss, sq⟩
    · simp only [go_sem, Nat.reduceEqDiff, Nat.reduceAdd, Nat.reduceLT, Nat.reduceLeDiff, reduceIte, g2, g3, g4, g11, g12, LCells, NCells, NEta, t1, t2, ss, w1]
      exact T3 _ (by simp only [go_sem, Nat.reduceEqDiff, Nat.reduceAdd, Nat.reduceLT, Nat.reduceLeDiff, reduceIte, g2]) (by simp only [go_sem, Nat.reduceEqDiff, Nat.reduceAdd, Nat.reduceLT, Nat.reduceLeDiff, reduceIte, g3]) (by simp only [go_sem, Nat.reduceEqDiff, Nat.reduceAdd, Nat.reduceLT, Nat.reduceLeDiff, reduceIte, g4]) (by simp only [go_sem, Nat.reduceEqDiff, Nat.reduceAdd, Nat.reduceLT, Nat.reduceLeDiff, reduceIte]) _
    · simp only [go_sem, Nat.reduceEqDiff, Nat.reduceAdd, Nat.reduceLT, Nat.reduceLeDiff, reduceIte, g2, g3, g4, g11, g12, LCells, NCells, NEta, t1, t2, ss, sq, w1, WB36, WVH_eq k1, true_and]
      exact T3 _ (by simp only [go_sem, Nat.reduceEqDiff, Nat.reduceAdd, Nat.reduceLT, Nat.reduceLeDiff, reduceIte, g2]) (by simp only [go_sem, Nat.reduceEqDiff, Nat.reduceAdd, Nat.reduceLT, Nat.reduceLeDiff, reduceIte, g3]) (by simp only [go_sem, Nat.reduceEqDiff, Nat.reduceAdd, Nat.reduceLT, Nat.reduceLeDiff, reduceIte, g4]) (by simp only [go_sem, Nat.reduceEqDiff, Nat.reduceAdd, Nat.reduceLT, Nat.reduceLeDiff, reduceIte]) _
  have T1 : ∀ (e : Nat → AV) (b : Bool), (b = true ∧ (n == 2) = false ∨ b = false ∧ (n == 1) = false) → e 2 = I64 h → e 3 = .ptr 0 0 0 → e 4 = .ptr 1 0 0 → e 11 = I64 sure → e 12 = I64 may → e 9 = I64 n → e 15 = .bool b → ∀ bl, W ft tl6_1 ⟨e, ⟨.live [encL l] 9 :: .live [encN x] 2 :: bl, []⟩⟩ (Fin [.t 6] fun u m => Ab.snap m dep u = .bool true) := by
    intro e b hb g2 g3 g4 g11 g12 g9 g15 bl
    simp only [tl6_1]
    rcases hb with ⟨rfl, hn⟩ | ⟨rfl, hn⟩
    · simp only [go_sem, Nat.reduceEqDiff, Nat.reduceAdd, Nat.reduceLT, Nat.reduceLeDiff, reduceIte, g2, g3, g4, g11, g12, g9, g15, hn, n1, n2]
      exact T2 _ (by simp only [go_sem, Nat.reduceEqDiff, Nat.reduceAdd, Nat.reduceLT, Nat.reduceLeDiff, reduceIte, g2]) (by simp only [go_sem, Nat.reduceEqDiff, Nat.reduceAdd, Nat.reduceLT, Nat.reduceLeDiff, reduceIte, g3]) (by simp only [go_sem, Nat.reduceEqDiff, Nat.reduceAdd, Nat.reduceLT, Nat.reduceLeDiff, reduceIte, g4]) (by simp only [go_sem, Nat.reduceEqDiff, Nat.reduceAdd, Nat.reduceLT, Nat.reduceLeDiff, reduceIte, g11]) (by simp only [go_sem, Nat.reduceEqDiff, Nat.reduceAdd, Nat.reduceLT, Nat.reduceLeDiff, reduceIte, g12]) _
    · simp only [go_sem, Nat.reduceEqDiff, Nat.reduceAdd, Nat.reduceLT, Nat.reduceLeDiff, reduceIte, g2, g3, g4, g11, g12, g9, g15, hn, n1, n2]
      exact T2 _ (by simp only [go_sem, Nat.reduceEqDiff, Nat.reduceAdd, Nat.reduceLT, Nat.reduceLeDiff, reduceIte, g2]) (by simp only [go_sem, Nat.reduceEqDiff, Nat.reduceAdd, Nat.reduceLT, Nat.reduceLeDiff, reduceIte, g3]) (by simp only [go_sem, Nat.reduceEqDiff, Nat.reduceAdd, Nat.reduceLT, Nat.reduceLeDiff, reduceIte, g4]) (by simp only [go_sem, Nat.reduceEqDiff, Nat.reduceAdd, Nat.reduceLT, Nat.reduceLeDiff, reduceIte, g11]) (by simp only [go_sem, Nat.reduceEqDiff, Nat.reduceAdd, Nat.reduceLT, Nat.reduceLeDiff, reduceIte, g12]) _
  have T0 : ∀ e : Nat → AV, e 2 = I64 h → e 3 = .ptr 0 0 0 → e 4 = .ptr 1 0 0 → e 11 = I64 sure → e 12 = I64 may → e 9 = I64 n → e 14 = I64 (lit x h) → ∀ bl, W ft tl6_0 ⟨e, ⟨.live [encL l] 9 :: .live [encN x] 2 :: bl, []⟩⟩ (Fin [.t 6] fun u m => Ab.snap m dep u = .bool true) := by
    intro e g2 g3 g4 g11 g12 g9 g14 bl
    simp only [tl6_0]
    have hb' : (b1 && b2) = true ∧ (n == 2) = false ∨ (b1 && b2) = false ∧ (n == 1) = false := hb
    cases b1
    · simp only [go_sem, Nat.reduceEqDiff, Nat.reduceAdd, Nat.reduceLT, Nat.reduceLeDiff, reduceIte, g2, g3, g4, g11, g12, g9, g14, LCells, e1]
      exact T1 _ _ hb' (by simp only [go_sem, Nat.reduceEqDiff, Nat.reduceAdd, Nat.reduceLT, Nat.reduceLeDiff, reduceIte, g2]) (by simp only [go_sem, Nat.reduceEqDiff, Nat.reduceAdd, Nat.reduceLT, Nat.reduceLeDiff, reduceIte, g3]) (by simp only [go_sem, Nat.reduceEqDiff, Nat.reduceAdd, Nat.reduceLT, Nat.reduceLeDiff, reduceIte, g4]) (by simp only [go_sem, Nat.reduceEqDiff, Nat.reduceAdd, Nat.reduceLT, Nat.reduceLeDiff, reduceIte, g11]) (by simp only [go_sem, Nat.reduceEqDiff, Nat.reduceAdd, Nat.reduceLT, Nat.reduceLeDiff, reduceIte, g12]) (by simp only [go_sem, Nat.reduceEqDiff, Nat.reduceAdd, Nat.reduceLT, Nat.reduceLeDiff, reduceIte, g9]) (by simp only [go_sem, Nat.reduceEqDiff, Nat.reduceAdd, Nat.reduceLT, Nat.reduceLeDiff, reduceIte]) _
    · cases b2
      · simp only [go_sem, Nat.reduceEqDiff, Nat.reduceAdd, Nat.reduceLT, Nat.reduceLeDiff, reduceIte, g2, g3, g4, g11, g12, g9, g14, LCells, e1, e2]
        exact T1 _ _ hb' (by simp only [go_sem, Nat.reduceEqDiff, Nat.reduceAdd, Nat.reduceLT, Nat.reduceLeDiff, reduceIte, g2]) (by simp only [go_sem, Nat.reduceEqDiff, Nat.reduceAdd, Nat.reduceLT, Nat.reduceLeDiff, reduceIte, g3]) (by simp only [go_sem, Nat.reduceEqDiff, Nat.reduceAdd, Nat.reduceLT, Nat.reduceLeDiff, reduceIte, g4]) (by simp only [go_sem, Nat.reduceEqDiff, Nat.reduceAdd, Nat.reduceLT, Nat.reduceLeDiff, reduceIte, g11]) (by simp only [go_sem, Nat.reduceEqDiff, Nat.reduceAdd, Nat.reduceLT, Nat.reduceLeDiff, reduceIte, g12]) (by simp only [go_sem, Nat.reduceEqDiff, Nat.reduceAdd, Nat.reduceLT, Nat.reduceLeDiff, reduceIte, g9]) (by simp only [go_sem, Nat.reduceEqDiff, Nat.reduceAdd, Nat.reduceLT, Nat.reduceLeDiff, reduceIte]) _
      · simp only [go_sem, Nat.reduceEqDiff, Nat.reduceAdd, Nat.reduceLT, Nat.reduceLeDiff, reduceIte, g2, g3, g4, g11, g12, g9, g14, LCells, e1, e2]
        exact T1 _ _ hb' (by simp only [go_sem, Nat.reduceEqDiff, Nat.reduceAdd, Nat.reduceLT, Nat.reduceLeDiff, reduceIte, g2]) (by simp only [go_sem, Nat.reduceEqDiff, Nat.reduceAdd, Nat.reduceLT, Nat.reduceLeDiff, reduceIte, g3]) (by simp only [go_sem, Nat.reduceEqDiff, Nat.reduceAdd, Nat.reduceLT, Nat.reduceLeDiff, reduceIte, g4]) (by simp only [go_sem, Nat.reduceEqDiff, Nat.reduceAdd, Nat.reduceLT, Nat.reduceLeDiff, reduceIte, g11]) (by simp only [go_sem, Nat.reduceEqDiff, Nat.reduceAdd, Nat.reduceLT, Nat.reduceLeDiff, reduceIte, g12]) (by simp only [go_sem, Nat.reduceEqDiff, Nat.reduceAdd, Nat.reduceLT, Nat.reduceLeDiff, reduceIte, g9]) (by simp only [go_sem, Nat.reduceEqDiff, Nat.reduceAdd, Nat.reduceLT, Nat.reduceLeDiff, reduceIte]) _
  simp only [go_sem, Nat.reduceEqDiff, Nat.reduceAdd, Nat.reduceLT, Nat.reduceLeDiff, reduceIte, LCells, NCells, NEta, SCells, WB32, WVH_eq hR, WB33, WVH_eq hH, WB34, WVH_eq hT, WB24, WVH_eq hA, WB26, WVH_eq hK, WB28, WVH_eq hU, WB35, WVH_eq hL, true_and, z, c1, c2]
  exact T0 _ (by simp only [go_sem, Nat.reduceEqDiff, Nat.reduceAdd, Nat.reduceLT, Nat.reduceLeDiff, reduceIte]) (by simp only [go_sem, Nat.reduceEqDiff, Nat.reduceAdd, Nat.reduceLT, Nat.reduceLeDiff, reduceIte]) (by simp only [go_sem, Nat.reduceEqDiff, Nat.reduceAdd, Nat.reduceLT, Nat.reduceLeDiff, reduceIte]) (by simp only [go_sem, Nat.reduceEqDiff, Nat.reduceAdd, Nat.reduceLT, Nat.reduceLeDiff, reduceIte]) (by simp only [go_sem, Nat.reduceEqDiff, Nat.reduceAdd, Nat.reduceLT, Nat.reduceLeDiff, reduceIte]) (by simp only [go_sem, Nat.reduceEqDiff, Nat.reduceAdd, Nat.reduceLT, Nat.reduceLeDiff, reduceIte]) (by simp only [go_sem, Nat.reduceEqDiff, Nat.reduceAdd, Nat.reduceLT, Nat.reduceLeDiff, reduceIte]) _
end Go.Ab.T
end
