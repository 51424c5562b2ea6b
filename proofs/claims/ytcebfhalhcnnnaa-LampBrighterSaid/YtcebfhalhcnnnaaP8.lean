/-
  A part of the proofs over this seat.
  (The texts KlK14, one behind the other.)
-/
import Derived.Test.YtcebfhalhcnnnaaP7
set_option linter.unusedSimpArgs false
set_option linter.unusedVariables false
set_option linter.unusedSectionVars false
section
namespace Go.Ab.T
set_option maxRecDepth 8000
set_option maxHeartbeats 4000000
def tl9_3 : ACode := (.seq (.seq (.region [⟨(some 12), none, .mov (.c (.int .i64 0))⟩])
  (.block 0 (.loop (.seq (.seq (.region [⟨(some 84), none, .mov (.t 12)⟩,
    ⟨(some 85), none, .mov (.t 9)⟩,
    ⟨(some 86), none, .len (.t 85)⟩,
    ⟨(some 87), none, .bin .lss (.t 84) (.t 86)⟩])
  (.cond (.t 87) (.skip)
  (.exit 0)))
  (.seq (.block 1 (.seq (.region [⟨(some 13), none, .mov (.c (.bool false))⟩])
  (.seq (.seq (.region [⟨(some 14), none, .mov (.c (.int .i64 0))⟩])
  (.block 2 (.loop (.seq (.seq (.region [⟨(some 90), none, .mov (.t 14)⟩,
    ⟨(some 91), none, .mov (.t 11)⟩,
    ⟨(some 92), none, .len (.t 91)⟩,
    ⟨(some 93), none, .bin .lss (.t 90) (.t 92)⟩])
  (.cond (.t 93) (.skip)
  (.exit 2)))
  (.seq (.block 3 (.region [⟨(some 96), none, .mov (.t 13)⟩,
    ⟨(some 97), none, .mov (.t 96)⟩,
    ⟨(some 98), some (97, false), .mov (.t 11)⟩,
    ⟨(some 99), some (97, false), .mov (.t 14)⟩,
    ⟨(some 100), some (97, false), .idx (.t 98) (.t 99) 1⟩,
    ⟨(some 101), some (97, false), .load (.t 100) none⟩,
    ⟨(some 102), some (97, false), .mov (.t 9)⟩,
    ⟨(some 103), some (97, false), .mov (.t 12)⟩,
    ⟨(some 104), some (97, false), .idx (.t 102) (.t 103) 1⟩,
    ⟨(some 105), some (97, false), .load (.t 104) none⟩,
    ⟨(some 106), some (97, false), .bin .eql (.t 101) (.t 105)⟩,
    ⟨(some 107), none, .pick (.t 97) (.c (.bool true)) (.t 106)⟩,
    ⟨(some 13), none, .mov (.t 107)⟩]))
  (.region [⟨(some 94), none, .mov (.t 14)⟩,
    ⟨(some 95), none, .bin .add (.t 94) (.c (.int .i64 1))⟩,
    ⟨(some 14), none, .mov (.t 95)⟩]))))))
  (.seq (.region [⟨(some 108), none, .mov (.t 13)⟩,
    ⟨(some 109), none, .not (.t 108)⟩])
  (.cond (.t 109) (.seq (.region [⟨(some 4), none, .mov (.c (.bool false))⟩])
  (.ret))
  (.skip))))))
  (.region [⟨(some 88), none, .mov (.t 12)⟩,
    ⟨(some 89), none, .bin .add (.t 88) (.c (.int .i64 1))⟩,
    ⟨(some 12), none, .mov (.t 89)⟩]))))))
  (.seq (.region [⟨(some 110), none, .call 13 []⟩,
    ⟨(some 4), none, .mov (.t 110)⟩])
  (.ret)))
def tl9_2 : ACode := (.seq (.seq (.region [⟨(some 80), none, .mov (.t 11)⟩,
    ⟨(some 81), none, .len (.t 80)⟩,
    ⟨(some 82), none, .mov (.t 5)⟩,
    ⟨(some 83), none, .bin .lss (.t 81) (.t 82)⟩])
  (.cond (.t 83) (.seq (.region [⟨(some 4), none, .mov (.c (.bool false))⟩])
  (.ret))
  (.skip)))
  tl9_3)
def tl9_1 : ACode := (.seq (.seq (.region [⟨(some 72), none, .load (.t 2) (some 9)⟩,
    ⟨(some 73), none, .load (.t 3) (some 2)⟩,
    ⟨(some 74), none, .call 34 [(.t 72), (.t 73)]⟩,
    ⟨(some 75), none, .not (.t 74)⟩])
  (.cond (.t 75) (.seq (.region [⟨(some 76), none, .call 13 []⟩,
    ⟨(some 4), none, .mov (.t 76)⟩])
  (.ret))
  (.skip)))
  (.seq (.region [⟨(some 77), none, .load (.t 2) (some 9)⟩,
    ⟨(some 78), none, .load (.t 3) (some 2)⟩,
    ⟨(some 79), none, .call 37 [(.t 77), (.t 78)]⟩,
    ⟨(some 11), none, .mov (.t 79)⟩])
  tl9_2))
def tl9_0 : ACode := (.seq (.seq (.region [⟨(some 34), none, .mov (.t 6)⟩,
    ⟨(some 35), none, .bin .neq (.t 34) (.c (.int .i64 0))⟩,
    ⟨(some 36), none, .mov (.t 35)⟩,
    ⟨(some 37), some (36, false), .mov (.t 8)⟩,
    ⟨(some 38), some (36, false), .bin .neq (.t 37) (.c (.int .i64 0))⟩,
    ⟨(some 39), none, .pick (.t 36) (.c (.bool true)) (.t 38)⟩,
    ⟨(some 40), none, .mov (.t 39)⟩,
    ⟨(some 41), some (40, false), .mov (.t 7)⟩,
    ⟨(some 42), some (40, false), .bin .gtr (.t 41) (.c (.int .i64 0))⟩,
    ⟨(some 43), some (40, false), .mov (.t 5)⟩,
    ⟨(some 44), some (40, false), .addr (.t 2) 8⟩,
    ⟨(some 45), some (40, false), .load (.t 44) none⟩,
    ⟨(some 46), some (40, false), .bin .leq (.t 43) (.t 45)⟩,
    ⟨(some 47), some (40, false), .eqv true false [.b] (.t 42) (.t 46)⟩,
    ⟨(some 48), none, .pick (.t 40) (.c (.bool true)) (.t 47)⟩,
    ⟨(some 49), none, .mov (.t 48)⟩,
    ⟨(some 50), some (49, false), .mov (.t 10)⟩,
    ⟨(some 51), some (49, false), .bin .eql (.t 50) (.c (.int .i64 0))⟩,
    ⟨(some 52), some (49, false), .mov (.t 7)⟩,
    ⟨(some 53), some (49, false), .bin .gtr (.t 52) (.c (.int .i64 0))⟩,
    ⟨(some 54), some (49, false), .eqv true false [.b] (.t 51) (.t 53)⟩,
    ⟨(some 55), none, .pick (.t 49) (.c (.bool true)) (.t 54)⟩,
    ⟨(some 56), none, .mov (.t 55)⟩,
    ⟨(some 57), some (56, false), .mov (.t 10)⟩,
    ⟨(some 58), some (56, false), .bin .neq (.t 57) (.c (.int .i64 0))⟩,
    ⟨(some 59), some (56, false), .mov (.t 58)⟩,
    ⟨(some 60), some (59, true), .mov (.t 10)⟩,
    ⟨(some 61), some (59, true), .bin .neq (.t 60) (.c (.int .i64 3))⟩,
    ⟨(some 62), some (56, false), .pick (.t 59) (.t 61) (.c (.bool false))⟩,
    ⟨(some 63), none, .pick (.t 56) (.c (.bool true)) (.t 62)⟩,
    ⟨(some 64), none, .mov (.t 63)⟩,
    ⟨(some 65), some (64, false), .mov (.t 9)⟩,
    ⟨(some 66), some (64, false), .len (.t 65)⟩,
    ⟨(some 67), some (64, false), .addr (.t 2) 7⟩,
    ⟨(some 68), some (64, false), .load (.t 67) none⟩,
    ⟨(some 69), some (64, false), .len (.t 68)⟩,
    ⟨(some 70), some (64, false), .bin .gtr (.t 66) (.t 69)⟩,
    ⟨(some 71), none, .pick (.t 64) (.c (.bool true)) (.t 70)⟩])
  (.cond (.t 71) (.seq (.region [⟨(some 4), none, .mov (.c (.bool false))⟩])
  (.ret))
  (.skip)))
  tl9_1)
theorem cut9 : c9 = .seq (.region [⟨(some 2), none, .box (.t 0) 9⟩,
    ⟨(some 3), none, .box (.t 1) 2⟩,
    ⟨(some 4), none, .mov (.c (.bool false))⟩])
  (.seq (.seq (.region [⟨(some 15), none, .load (.t 2) (some 9)⟩,
    ⟨(some 16), none, .call 32 [(.t 15)]⟩,
    ⟨(some 17), none, .not (.t 16)⟩])
  (.cond (.t 17) (.seq (.region [⟨(some 18), none, .call 13 []⟩,
    ⟨(some 4), none, .mov (.t 18)⟩])
  (.ret))
  (.skip)))
  (.seq (.region [⟨(some 20), none, .load (.t 2) (some 9)⟩,
    ⟨(some 21), none, .call 17 [(.t 20)]⟩,
    ⟨(some 19), none, .mov (.t 21)⟩,
    ⟨(some 22), none, .ext (.t 19) 0⟩,
    ⟨(some 23), none, .ext (.t 19) 1⟩,
    ⟨(some 5), none, .mov (.t 22)⟩,
    ⟨(some 6), none, .mov (.t 23)⟩])
  (.seq (.region [⟨(some 25), none, .load (.t 2) (some 9)⟩,
    ⟨(some 26), none, .call 15 [(.t 25)]⟩,
    ⟨(some 24), none, .mov (.t 26)⟩,
    ⟨(some 27), none, .ext (.t 24) 0⟩,
    ⟨(some 28), none, .ext (.t 24) 1⟩,
    ⟨(some 7), none, .mov (.t 27)⟩,
    ⟨(some 8), none, .mov (.t 28)⟩])
  (.seq (.region [⟨(some 30), none, .load (.t 2) (some 9)⟩,
    ⟨(some 31), none, .call 19 [(.t 30)]⟩,
    ⟨(some 29), none, .mov (.t 31)⟩,
    ⟨(some 32), none, .ext (.t 29) 0⟩,
    ⟨(some 33), none, .ext (.t 29) 1⟩,
    ⟨(some 9), none, .mov (.t 32)⟩,
    ⟨(some 10), none, .mov (.t 33)⟩])
  tl9_0)))) := rfl
theorem fw_spec {l : Lm} (hv : LV l) : (∀ x ∈ linM l, fwM l ≤ (wrN l.gs x : Int)) ∧ (decide (0 < ((truM l).length : Int)) = decide (fwM l ≤ l.wr)) := by
  unfold fwM
  rw [if_pos (okL_iff.2 hv)]
  obtain ⟨h1, ⟨x, hx, h2⟩, _⟩ := bnd_spec (fun x => (wrN l.gs x : Int)) (linM_ne hv)
  generalize (bndM (fun x => (wrN l.gs x : Int)) (linM l)).1 = B at h1 h2
  refine ⟨fun y hy => (h1 y hy).1, ?_⟩
  rw [Bool.eq_iff_iff, decide_eq_true_eq, decide_eq_true_eq]
  constructor
  · intro h
    have hp : 0 < (truM l).length := by omega
    obtain ⟨y, hy⟩ := List.exists_mem_of_length_pos hp
    have h3 := (List.mem_filter.1 hy).2
    unfold isT at h3
    have := of_decide_eq_true h3
    have := (h1 y (truM_lin hy)).1
    omega
  · intro h
    have : x ∈ truM l := List.mem_filter.2 ⟨hx, by unfold isT; exact decide_eq_true (by omega)⟩
    have := List.length_pos_of_mem this
    omega
theorem mem_blF {p : Gg → Bool} : ∀ {gs : List Gg} {j : Nat} {v : Int}, v ∈ blF p gs j → ∃ k g, gs[k]? = some g ∧ p g = true ∧ v = ((j + k : Nat) : Int)
  | [], j, v, h => by cases h
  | a :: r, j, v, h => by
    unfold blF at h
    split at h
    · rename_i hp
      rcases List.mem_cons.1 h with rfl | h
      · exact ⟨0, a, rfl, hp, by simp⟩
      · obtain ⟨k, g, h1, h2, h3⟩ := mem_blF h
        exact ⟨k + 1, g, by simpa using h1, h2, by omega⟩
    · obtain ⟨k, g, h1, h2, h3⟩ := mem_blF h
      exact ⟨k + 1, g, by simpa using h1, h2, by omega⟩
theorem bm_spec {l : Lm} {x : Ln} (hx : x ∈ truM l) {v : Int} (hv : v ∈ bmM l) : (wrL l.gs x).any (fun y => y == v) = true := by
  unfold bmM at hv
  split at hv
  · split at hv
    · cases hv
    · obtain ⟨k, g, h1, h2, h3⟩ := mem_blF hv
      rw [Nat.zero_add] at h3
      subst h3
      rw [wrL_any h1]
      unfold blG at h2
      rw [Bool.not_eq_true'] at h2
      have := List.any_eq_false.1 h2 x hx
      simpa using this
  · cases hv
theorem eqB (a : Bool) : eqAV false [.b] (.bool a) (.bool a) = some true := by simp [eqAV, eqs, eq1]
theorem LampBlamed_run (l : Lm) (x : Ln) : RV ft 9 [encL l, encN x] (.bool true) := by
  refine RV_of ft9 rfl ?_
  simp only [cut9, r9]
  have hR := ready_ok l
  cases hr : rdM l
  case false =>
    rw [hr] at hR
    simp only [go_sem, Nat.reduceEqDiff, Nat.reduceAdd, Nat.reduceLT, Nat.reduceLeDiff, reduceIte, NCells, WB32, WVH_eq hR, true_and, WB13, WVH_eq works_ok]
  obtain ⟨hfar, hok⟩ := rdM_iff hr
  have hv := okL_iff.1 hok
  have h40 := rdM_len hfar
  have hl : l.gs.length < 1073741824 := by omega
  rw [hr] at hR
  have hW := Fewest_ok l hl
  have hM := Many_ok l hl
  have hB := Blame_ok l hl
  have hT := IsTruth_ok hv x
  rw [if_pos hok, if_pos hok] at hM
  rw [show oeM l = 0 from if_pos hok] at hW
  obtain ⟨f1, f2⟩ := fw_spec hv
  have hbl : (bmM l).length ≤ l.gs.length := by
    unfold bmM
    rw [if_pos hok]
    split
    · simp
    · rw [blF_len]; exact List.length_filter_le _ _
  have hg : (beM l = 0 ∧ decide (0 < ((truM l).length : Int)) = true) ∨ (beM l = 3 ∧ decide (0 < ((truM l).length : Int)) = false) := by
    unfold beM
    rw [if_pos hok]
    cases ht : truM l with
    | nil => right; exact ⟨rfl, rfl⟩
    | cons a r => left; exact ⟨rfl, decide_eq_true (by rw [List.length_cons]; omega)⟩
  have c5 : decide ((l.gs.length : Int) < ((bmM l).length : Int)) = false := decide_eq_false (by omega)
  have z : ((0 : Int) != 0) = false := rfl
  have z1 : ((0 : Int) == 0) = true := rfl
  have z2 : ((3 : Int) == 0) = false := rfl
  have z3 : ((3 : Int) != 0) = true := rfl
  have z4 : ((3 : Int) != 3) = false := rfl
  have hbs : ∀ {v : Int}, x ∈ truM l → v ∈ bmM l → (wrL l.gs x).any (fun y => y == v) = true := fun hx hv => bm_spec hx hv
  generalize bmM l = b at hB hbl c5 hbs
  generalize beM l = g at hB hg
  generalize fwM l = n at hW f1 f2
  generalize hmn : ((truM l).length : Int) = m at hM f2 hg
  have T1 : ∀ e : Nat → AV, e 2 = .ptr 0 0 0 → e 3 = .ptr 1 0 0 → e 5 = I64 n → e 9 = encIs b → ∀ bl, W ft tl9_1 ⟨e, ⟨.live [encL l] 9 :: .live [encN x] 2 :: bl, []⟩⟩ (Fin [.t 4] fun u m => Ab.snap m dep u = .bool true) := by
    intro e g2 g3 g5 g9 bl
    simp only [tl9_1]
    cases hi : itM l x
    case false =>
      rw [hi] at hT
      simp only [go_sem, Nat.reduceEqDiff, Nat.reduceAdd, Nat.reduceLT, Nat.reduceLeDiff, reduceIte, g2, g3, g5, g9, NCells, NEta, LCells, LEta, WB34, WVH_eq hT, WB13, WVH_eq works_ok, true_and]
    rw [hi] at hT
    have hx := itM_iff.1 hi
    have hN := linM_NV hv (truM_lin hx)
    have hwr := Wrong_ok hv.gv hN
    have hwl := wrL_len l.gs x
    have hwn := wrN_le l.gs x
    have hf := f1 x (truM_lin hx)
    have c6 : decide ((wrN l.gs x : Int) < n) = false := decide_eq_false (by omega)
    have hbx : ∀ v ∈ b, (wrL l.gs x).any (fun y => y == v) = true := fun v hv => hbs hx hv
    simp only [go_sem, Nat.reduceEqDiff, Nat.reduceAdd, Nat.reduceLT, Nat.reduceLeDiff, reduceIte, g2, g3, g5, g9, NCells, NEta, LCells, LEta, WB34, WVH_eq hT, WB37, WVH_eq hwr, true_and]
    simp only [tl9_2]
    simp only [go_sem, Nat.reduceEqDiff, Nat.reduceAdd, Nat.reduceLT, Nat.reduceLeDiff, reduceIte, g2, g3, g5, g9, hwl, c6]
    simp only [tl9_3]
    simp only [go_sem, Nat.reduceEqDiff, Nat.reduceAdd, Nat.reduceLT, Nat.reduceLeDiff, reduceIte, g2, g3, g5, g9]
    refine WL_inv (α := Nat × List Int) (fun q e mm => e 9 = encIs b ∧ e 11 = encIs (wrL l.gs x) ∧ e 12 = I64 q.1 ∧ b.drop q.1 = q.2 ∧ ∃ bl, mm = ⟨bl, []⟩) (fun q => q.2.length) (0, b) ?_ ?_
    · simp only [go_sem, Nat.reduceEqDiff, Nat.reduceAdd, Nat.reduceLT, Nat.reduceLeDiff, reduceIte, g9]
      exact ⟨trivial, trivial, rfl, trivial, _, rfl⟩
    clear g2 g3 g5 g9
    rintro ⟨k, r⟩ e mm ⟨g9, g11, g12, hd, bl, rfl⟩
    dsimp only at g12 hd
    cases r with
    | nil =>
      have h3 := drop_nil hd
      simp only [go_sem, Nat.reduceEqDiff, Nat.reduceAdd, Nat.reduceLT, Nat.reduceLeDiff, reduceIte, g9, g11, g12, dec_ge h3, WB13, WVH_eq works_ok, true_and]
    | cons v r =>
      obtain ⟨hk, hd2, hlt⟩ := drop_cons hd
      have hvx := hbx v (List.mem_of_getElem? hk)
      simp only [go_sem, Nat.reduceEqDiff, Nat.reduceAdd, Nat.reduceLT, Nat.reduceLeDiff, reduceIte, g9, g11, g12, dec_lt hlt]
      refine WL_inv (α := Nat × List Int × Bool) (fun q e mm => e 9 = encIs b ∧ e 11 = encIs (wrL l.gs x) ∧ e 12 = I64 k ∧ e 13 = .bool q.2.2 ∧ e 14 = I64 q.1 ∧ (wrL l.gs x).drop q.1 = q.2.1 ∧ (q.2.2 || q.2.1.any (fun y => y == v)) = true ∧ ∃ bl, mm = ⟨bl, []⟩) (fun q => q.2.1.length) (0, wrL l.gs x, false) ?_ ?_
      · simp only [go_sem, Nat.reduceEqDiff, Nat.reduceAdd, Nat.reduceLT, Nat.reduceLeDiff, reduceIte, g9, g11, g12]
        exact ⟨trivial, trivial, trivial, trivial, rfl, trivial, hvx, _, rfl⟩
      clear g9 g11 g12
      rintro ⟨j, s, f⟩ e mm ⟨g9, g11, g12, g13, g14, hsd, hsq, bl, rfl⟩
      dsimp only at g13 g14 hsd hsq
      cases s with
      | nil =>
        have h3 := drop_nil hsd
        rw [List.any_nil, Bool.or_false] at hsq
        subst hsq
        simp only [go_sem, Nat.reduceEqDiff, Nat.reduceAdd, Nat.reduceLT, Nat.reduceLeDiff, reduceIte, g9, g11, g12, g13, g14, dec_ge h3, wrap_n1 k (by omega)]
        refine Nx_of (k + 1, r) (by simp) ?_
        simp only [go_sem, Nat.reduceEqDiff, Nat.reduceAdd, Nat.reduceLT, Nat.reduceLeDiff, reduceIte, g9, g11]
        exact ⟨trivial, trivial, trivial, hd2, _, rfl⟩
      | cons y s =>
        obtain ⟨hj, hsd2, hjlt⟩ := drop_cons hsd
        rw [List.any_cons] at hsq
        cases f
        · simp only [go_sem, Nat.reduceEqDiff, Nat.reduceAdd, Nat.reduceLT, Nat.reduceLeDiff, reduceIte, g9, g11, g12, g13, g14, dec_lt hjlt, Is_idx hj, Is_idx hk, wrap_n1 j (by omega)]
          refine Nx_of (j + 1, s, y == v) (by simp) ?_
          simp only [go_sem, Nat.reduceEqDiff, Nat.reduceAdd, Nat.reduceLT, Nat.reduceLeDiff, reduceIte, g9, g11, g12]
          exact ⟨trivial, trivial, trivial, trivial, trivial, hsd2, by rw [← hsq]; rfl, _, rfl⟩
        · simp only [go_sem, Nat.reduceEqDiff, Nat.reduceAdd, Nat.reduceLT, Nat.reduceLeDiff, reduceIte, g9, g11, g12, g13, g14, dec_lt hjlt, wrap_n1 j (by omega)]
          refine Nx_of (j + 1, s, true) (by simp) ?_
          simp only [go_sem, Nat.reduceEqDiff, Nat.reduceAdd, Nat.reduceLT, Nat.reduceLeDiff, reduceIte, g9, g11, g12]
          exact ⟨trivial, trivial, trivial, trivial, trivial, hsd2, trivial, _, rfl⟩
  have T0 : ∀ e : Nat → AV, e 2 = .ptr 0 0 0 → e 3 = .ptr 1 0 0 → e 5 = I64 n → e 6 = I64 0 → e 7 = I64 m → e 8 = I64 0 → e 9 = encIs b → e 10 = I64 g → ∀ bl, W ft tl9_0 ⟨e, ⟨.live [encL l] 9 :: .live [encN x] 2 :: bl, []⟩⟩ (Fin [.t 4] fun u m => Ab.snap m dep u = .bool true) := by
    intro e g2 g3 g5 g6 g7 g8 g9 g10 bl
    simp only [tl9_0]
    rcases hg with ⟨rfl, hm⟩ | ⟨rfl, hm⟩
    · rw [hm] at f2
      simp only [go_sem, Nat.reduceEqDiff, Nat.reduceAdd, Nat.reduceLT, Nat.reduceLeDiff, reduceIte, g2, g3, g5, g6, g7, g8, g9, g10, LCells, z, z1, hm, ← f2, eqB, Bool.not_true, c5]
      exact T1 _ (by simp only [go_sem, Nat.reduceEqDiff, Nat.reduceAdd, Nat.reduceLT, Nat.reduceLeDiff, reduceIte, g2]) (by simp only [go_sem, Nat.reduceEqDiff, Nat.reduceAdd, Nat.reduceLT, Nat.reduceLeDiff, reduceIte, g3]) (by simp only [go_sem, Nat.reduceEqDiff, Nat.reduceAdd, Nat.reduceLT, Nat.reduceLeDiff, reduceIte, g5]) (by simp only [go_sem, Nat.reduceEqDiff, Nat.reduceAdd, Nat.reduceLT, Nat.reduceLeDiff, reduceIte, g9]) _
    · rw [hm] at f2
      simp only [go_sem, Nat.reduceEqDiff, Nat.reduceAdd, Nat.reduceLT, Nat.reduceLeDiff, reduceIte, g2, g3, g5, g6, g7, g8, g9, g10, LCells, z, z2, z3, z4, hm, ← f2, eqB, Bool.not_true, c5]
      exact T1 _ (by simp only [go_sem, Nat.reduceEqDiff, Nat.reduceAdd, Nat.reduceLT, Nat.reduceLeDiff, reduceIte, g2]) (by simp only [go_sem, Nat.reduceEqDiff, Nat.reduceAdd, Nat.reduceLT, Nat.reduceLeDiff, reduceIte, g3]) (by simp only [go_sem, Nat.reduceEqDiff, Nat.reduceAdd, Nat.reduceLT, Nat.reduceLeDiff, reduceIte, g5]) (by simp only [go_sem, Nat.reduceEqDiff, Nat.reduceAdd, Nat.reduceLT, Nat.reduceLeDiff, reduceIte, g9]) _
  simp only [go_sem, Nat.reduceEqDiff, Nat.reduceAdd, Nat.reduceLT, Nat.reduceLeDiff, reduceIte, NCells, NEta, LCells, WB32, WVH_eq hR, WB17, WVH_eq hW, WB15, WVH_eq hM, WB19, WVH_eq hB, true_and, z]
  exact T0 _ (by simp only [go_sem, Nat.reduceEqDiff, Nat.reduceAdd, Nat.reduceLT, Nat.reduceLeDiff, reduceIte]) (by simp only [go_sem, Nat.reduceEqDiff, Nat.reduceAdd, Nat.reduceLT, Nat.reduceLeDiff, reduceIte]) (by simp only [go_sem, Nat.reduceEqDiff, Nat.reduceAdd, Nat.reduceLT, Nat.reduceLeDiff, reduceIte]) (by simp only [go_sem, Nat.reduceEqDiff, Nat.reduceAdd, Nat.reduceLT, Nat.reduceLeDiff, reduceIte]) (by simp only [go_sem, Nat.reduceEqDiff, Nat.reduceAdd, Nat.reduceLT, Nat.reduceLeDiff, reduceIte]) (by simp only [go_sem, Nat.reduceEqDiff, Nat.reduceAdd, Nat.reduceLT, Nat.reduceLeDiff, reduceIte]) (by simp only [go_sem, Nat.reduceEqDiff, Nat.reduceAdd, Nat.reduceLT, Nat.reduceLeDiff, reduceIte]) (by simp only [go_sem, Nat.reduceEqDiff, Nat.reduceAdd, Nat.reduceLT, Nat.reduceLeDiff, reduceIte]) _
end Go.Ab.T
end
