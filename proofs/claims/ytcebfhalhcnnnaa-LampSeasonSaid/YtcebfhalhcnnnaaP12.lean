/-
  A part of the proofs over this seat.
  (The texts KlK19, one behind the other.)
-/
import Derived.Test.YtcebfhalhcnnnaaP11
set_option linter.unusedSimpArgs false
set_option linter.unusedVariables false
set_option linter.unusedSectionVars false
section
namespace Go.Ab.T
set_option maxRecDepth 8000
set_option maxHeartbeats 4000000
def tl10_2 : ACode := (.seq (.seq (.region [⟨(some 8), none, .mov (.c (.int .i64 0))⟩])
  (.block 2 (.loop (.seq (.seq (.region [⟨(some 101), none, .mov (.t 8)⟩,
    ⟨(some 102), none, .mov (.t 5)⟩,
    ⟨(some 103), none, .len (.t 102)⟩,
    ⟨(some 104), none, .bin .lss (.t 101) (.t 103)⟩])
  (.cond (.t 104) (.skip)
  (.exit 2)))
  (.seq (.block 3 (.seq (.region [⟨(some 107), none, .lit false 3 1 []⟩,
    ⟨(some 108), none, .mov (.t 5)⟩,
    ⟨(some 109), none, .app0 (.t 107) (.t 108) 3 1 8⟩,
    ⟨(some 9), none, .mov (.t 109)⟩])
  (.seq (.region [⟨(some 110), none, .mov (.t 9)⟩,
    ⟨(some 111), none, .mov (.t 8)⟩,
    ⟨(some 112), none, .idx (.t 110) (.t 111) 1⟩,
    ⟨(some 113), none, .load (.t 112) none⟩,
    ⟨(some 114), none, .bin .add (.t 113) (.c (.int .i64 1))⟩,
    ⟨(some 115), none, .idx (.t 110) (.t 111) 1⟩,
    ⟨none, none, .store (.t 115) (.t 114) 1⟩])
  (.seq (.region [⟨(some 116), none, .mov (.t 8)⟩,
    ⟨(some 117), none, .bin .add (.t 116) (.c (.int .i64 1))⟩,
    ⟨(some 118), none, .mov (.t 5)⟩,
    ⟨(some 119), none, .len (.t 118)⟩,
    ⟨(some 120), none, .bin .eql (.t 117) (.t 119)⟩,
    ⟨(some 121), none, .mov (.t 120)⟩,
    ⟨(some 122), some (121, false), .mov (.t 9)⟩,
    ⟨(some 123), some (121, false), .mov (.t 8)⟩,
    ⟨(some 124), some (121, false), .idx (.t 122) (.t 123) 1⟩,
    ⟨(some 125), some (121, false), .load (.t 124) none⟩,
    ⟨(some 126), some (121, false), .mov (.t 5)⟩,
    ⟨(some 127), some (121, false), .mov (.t 8)⟩,
    ⟨(some 128), some (121, false), .bin .add (.t 127) (.c (.int .i64 1))⟩,
    ⟨(some 129), some (121, false), .idx (.t 126) (.t 128) 1⟩,
    ⟨(some 130), some (121, false), .load (.t 129) none⟩,
    ⟨(some 131), some (121, false), .bin .lss (.t 125) (.t 130)⟩,
    ⟨(some 132), none, .pick (.t 121) (.c (.bool true)) (.t 131)⟩,
    ⟨(some 133), none, .mov (.t 132)⟩,
    ⟨(some 134), some (133, true), .mov (.t 9)⟩,
    ⟨(some 135), some (133, true), .mov (.t 8)⟩,
    ⟨(some 136), some (133, true), .idx (.t 134) (.t 135) 1⟩,
    ⟨(some 137), some (133, true), .load (.t 136) none⟩,
    ⟨(some 138), some (133, true), .addr (.t 3) 1⟩,
    ⟨(some 139), some (133, true), .load (.t 138) none⟩,
    ⟨(some 140), some (133, true), .len (.t 139)⟩,
    ⟨(some 141), some (133, true), .bin .lss (.t 137) (.t 140)⟩,
    ⟨(some 142), none, .pick (.t 133) (.t 141) (.c (.bool false))⟩,
    ⟨(some 143), none, .mov (.t 142)⟩,
    ⟨(some 144), some (143, true), .load (.t 2) (some 9)⟩,
    ⟨(some 145), some (143, true), .load (.t 3) (some 3)⟩,
    ⟨(some 146), some (143, true), .mov (.t 9)⟩,
    ⟨(some 147), some (143, true), .call 41 [(.t 144), (.t 145), (.t 146)]⟩,
    ⟨(some 148), none, .pick (.t 143) (.t 147) (.c (.bool false))⟩])
  (.cond (.t 148) (.seq (.region [⟨(some 4), none, .mov (.c (.bool false))⟩])
  (.ret))
  (.skip))))))
  (.region [⟨(some 105), none, .mov (.t 8)⟩,
    ⟨(some 106), none, .bin .add (.t 105) (.c (.int .i64 1))⟩,
    ⟨(some 8), none, .mov (.t 106)⟩]))))))
  (.seq (.region [⟨(some 149), none, .call 13 []⟩,
    ⟨(some 4), none, .mov (.t 149)⟩])
  (.ret)))
def tl10_1 : ACode := (.seq (.seq (.region [⟨(some 69), none, .mov (.t 6)⟩,
    ⟨(some 70), none, .bin .neq (.t 69) (.c (.int .i64 0))⟩,
    ⟨(some 71), none, .mov (.t 70)⟩,
    ⟨(some 72), some (71, false), .mov (.t 5)⟩,
    ⟨(some 73), some (71, false), .len (.t 72)⟩,
    ⟨(some 74), some (71, false), .addr (.t 3) 1⟩,
    ⟨(some 75), some (71, false), .load (.t 74) none⟩,
    ⟨(some 76), some (71, false), .len (.t 75)⟩,
    ⟨(some 77), some (71, false), .bin .gtr (.t 73) (.t 76)⟩,
    ⟨(some 78), none, .pick (.t 71) (.c (.bool true)) (.t 77)⟩,
    ⟨(some 79), none, .mov (.t 78)⟩,
    ⟨(some 80), some (79, false), .load (.t 2) (some 9)⟩,
    ⟨(some 81), some (79, false), .load (.t 3) (some 3)⟩,
    ⟨(some 82), some (79, false), .mov (.t 5)⟩,
    ⟨(some 83), some (79, false), .call 41 [(.t 80), (.t 81), (.t 82)]⟩,
    ⟨(some 84), some (79, false), .not (.t 83)⟩,
    ⟨(some 85), none, .pick (.t 79) (.c (.bool true)) (.t 84)⟩,
    ⟨(some 86), none, .mov (.t 85)⟩,
    ⟨(some 87), some (86, false), .load (.t 2) (some 9)⟩,
    ⟨(some 88), some (86, false), .load (.t 3) (some 3)⟩,
    ⟨(some 89), some (86, false), .addr (.t 3) 2⟩,
    ⟨(some 90), some (86, false), .load (.t 89) none⟩,
    ⟨(some 91), some (86, false), .call 41 [(.t 87), (.t 88), (.t 90)]⟩,
    ⟨(some 92), some (86, false), .mov (.t 91)⟩,
    ⟨(some 93), some (92, true), .addr (.t 3) 2⟩,
    ⟨(some 94), some (92, true), .load (.t 93) none⟩,
    ⟨(some 95), some (92, true), .len (.t 94)⟩,
    ⟨(some 96), some (92, true), .mov (.t 5)⟩,
    ⟨(some 97), some (92, true), .len (.t 96)⟩,
    ⟨(some 98), some (92, true), .bin .lss (.t 95) (.t 97)⟩,
    ⟨(some 99), some (86, false), .pick (.t 92) (.t 98) (.c (.bool false))⟩,
    ⟨(some 100), none, .pick (.t 86) (.c (.bool true)) (.t 99)⟩])
  (.cond (.t 100) (.seq (.region [⟨(some 4), none, .mov (.c (.bool false))⟩])
  (.ret))
  (.skip)))
  tl10_2)
def tl10_0 : ACode := (.seq (.seq (.region [⟨(some 44), none, .mov (.t 6)⟩,
    ⟨(some 45), none, .bin .eql (.t 44) (.c (.int .i64 3))⟩])
  (.cond (.t 45) (.seq (.seq (.region [⟨(some 7), none, .mov (.c (.int .i64 0))⟩])
  (.block 0 (.loop (.seq (.seq (.region [⟨(some 46), none, .mov (.t 7)⟩,
    ⟨(some 47), none, .addr (.t 3) 1⟩,
    ⟨(some 48), none, .load (.t 47) none⟩,
    ⟨(some 49), none, .len (.t 48)⟩,
    ⟨(some 50), none, .bin .lss (.t 46) (.t 49)⟩])
  (.cond (.t 50) (.skip)
  (.exit 0)))
  (.seq (.block 1 (.seq (.region [⟨(some 53), none, .load (.t 2) (some 9)⟩,
    ⟨(some 54), none, .load (.t 2) (some 9)⟩,
    ⟨(some 55), none, .call 40 [(.t 54)]⟩,
    ⟨(some 56), none, .addr (.t 3) 1⟩,
    ⟨(some 57), none, .load (.t 56) none⟩,
    ⟨(some 58), none, .mov (.t 7)⟩,
    ⟨(some 59), none, .idx (.t 57) (.t 58) 1⟩,
    ⟨(some 60), none, .load (.t 59) none⟩,
    ⟨(some 61), none, .call 39 [(.t 53), (.t 55), (.c (.int .i64 0)), (.t 60)]⟩,
    ⟨(some 62), none, .not (.t 61)⟩])
  (.cond (.t 62) (.seq (.region [⟨(some 63), none, .mov (.t 5)⟩,
    ⟨(some 64), none, .len (.t 63)⟩,
    ⟨(some 65), none, .bin .eql (.t 64) (.c (.int .i64 0))⟩,
    ⟨(some 66), none, .mov (.t 65)⟩,
    ⟨(some 67), some (66, true), .call 13 []⟩,
    ⟨(some 68), none, .pick (.t 66) (.t 67) (.c (.bool false))⟩,
    ⟨(some 4), none, .mov (.t 68)⟩])
  (.ret))
  (.skip))))
  (.region [⟨(some 51), none, .mov (.t 7)⟩,
    ⟨(some 52), none, .bin .add (.t 51) (.c (.int .i64 1))⟩,
    ⟨(some 7), none, .mov (.t 52)⟩]))))))
  (.seq (.region [⟨(some 4), none, .mov (.c (.bool false))⟩])
  (.ret)))
  (.skip)))
  tl10_1)
theorem cut10 : c10 = .seq (.region [⟨(some 2), none, .box (.t 0) 9⟩,
    ⟨(some 3), none, .box (.t 1) 3⟩,
    ⟨(some 4), none, .mov (.c (.bool false))⟩])
  (.seq (.seq (.region [⟨(some 10), none, .load (.t 2) (some 9)⟩,
    ⟨(some 11), none, .call 32 [(.t 10)]⟩,
    ⟨(some 12), none, .not (.t 11)⟩,
    ⟨(some 13), none, .mov (.t 12)⟩,
    ⟨(some 14), some (13, false), .load (.t 2) (some 9)⟩,
    ⟨(some 15), some (13, false), .addr (.t 3) 0⟩,
    ⟨(some 16), some (13, false), .load (.t 15) none⟩,
    ⟨(some 17), some (13, false), .addr (.t 3) 1⟩,
    ⟨(some 18), some (13, false), .load (.t 17) none⟩,
    ⟨(some 19), some (13, false), .call 38 [(.t 14), (.t 16), (.t 18)]⟩,
    ⟨(some 20), some (13, false), .bin .neq (.t 19) (.c (.int .i64 0))⟩,
    ⟨(some 21), none, .pick (.t 13) (.c (.bool true)) (.t 20)⟩,
    ⟨(some 22), none, .mov (.t 21)⟩,
    ⟨(some 23), some (22, false), .addr (.t 3) 1⟩,
    ⟨(some 24), some (22, false), .load (.t 23) none⟩,
    ⟨(some 25), some (22, false), .len (.t 24)⟩,
    ⟨(some 26), some (22, false), .bin .gtr (.t 25) (.c (.int .i64 12))⟩,
    ⟨(some 27), none, .pick (.t 22) (.c (.bool true)) (.t 26)⟩,
    ⟨(some 28), none, .mov (.t 27)⟩,
    ⟨(some 29), some (28, false), .addr (.t 3) 2⟩,
    ⟨(some 30), some (28, false), .load (.t 29) none⟩,
    ⟨(some 31), some (28, false), .len (.t 30)⟩,
    ⟨(some 32), some (28, false), .bin .gtr (.t 31) (.c (.int .i64 20))⟩,
    ⟨(some 33), none, .pick (.t 28) (.c (.bool true)) (.t 32)⟩])
  (.cond (.t 33) (.seq (.region [⟨(some 34), none, .call 13 []⟩,
    ⟨(some 4), none, .mov (.t 34)⟩])
  (.ret))
  (.skip)))
  (.seq (.region [⟨(some 36), none, .load (.t 2) (some 9)⟩,
    ⟨(some 37), none, .addr (.t 3) 0⟩,
    ⟨(some 38), none, .load (.t 37) none⟩,
    ⟨(some 39), none, .addr (.t 3) 1⟩,
    ⟨(some 40), none, .load (.t 39) none⟩,
    ⟨(some 41), none, .call 30 [(.t 36), (.t 38), (.t 40)]⟩,
    ⟨(some 35), none, .mov (.t 41)⟩,
    ⟨(some 42), none, .ext (.t 35) 0⟩,
    ⟨(some 43), none, .ext (.t 35) 1⟩,
    ⟨(some 5), none, .mov (.t 42)⟩,
    ⟨(some 6), none, .mov (.t 43)⟩])
  tl10_0)) := rfl
theorem idx_ref {m : Mem} {id len sz k : Nat} (h : lsz m id = some sz) (hk : k < len) : idxAt m (.ref id 0 len) (I64 (k : Int)) sz = some (.ptr id k 0) := by
  rw [idxAt_ref, if_pos ⟨⟨by omega, by omega⟩, h⟩, Int.toNat_natCast, Nat.zero_add]
theorem snI_ref {bl : List Blk} {tk : List (Nat × Nat)} {id sz : Nat} {es : List AV} {c : List Int} (h : bl[id]? = some (.live es sz)) (he : es = c.map I64) (q : Nat) : Ab.snap ⟨bl, tk⟩ (q + 3) (.ref id 0 c.length) = encIs c := by
  subst he
  rw [snap_ref, elems_ref]
  simp only [go_sem, Nat.reduceEqDiff, Nat.reduceAdd, Nat.reduceLT, Nat.reduceLeDiff, reduceIte, h]
  rw [if_pos (by rw [List.length_map]; omega), snEs_some, List.take_of_length_le (by rw [List.length_map]; omega), List.map_map, show Ab.snap ⟨bl, tk⟩ (q + 2) ∘ I64 = I64 from funext (fun _ => rfl)]; rfl
theorem hot_ref' (q id a n : Nat) : hot (q + 1) (.ref id a n) = true := rfl
theorem LampSeason_of {s : Bool} (hCh : ∀ (l : Lm) (b : Int) (days : List Int), l.gs.length < 1073741824 → days.length < 1073741824 → RV ft 30 [encL l, I64 b, encIs days] (.tup [encIs (chM s l b days).1, I64 (chM s l b days).2])) (l : Lm) (b : Int) (days ch : List Int) : RV ft 10 [encL l, encE b days ch] (.bool true) := by
  refine RV_of ft10 rfl ?_
  simp only [cut10, r10]
  have hR := ready_ok l
  cases hr : rdM l
  case false =>
    rw [hr] at hR
    simp only [go_sem, Nat.reduceEqDiff, Nat.reduceAdd, Nat.reduceLT, Nat.reduceLeDiff, reduceIte, ECells, EEta, WB32, WVH_eq hR, true_and, WB13, WVH_eq works_ok]
  obtain ⟨hfar, hok⟩ := rdM_iff hr
  have hv := okL_iff.1 hok
  have h40 := rdM_len hfar
  have hl : l.gs.length < 1073741824 := by omega
  rw [hr] at hR
  have hD := CheckDays_ok l b days hl
  have z : ((0 : Int) != 0) = false := rfl
  by_cases hcd : cdM l b days = 0
  case neg =>
    have hne : (cdM l b days != 0) = true := by simpa using hcd
    simp only [go_sem, Nat.reduceEqDiff, Nat.reduceAdd, Nat.reduceLT, Nat.reduceLeDiff, reduceIte, ECells, EEta, LEta, WB32, WVH_eq hR, WB38, WVH_eq hD, hne, true_and, WB13, WVH_eq works_ok]
  rw [hcd] at hD
  cases c1 : decide ((12 : Int) < (days.length : Int))
  case true => simp only [go_sem, Nat.reduceEqDiff, Nat.reduceAdd, Nat.reduceLT, Nat.reduceLeDiff, reduceIte, ECells, EEta, LEta, WB32, WVH_eq hR, WB38, WVH_eq hD, z, c1, true_and, WB13, WVH_eq works_ok]
  cases c2 : decide ((20 : Int) < (ch.length : Int))
  case true => simp only [go_sem, Nat.reduceEqDiff, Nat.reduceAdd, Nat.reduceLT, Nat.reduceLeDiff, reduceIte, ECells, EEta, LEta, WB32, WVH_eq hR, WB38, WVH_eq hD, z, c1, c2, true_and, WB13, WVH_eq works_ok]
  have c1' := of_decide_eq_false c1
  have c2' := of_decide_eq_false c2
  have hcond : (hrR b && (decide ((days.length : Int) ≤ 30) && days.all hrR)) = true := by
    unfold cdM at hcd
    rw [if_pos hok] at hcd
    split at hcd
    · rename_i h
      rw [Bool.and_eq_true, Bool.and_eq_true] at h
      rw [Bool.and_eq_true, Bool.and_eq_true]
      exact ⟨h.1, decide_eq_true (by omega), h.2.2⟩
    · cases hcd
  have hcond2 := hcond
  rw [Bool.and_eq_true, Bool.and_eq_true, List.all_eq_true] at hcond2
  obtain ⟨hb, _, hda⟩ := hcond2
  obtain ⟨b0, b1⟩ := inR_iff.1 (show inR b 0 40 = true from hb)
  have hd : ∀ h ∈ days, 0 ≤ h ∧ h ≤ 40 := fun h hh => inR_iff.1 (show inR h 0 40 = true from hda h hh)
  have hC := hCh l b days hl (by omega)
  have hS : ∀ c : List Int, c.length < 1073741824 → RV ft 41 [encL l, encE b days ch, encIs c] (.bool (shF (skN l (linM l) 0) 0 (skN l (truM l) b - b) days c)) := fun c hc => shown_ok hv b0 b1 days ch c (by omega) hd hc
  have hn := chF_none (s := s) (gn := skN l (linM l) 0) days 0 (skN l (truM l) b - b)
  have hge := chF_ge (s := s) (gn := skN l (linM l) 0) days 0 (skN l (truM l) b - b)
  have hsh := chF_shown (s := s) (gn := skN l (linM l) 0) days 0 (skN l (truM l) b - b)
  have hfew := fun c => chF_few (s := s) (gn := skN l (linM l) 0) days 0 (skN l (truM l) b - b) (skN l (truM l) b - b) c ch (fun h hh => (hd h hh).1)
  have hlate := chF_late (s := s) (gn := skN l (linM l) 0) days 0 (skN l (truM l) b - b)
  unfold chM at hC
  rw [if_pos hok, if_pos hcond] at hC
  have hnew : ∀ h : Int, 0 ≤ h ∧ h ≤ 40 → RV ft 39 [encL l, encNs (linM l), I64 0, I64 h] (.bool (decide (h ≤ skN l (linM l) 0))) := fun h hh => by
    have h5 := cs_eq hv (xs := linM l) (a := 0) (b := 0) (Int.le_refl 0) (Int.le_refl 0) (.inl rfl) hh.1
    rw [Int.sub_zero] at h5
    rw [← h5]
    exact CanShow_ok hv _ (by have := linM_len hv; omega) (fun x hx => linM_NV hv hx) (Int.le_refl 0) (by omega) hh.1 (by omega)
  generalize skN l (linM l) 0 = gn at hC hS hn hge hsh hfew hlate hnew
  generalize skN l (truM l) b - b = k0 at hC hS hn hge hsh hfew hlate
  simp only [go_sem, Nat.reduceEqDiff, Nat.reduceAdd, Nat.reduceLT, Nat.reduceLeDiff, reduceIte, ECells, EEta, LEta, WB32, WVH_eq hR, WB38, WVH_eq hD, z, c1, c2, true_and]
  cases hch : chF s gn 0 k0 days with
  | none =>
    rw [hch] at hC
    replace hC : RV ft 30 [encL l, I64 b, encIs days] (.tup [encIs [], I64 3]) := hC
    simp only [go_sem, Nat.reduceEqDiff, Nat.reduceAdd, Nat.reduceLT, Nat.reduceLeDiff, reduceIte, WB30, WVH_eq hC, true_and, ECells]
    simp only [tl10_0]
    simp only [go_sem, Nat.reduceEqDiff, Nat.reduceAdd, Nat.reduceLT, Nat.reduceLeDiff, reduceIte, show ((3 : Int) == 3) = true from rfl]
    obtain ⟨hx, hxd, hxg⟩ := hn hch
    refine WL_inv (α := Nat × List Int) (fun q e mm => e 2 = .ptr 0 0 0 ∧ e 3 = .ptr 1 0 0 ∧ e 5 = encIs [] ∧ e 7 = I64 q.1 ∧ days.drop q.1 = q.2 ∧ (∃ h ∈ q.2, gn < h) ∧ ∃ bl, mm = ⟨.live [encL l] 9 :: .live [encE b days ch] 3 :: bl, []⟩) (fun q => q.2.length) (0, days) ?_ ?_
    · simp only [go_sem, Nat.reduceEqDiff, Nat.reduceAdd, Nat.reduceLT, Nat.reduceLeDiff, reduceIte]
      exact ⟨trivial, trivial, trivial, rfl, trivial, ⟨hx, hxd, hxg⟩, _, rfl⟩
    rintro ⟨k, r⟩ e m ⟨g2, g3, g5, g7, hdr, hex, bl, rfl⟩
    dsimp only at g7 hdr hex
    cases r with
    | nil => obtain ⟨_, h, _⟩ := hex; cases h
    | cons h r =>
      obtain ⟨hk, hd2, hlt⟩ := drop_cons hdr
      have hN := hnew h (hd h (List.mem_of_getElem? hk))
      cases hc : decide (h ≤ gn)
      · rw [hc] at hN
        simp only [go_sem, Nat.reduceEqDiff, Nat.reduceAdd, Nat.reduceLT, Nat.reduceLeDiff, reduceIte, g2, g3, g5, g7, ECells, LCells, LEta, dec_lt hlt, Is_idx hk, WB40, WVH_eq (New_ok hv), WB39, WVH_eq hN, true_and, show (((0 : Nat) : Int) == 0) = true from rfl, WB13, WVH_eq works_ok]
      · rw [hc] at hN
        simp only [go_sem, Nat.reduceEqDiff, Nat.reduceAdd, Nat.reduceLT, Nat.reduceLeDiff, reduceIte, g2, g3, g5, g7, ECells, LCells, LEta, dec_lt hlt, Is_idx hk, WB40, WVH_eq (New_ok hv), WB39, WVH_eq hN, true_and, wrap_n1 k (by omega)]
        refine Nx_of (k + 1, r) (by simp) ?_
        simp only [go_sem, Nat.reduceEqDiff, Nat.reduceAdd, Nat.reduceLT, Nat.reduceLeDiff, reduceIte, g2, g3, g5]
        refine ⟨trivial, trivial, trivial, trivial, hd2, ?_, _, rfl⟩
        obtain ⟨y, hy, hyg⟩ := hex
        rcases List.mem_cons.1 hy with rfl | hy
        · have := of_decide_eq_true hc; omega
        · exact ⟨y, hy, hyg⟩
  | some c =>
    rw [hch] at hC
    replace hC : RV ft 30 [encL l, I64 b, encIs days] (.tup [encIs c, I64 0]) := hC
    obtain ⟨hcl, hcb⟩ := hge c hch
    have hS1 := hS c (by omega)
    rw [hsh c hch] at hS1
    have hS2 := hS ch (by omega)
    have e1 : decide ((days.length : Int) < (c.length : Int)) = false := decide_eq_false (by omega)
    have T2 : ∀ e : Nat → AV, e 2 = .ptr 0 0 0 → e 3 = .ptr 1 0 0 → e 5 = encIs c → ∀ bl, W ft tl10_2 ⟨e, ⟨.live [encL l] 9 :: .live [encE b days ch] 3 :: bl, []⟩⟩ (Fin [.t 4] fun u m => Ab.snap m dep u = .bool true) := by
      intro e g2 g3 g5 bl
      simp only [tl10_2]
      simp only [go_sem, Nat.reduceEqDiff, Nat.reduceAdd, Nat.reduceLT, Nat.reduceLeDiff, reduceIte, g2, g3, g5]
      refine WL_inv (α := Nat × List Int) (fun q e mm => e 2 = .ptr 0 0 0 ∧ e 3 = .ptr 1 0 0 ∧ e 5 = encIs c ∧ e 8 = I64 q.1 ∧ c.drop q.1 = q.2 ∧ ∃ bl, mm = ⟨.live [encL l] 9 :: .live [encE b days ch] 3 :: bl, []⟩) (fun q => q.2.length) (0, c) ?_ ?_
      · simp only [go_sem, Nat.reduceEqDiff, Nat.reduceAdd, Nat.reduceLT, Nat.reduceLeDiff, reduceIte, g2, g3, g5]
        exact ⟨trivial, trivial, trivial, rfl, trivial, _, rfl⟩
      clear g2 g3 g5
      rintro ⟨i, r⟩ e m ⟨g2, g3, g5, g8, hdr, bl, rfl⟩
      dsimp only at g8 hdr
      cases r with
      | nil =>
        have h3 := drop_nil hdr
        simp only [go_sem, Nat.reduceEqDiff, Nat.reduceAdd, Nat.reduceLT, Nat.reduceLeDiff, reduceIte, g2, g3, g5, g8, dec_ge h3, WB13, WVH_eq works_ok, true_and]
      | cons x r =>
        obtain ⟨hk, hd2, hlt⟩ := drop_cons hdr
        have hxb := hcb x (List.mem_of_getElem? hk)
        have hS3 := hS (c.set i (x + 1)) (by rw [List.length_set]; omega)
        rw [hlate c i x hch hk] at hS3
        have hcne : c ≠ [] := fun h => by rw [h] at hlt; exact absurd hlt (by simp)
        have happ : ∀ (m : Mem) (by' : Nat), by' ≤ 8 → append0 m (.sl [] .tight) (encIs c) 1 by' = some (.ref m.blks.length 0 c.length, newBlk m (c.map I64) 1) := fun m by' hb8 => by
          simp only [append0, encIs, Mem.elems, List.length_map, Is_hd]
          have : c.length * (by' + 1) ≤ 40 * 9 := Nat.mul_le_mul (by omega) (by omega)
          rw [if_pos ⟨⟨by unfold limit; omega, trivial⟩, by simpa using hcne⟩]
        have hw : IntKind.i64.wrap (x + 1) = x + 1 := wrap_i1 x (by omega) (by omega)
        have hw2 := wrap_n1 i (show i < 4611686018427387904 by omega)
        have hmi : (c.map I64)[i]? = some (I64 x) := by rw [List.getElem?_map, hk]; rfl
        have hms : ∀ v : AV, ((c.map I64).set i v)[i]? = some v := fun v => by rw [List.getElem?_set_self (by rw [List.length_map]; omega)]
        have hlz : ∀ v : List AV, lsz ⟨.live [encL l] 9 :: .live [encE b days ch] 3 :: (bl ++ [Blk.live v 1]), []⟩ (bl.length + 1 + 1) = some 1 := fun v => by
          unfold lsz
          simp
        have hix : ∀ v : List AV, idxAt ⟨.live [encL l] 9 :: .live [encE b days ch] 3 :: (bl ++ [Blk.live v 1]), []⟩ (.ref (bl.length + 1 + 1) 0 c.length) (I64 (i : Int)) 1 = some (.ptr (bl.length + 1 + 1) i 0) := fun v => idx_ref (hlz v) hlt
        have hsn : Ab.snap ⟨.live [encL l] 9 :: .live [encE b days ch] 3 :: (bl ++ [Blk.live ((c.map I64).set i (I64 (x + 1))) 1]), []⟩ 12 (.ref (bl.length + 1 + 1) 0 c.length) = encIs (c.set i (x + 1)) := by
          have := snI_ref (bl := .live [encL l] 9 :: .live [encE b days ch] 3 :: (bl ++ [Blk.live ((c.map I64).set i (I64 (x + 1))) 1])) (tk := []) (id := bl.length + 1 + 1) (sz := 1) (c := c.set i (x + 1)) (es := (c.map I64).set i (I64 (x + 1))) (by simp) (by rw [List.map_set]) 9
          rwa [List.length_set] at this
        have hsn2 : ∀ m : Mem, Ab.snap m 12 (encIs c) = encIs c := fun m => snIs m 10 c
        have hnext : ∀ e : Nat → AV, e 2 = .ptr 0 0 0 → e 3 = .ptr 1 0 0 → e 5 = encIs c → e 8 = I64 ((i + 1 : Nat) : Int) → ∀ bl', (fun q : Nat × List Int => fun (e : Nat → AV) (mm : Mem) => e 2 = .ptr 0 0 0 ∧ e 3 = .ptr 1 0 0 ∧ e 5 = encIs c ∧ e 8 = I64 q.1 ∧ c.drop q.1 = q.2 ∧ ∃ bl, mm = ⟨.live [encL l] 9 :: .live [encE b days ch] 3 :: bl, []⟩) (i + 1, r) e ⟨.live [encL l] 9 :: .live [encE b days ch] 3 :: bl', []⟩ := fun e a1 a2 a3 a4 bl' => ⟨a1, a2, a3, a4, hd2, _, rfl⟩
        simp only [go_sem, Nat.reduceEqDiff, Nat.reduceAdd, Nat.reduceLT, Nat.reduceLeDiff, reduceIte, g2, g3, g5, g8, dec_lt hlt, happ _ 8 (Nat.le_refl 8), hix, hlz, hmi, hms, hw, hw2]
        cases hd1 : decide (x + 1 < (days.length : Int)) <;> cases hlast : (((i + 1 : Nat) : Int) == (c.length : Int))
        · obtain ⟨y, hy⟩ : ∃ y, c[i + 1]? = some y := ⟨c[i + 1]'(by rw [beq_eq_false_iff_ne] at hlast; omega), by simp⟩
          cases hxy : decide (x + 1 < y)
          · simp only [go_sem, Nat.reduceEqDiff, Nat.reduceAdd, Nat.reduceLT, Nat.reduceLeDiff, reduceIte, g2, g3, g5, g8, ECells, EEta, LCells, LEta, hix, hlz, hmi, hms, hw, hw2, Is_idx hk, hsn, WB41, WVH_eq hS3, true_and, hlast, Is_idx hy, hxy, hd1]
            refine Nx_of (i + 1, r) (by simp) ?_
            simp only [go_sem, Nat.reduceEqDiff, Nat.reduceAdd, Nat.reduceLT, Nat.reduceLeDiff, reduceIte, g2, g3, g5]
            exact ⟨trivial, trivial, trivial, trivial, hd2, _, rfl⟩
          · simp only [go_sem, Nat.reduceEqDiff, Nat.reduceAdd, Nat.reduceLT, Nat.reduceLeDiff, reduceIte, g2, g3, g5, g8, ECells, EEta, LCells, LEta, hix, hlz, hmi, hms, hw, hw2, Is_idx hk, hsn, WB41, WVH_eq hS3, true_and, hlast, Is_idx hy, hxy, hd1]
            refine Nx_of (i + 1, r) (by simp) ?_
            simp only [go_sem, Nat.reduceEqDiff, Nat.reduceAdd, Nat.reduceLT, Nat.reduceLeDiff, reduceIte, g2, g3, g5]
            exact ⟨trivial, trivial, trivial, trivial, hd2, _, rfl⟩
        · simp only [go_sem, Nat.reduceEqDiff, Nat.reduceAdd, Nat.reduceLT, Nat.reduceLeDiff, reduceIte, g2, g3, g5, g8, ECells, EEta, LCells, LEta, hix, hlz, hmi, hms, hw, hw2, Is_idx hk, hsn, WB41, WVH_eq hS3, true_and, hlast, hd1]
          refine Nx_of (i + 1, r) (by simp) ?_
          simp only [go_sem, Nat.reduceEqDiff, Nat.reduceAdd, Nat.reduceLT, Nat.reduceLeDiff, reduceIte, g2, g3, g5]
          exact ⟨trivial, trivial, trivial, trivial, hd2, _, rfl⟩
        · obtain ⟨y, hy⟩ : ∃ y, c[i + 1]? = some y := ⟨c[i + 1]'(by rw [beq_eq_false_iff_ne] at hlast; omega), by simp⟩
          cases hxy : decide (x + 1 < y)
          · simp only [go_sem, Nat.reduceEqDiff, Nat.reduceAdd, Nat.reduceLT, Nat.reduceLeDiff, reduceIte, g2, g3, g5, g8, ECells, EEta, LCells, LEta, hix, hlz, hmi, hms, hw, hw2, Is_idx hk, hsn, WB41, WVH_eq hS3, true_and, hlast, Is_idx hy, hxy, hd1]
            refine Nx_of (i + 1, r) (by simp) ?_
            simp only [go_sem, Nat.reduceEqDiff, Nat.reduceAdd, Nat.reduceLT, Nat.reduceLeDiff, reduceIte, g2, g3, g5]
            exact ⟨trivial, trivial, trivial, trivial, hd2, _, rfl⟩
          · simp only [go_sem, Nat.reduceEqDiff, Nat.reduceAdd, Nat.reduceLT, Nat.reduceLeDiff, reduceIte, g2, g3, g5, g8, ECells, EEta, LCells, LEta, hix, hlz, hmi, hms, hw, hw2, Is_idx hk, hsn, WB41, WVH_eq hS3, true_and, hlast, Is_idx hy, hxy, hd1]
            refine Nx_of (i + 1, r) (by simp) ?_
            simp only [go_sem, Nat.reduceEqDiff, Nat.reduceAdd, Nat.reduceLT, Nat.reduceLeDiff, reduceIte, g2, g3, g5]
            exact ⟨trivial, trivial, trivial, trivial, hd2, _, rfl⟩
        · simp only [go_sem, Nat.reduceEqDiff, Nat.reduceAdd, Nat.reduceLT, Nat.reduceLeDiff, reduceIte, g2, g3, g5, g8, ECells, EEta, LCells, LEta, hix, hlz, hmi, hms, hw, hw2, Is_idx hk, hsn, WB41, WVH_eq hS3, true_and, hlast, hd1]
          refine Nx_of (i + 1, r) (by simp) ?_
          simp only [go_sem, Nat.reduceEqDiff, Nat.reduceAdd, Nat.reduceLT, Nat.reduceLeDiff, reduceIte, g2, g3, g5]
          exact ⟨trivial, trivial, trivial, trivial, hd2, _, rfl⟩
    have T1 : ∀ e : Nat → AV, e 2 = .ptr 0 0 0 → e 3 = .ptr 1 0 0 → e 5 = encIs c → e 6 = I64 0 → ∀ bl, W ft tl10_1 ⟨e, ⟨.live [encL l] 9 :: .live [encE b days ch] 3 :: bl, []⟩⟩ (Fin [.t 4] fun u m => Ab.snap m dep u = .bool true) := by
      intro e g2 g3 g5 g6 bl
      simp only [tl10_1]
      cases hB : shF gn 0 k0 days ch
      · rw [hB] at hS2
        simp only [go_sem, Nat.reduceEqDiff, Nat.reduceAdd, Nat.reduceLT, Nat.reduceLeDiff, reduceIte, g2, g3, g5, g6, ECells, EEta, LCells, LEta, z, e1, WB41, WVH_eq hS1, WVH_eq hS2, true_and]
        exact T2 _ (by simp only [go_sem, Nat.reduceEqDiff, Nat.reduceAdd, Nat.reduceLT, Nat.reduceLeDiff, reduceIte, g2]) (by simp only [go_sem, Nat.reduceEqDiff, Nat.reduceAdd, Nat.reduceLT, Nat.reduceLeDiff, reduceIte, g3]) (by simp only [go_sem, Nat.reduceEqDiff, Nat.reduceAdd, Nat.reduceLT, Nat.reduceLeDiff, reduceIte, g5]) _
      · rw [hB] at hS2
        have e2 : decide ((ch.length : Int) < (c.length : Int)) = false := decide_eq_false (by have := (hfew c hch hB).1 (Int.le_refl _); omega)
        simp only [go_sem, Nat.reduceEqDiff, Nat.reduceAdd, Nat.reduceLT, Nat.reduceLeDiff, reduceIte, g2, g3, g5, g6, ECells, EEta, LCells, LEta, z, e1, e2, WB41, WVH_eq hS1, WVH_eq hS2, true_and]
        exact T2 _ (by simp only [go_sem, Nat.reduceEqDiff, Nat.reduceAdd, Nat.reduceLT, Nat.reduceLeDiff, reduceIte, g2]) (by simp only [go_sem, Nat.reduceEqDiff, Nat.reduceAdd, Nat.reduceLT, Nat.reduceLeDiff, reduceIte, g3]) (by simp only [go_sem, Nat.reduceEqDiff, Nat.reduceAdd, Nat.reduceLT, Nat.reduceLeDiff, reduceIte, g5]) _
    simp only [go_sem, Nat.reduceEqDiff, Nat.reduceAdd, Nat.reduceLT, Nat.reduceLeDiff, reduceIte, WB30, WVH_eq hC, true_and, ECells]
    simp only [tl10_0]
    simp only [go_sem, Nat.reduceEqDiff, Nat.reduceAdd, Nat.reduceLT, Nat.reduceLeDiff, reduceIte, show ((0 : Int) == 3) = false from rfl]
    exact T1 _ (by simp only [go_sem, Nat.reduceEqDiff, Nat.reduceAdd, Nat.reduceLT, Nat.reduceLeDiff, reduceIte]) (by simp only [go_sem, Nat.reduceEqDiff, Nat.reduceAdd, Nat.reduceLT, Nat.reduceLeDiff, reduceIte]) (by simp only [go_sem, Nat.reduceEqDiff, Nat.reduceAdd, Nat.reduceLT, Nat.reduceLeDiff, reduceIte]) (by simp only [go_sem, Nat.reduceEqDiff, Nat.reduceAdd, Nat.reduceLT, Nat.reduceLeDiff, reduceIte]) _
theorem LampSeason_run (l : Lm) (b : Int) (days ch : List Int) : RV ft 10 [encL l, encE b days ch] (.bool true) := LampSeason_of Changes_ok l b days ch
end Go.Ab.T
end
