/-
  A part of the proofs over this seat.
  (The texts KwK6 KwK7 KwK8 KwK9 KwK10 KwK11, one behind the other.)
-/
import Derived.Test.YtikfmbopfconkaaP1
set_option linter.unusedSimpArgs false
set_option linter.unusedVariables false
set_option linter.unusedSectionVars false
section
namespace Go.Ab.T
set_option maxRecDepth 8000
set_option maxHeartbeats 4000000
def shR (w : Wk) (f : Int) : Bool := inR f (-1) ((w.films.length : Int) - 1)
def progOK (w : Wk) (p : List Int) : Bool := (p.all (shR w)) && ((p.length : Int) == w.slots)
def chkP (w : Wk) (p : List Int) : Int := if chkW w = 0 then (if progOK w p = true then 0 else 52) else chkW w
theorem shR_eq (w : Wk) (f : Int) : shR w f = (f == -1 || inR f 0 ((w.films.length : Int) - 1)) := by
  rw [Bool.eq_iff_iff]
  unfold shR inR
  simp
  omega
/-- A week without an error is small. -/
structure WV (w : Wk) : Prop where
  d1 : 1 ≤ w.days
  d2 : w.days ≤ 7
  r1 : 1 ≤ w.rooms.length
  r2 : w.rooms.length ≤ 4
  h1 : 1 ≤ w.hours
  h2 : w.hours ≤ 4
  s : w.slots ≤ 8
  f : w.films.length ≤ 4
  d : w.deals.length ≤ 8
  rooms : ∀ r ∈ w.rooms, 1 ≤ r ∧ r ≤ 500
  films : ∀ m ∈ w.films, mvOK w.hours m = true
theorem WV_of {w : Wk} (h : wkOK w = true) : WV w := by
  rw [wk_split] at h
  simp only [Bool.and_eq_true, decide_eq_true_eq, List.all_eq_true, inR_iff] at h
  obtain ⟨h1, h2, h3, h4, h5, h6, h7, h8⟩ := h
  exact ⟨h1.1, h1.2, by omega, by omega, h3.1, h3.2, h4, by omega, by omega, h7, h8⟩
theorem chkW_ok {w : Wk} (h : chkW w = 0) : wkOK w = true ∧ w.deals.all (dlOK w) = true := by
  unfold chkW at h
  split at h
  · rename_i h1
    split at h
    · rename_i h2; exact ⟨h1, h2⟩
    · cases h
  · cases h
theorem slots_nn {w : Wk} (h : WV w) : 0 ≤ w.slots := Int.mul_nonneg (Int.mul_nonneg (by have := h.d1; omega) (by omega)) (by have := h.h1; omega)
theorem IsProgram_ok (w : Wk) (hw : WV w) (p : List Int) (hp : p.length < 9223372036854775808) : RV ft 29 [encW w, encIs p] (.bool (progOK w p)) := by
  refine RV_of ft29 rfl ?_
  simp only [c29, r29]
  have w1 : IntKind.i64.wrap ((w.films.length : Int) - 1) = (w.films.length : Int) - 1 := wrap_i64 _ (by omega) (by have := hw.f; omega)
  have hS := Slots_ok w (by have := hw.d1; omega) hw.d2 hw.r2 (by have := hw.h1; omega) hw.h2
  have hno : ∀ r : List Int, (r.all (shR w)) = false → (r.all (shR w)) = (p.all (shR w)) → progOK w p = false := fun r h1 h2 => by unfold progOK; rw [← h2, h1]; rfl
  simp only [go_sem, Nat.reduceEqDiff, Nat.reduceAdd, Nat.reduceLT, Nat.reduceLeDiff, reduceIte, WCells, WEta, cellsIs, solidIs, cellsFs, solidFs, cellsDs, solidDs, Bool.and_self, Is_len, Fs_len, Ds_len, WB38, WVH_eq (within_ok _ _ _), WB57, WVH_eq (isWithin_ok _ _ _), true_and, snW, hotW, snIs, hotIs, w1]
  refine WL_inv (α := Nat × List Int) (fun q e mm => e 1 = encIs p ∧ e 2 = .ptr 0 0 0 ∧ e 5 = I64 q.1 ∧ p.drop q.1 = q.2 ∧ (q.2.all (shR w)) = (p.all (shR w)) ∧ mm = ⟨[.live [encW w] 5], []⟩) (fun q => q.2.length) (0, p) ?_ ?_
  · simp only [go_sem, Nat.reduceEqDiff, Nat.reduceAdd, Nat.reduceLT, Nat.reduceLeDiff, reduceIte]
    ((repeat' apply And.intro) <;> first | trivial | rfl | omega | assumption)
  rintro ⟨k, r⟩ e m ⟨g1, g2, g5, hdr, hq, rfl⟩
  dsimp only at g5 hdr hq
  cases r with
  | cons x r =>
    obtain ⟨hk, hd2, hlt⟩ := drop_cons hdr
    cases h7 : inR x (-1) ((w.films.length : Int) - 1)
    · have hb := hno (x :: r) (by rw [List.all_cons, show shR w x = false from h7]; rfl) hq
      simp only [go_sem, Nat.reduceEqDiff, Nat.reduceAdd, Nat.reduceLT, Nat.reduceLeDiff, reduceIte, g1, g2, g5, WCells, WEta, cellsIs, solidIs, cellsFs, solidFs, cellsDs, solidDs, Bool.and_self, Is_len, Fs_len, Ds_len, WB38, WVH_eq (within_ok _ _ _), WB57, WVH_eq (isWithin_ok _ _ _), true_and, snW, hotW, snIs, hotIs, w1, dec_lt hlt, Is_idx _ hk, h7, hb]
    simp only [go_sem, Nat.reduceEqDiff, Nat.reduceAdd, Nat.reduceLT, Nat.reduceLeDiff, reduceIte, g1, g2, g5, WCells, WEta, cellsIs, solidIs, cellsFs, solidFs, cellsDs, solidDs, Bool.and_self, Is_len, Fs_len, Ds_len, WB38, WVH_eq (within_ok _ _ _), WB57, WVH_eq (isWithin_ok _ _ _), true_and, snW, hotW, snIs, hotIs, w1, dec_lt hlt, Is_idx _ hk, h7, wrap_n1b k (by omega)]
    refine Nx_of (k + 1, r) (by simp) ?_
    simp only [go_sem, Nat.reduceEqDiff, Nat.reduceAdd, Nat.reduceLT, Nat.reduceLeDiff, reduceIte, g1, g2]
    exact ⟨trivial, trivial, trivial, hd2, by rw [← hq, List.all_cons, show shR w x = true from h7]; rfl, trivial⟩
  | nil =>
  have hge := drop_nil hdr
  simp only [go_sem, Nat.reduceEqDiff, Nat.reduceAdd, Nat.reduceLT, Nat.reduceLeDiff, reduceIte, g1, g2, g5, WCells, WEta, cellsIs, solidIs, cellsFs, solidFs, cellsDs, solidDs, Bool.and_self, Is_len, Fs_len, Ds_len, WB38, WVH_eq (within_ok _ _ _), WB57, WVH_eq (isWithin_ok _ _ _), true_and, snW, hotW, snIs, hotIs, w1, dec_ge hge, WB39, WVH_eq hS]
  unfold progOK; rw [← hq]; rfl
theorem isShown_ok (w : Wk) (hf : w.films.length ≤ 1000) (f : Int) : RV ft 70 [I64 f, .pv (encW w) 0] (.bool (shR w f)) := by
  refine RV_of ft70 rfl ?_
  simp only [c70, r70]
  have w1 : IntKind.i64.wrap ((w.films.length : Int) - 1) = (w.films.length : Int) - 1 := wrap_i64 _ (by omega) (by omega)
  rw [shR_eq]
  cases h1 : f == -1
  · simp only [go_sem, Nat.reduceEqDiff, Nat.reduceAdd, Nat.reduceLT, Nat.reduceLeDiff, reduceIte, WCells, WEta, cellsIs, solidIs, cellsFs, solidFs, cellsDs, solidDs, Bool.and_self, Is_len, Fs_len, Ds_len, WB38, WVH_eq (within_ok _ _ _), WB57, WVH_eq (isWithin_ok _ _ _), true_and, snW, hotW, snIs, hotIs, w1, h1, Bool.false_or]
  · simp only [go_sem, Nat.reduceEqDiff, Nat.reduceAdd, Nat.reduceLT, Nat.reduceLeDiff, reduceIte, WCells, WEta, cellsIs, solidIs, cellsFs, solidFs, cellsDs, solidDs, Bool.and_self, Is_len, Fs_len, Ds_len, WB38, WVH_eq (within_ok _ _ _), WB57, WVH_eq (isWithin_ok _ _ _), true_and, snW, hotW, snIs, hotIs, w1, h1, Bool.true_or]
theorem says70 (w : Wk) (hf : w.films.length ≤ 1000) (l : List Int) : Says I64 (.fn 70 [] [.pv (encW w) 0]) l (shR w) := by
  intro x hx e m K hK
  rw [WAH_fn]
  simp only [go_sem, Nat.reduceEqDiff, Nat.reduceAdd, Nat.reduceLT, Nat.reduceLeDiff, reduceIte, WB70, snW, hotW, WVH_eq (isShown_ok w hf x), true_and]
  exact hK
theorem fnv70 (w : Wk) : FnV (.fn 70 [] [.pv (encW w) 0]) := ⟨rfl, rfl, fun m q => by
    show AV.fn 70 [] [.pv (snap m (q + 5) (encW w)) 0] = _
    rw [snW], fun q => by
    show (false || (hot (q + 5) (encW w) || false)) = false
    rw [hotW]; rfl⟩
theorem checkProgram_ok (w : Wk) (p : List Int) : RV ft 42 [encW w, encIs p] (I64 (chkP w p)) := by
  refine RV_of ft42 rfl ?_
  simp only [c42, r42]
  unfold chkP
  by_cases h0 : chkW w = 0
  · have hw := WV_of (chkW_ok h0).1
    have w1 : (0 : Int) = 0 := rfl
    have n0 : ((0 : Int) != 0) = false := rfl
    have hS := slotCount_ok w (by have := hw.d1; omega) hw.d2 hw.r2 (by have := hw.h1; omega) hw.h2
    cases h1 : ((p.length : Int) == w.slots)
    · have h1' : ((p.length : Int) != w.slots) = true := by rw [bne, h1]; rfl
      have h2 : progOK w p = false := by unfold progOK; rw [h1, Bool.and_false]
      simp only [go_sem, Nat.reduceEqDiff, Nat.reduceAdd, Nat.reduceLT, Nat.reduceLeDiff, reduceIte, WCells, WEta, cellsIs, solidIs, cellsFs, solidFs, cellsDs, solidDs, Bool.and_self, Is_len, Fs_len, Ds_len, WB38, WVH_eq (within_ok _ _ _), WB57, WVH_eq (isWithin_ok _ _ _), true_and, snW, hotW, snIs, hotIs, WB14, WVH_eq (Check_ok w), h0, n0, WB61, WVH_eq hS, h1', h2, Bool.false_eq_true, if_false, if_true]
    have h1' : ((p.length : Int) != w.slots) = false := by rw [bne, h1]; rfl
    have hl : p.length < 1073741824 := by have := eq_of_beq h1; have := hw.s; omega
    have h2 : progOK w p = p.all (shR w) := by unfold progOK; rw [h1, Bool.and_true]
    cases h3 : p.all (shR w)
    · simp only [go_sem, Nat.reduceEqDiff, Nat.reduceAdd, Nat.reduceLT, Nat.reduceLeDiff, reduceIte, WCells, WEta, cellsIs, solidIs, cellsFs, solidFs, cellsDs, solidDs, Bool.and_self, Is_len, Fs_len, Ds_len, WB38, WVH_eq (within_ok _ _ _), WB57, WVH_eq (isWithin_ok _ _ _), true_and, snW, hotW, snIs, hotIs, WB14, WVH_eq (Check_ok w), h0, n0, WB61, WVH_eq hS, h1', h2, cells_fn, WB64, snap_fn, WVH_eq (allIs_ok p _ _ hl (fnv70 w) (says70 w (by have := hw.f; omega) _)), h3, Bool.false_eq_true, if_false, if_true]
    · simp only [go_sem, Nat.reduceEqDiff, Nat.reduceAdd, Nat.reduceLT, Nat.reduceLeDiff, reduceIte, WCells, WEta, cellsIs, solidIs, cellsFs, solidFs, cellsDs, solidDs, Bool.and_self, Is_len, Fs_len, Ds_len, WB38, WVH_eq (within_ok _ _ _), WB57, WVH_eq (isWithin_ok _ _ _), true_and, snW, hotW, snIs, hotIs, WB14, WVH_eq (Check_ok w), h0, n0, WB61, WVH_eq hS, h1', h2, cells_fn, WB64, snap_fn, WVH_eq (allIs_ok p _ _ hl (fnv70 w) (says70 w (by have := hw.f; omega) _)), h3, if_true]
  · have n0 : (chkW w != 0) = true := by rw [bne, beq_eq_false_iff_ne.2 h0]; rfl
    simp only [go_sem, Nat.reduceEqDiff, Nat.reduceAdd, Nat.reduceLT, Nat.reduceLeDiff, reduceIte, WCells, WEta, cellsIs, solidIs, cellsFs, solidFs, cellsDs, solidDs, Bool.and_self, Is_len, Fs_len, Ds_len, WB38, WVH_eq (within_ok _ _ _), WB57, WVH_eq (isWithin_ok _ _ _), true_and, snW, hotW, snIs, hotIs, WB14, WVH_eq (Check_ok w), n0, if_neg h0]
/-- The slots of a program that show a film. -/
def shownN (f : Int) : List Int → Nat → Nat → Nat
  | [], _, s => s
  | x :: r, k, s => shownN f r (k + 1) (if x == f then s ||| 2 ^ k else s)
theorem slotsOf_ok (p : List Int) (f : Int) (hp : p.length < 64) : RV ft 44 [encIs p, I64 f] (U64 (shownN f p 0 0)) := by
  refine RV_of ft44 rfl ?_
  simp only [c44, r44]
  simp only [go_sem, Nat.reduceEqDiff, Nat.reduceAdd, Nat.reduceLT, Nat.reduceLeDiff, reduceIte, Is_len]
  refine WL_inv (α := Nat × List Int × Nat) (fun q e mm => e 1 = I64 f ∧ e 5 = U64 q.2.2 ∧ e 8 = encIs p ∧ e 9 = I64 p.length ∧ e 10 = I64 q.1 ∧ p.drop q.1 = q.2.1 ∧ shownN f q.2.1 q.1 q.2.2 = shownN f p 0 0 ∧ q.2.2 < 18446744073709551616) (fun q => q.2.1.length) (0, p, 0) ?_ ?_
  · simp only [go_sem, Nat.reduceEqDiff, Nat.reduceAdd, Nat.reduceLT, Nat.reduceLeDiff, reduceIte]
    ((repeat' apply And.intro) <;> first | trivial | rfl | omega | assumption)
  rintro ⟨k, r, s⟩ e m ⟨g1, g5, g8, g9, g10, hdr, hq, hs⟩
  dsimp only at g5 g10 hdr hq hs
  cases r with
  | nil =>
    have hge := drop_nil hdr
    simp only [go_sem, Nat.reduceEqDiff, Nat.reduceAdd, Nat.reduceLT, Nat.reduceLeDiff, reduceIte, g1, g5, g8, g9, g10, dec_ge hge]
    rw [← hq]; rfl
  | cons x r =>
    obtain ⟨hk, hd2, hlt⟩ := drop_cons hdr
    cases h1 : x == f
    · simp only [go_sem, Nat.reduceEqDiff, Nat.reduceAdd, Nat.reduceLT, Nat.reduceLeDiff, reduceIte, g1, g5, g8, g9, g10, dec_lt hlt, Is_idx _ hk, h1, wrap_n1 k (by omega)]
      refine Nx_of (k + 1, r, s) (by simp) ?_
      simp only [go_sem, Nat.reduceEqDiff, Nat.reduceAdd, Nat.reduceLT, Nat.reduceLeDiff, reduceIte, g1, g5, g8, g9]
      exact ⟨trivial, trivial, trivial, trivial, trivial, hd2, by rw [← hq, shownN, h1]; rfl, hs⟩
    · simp only [go_sem, Nat.reduceEqDiff, Nat.reduceAdd, Nat.reduceLT, Nat.reduceLeDiff, reduceIte, g1, g5, g8, g9, g10, dec_lt hlt, Is_idx _ hk, h1, WB73, WVH_eq (with_ok s k hs (by omega)), true_and, wrap_n1 k (by omega)]
      refine Nx_of (k + 1, r, s ||| 2 ^ k) (by simp) ?_
      simp only [go_sem, Nat.reduceEqDiff, Nat.reduceAdd, Nat.reduceLT, Nat.reduceLeDiff, reduceIte, g1, g5, g8, g9]
      exact ⟨trivial, trivial, trivial, trivial, trivial, hd2, by rw [← hq, shownN, h1]; rfl, or_lt s (2 ^ k) 64 hs (two_lt k (by omega))⟩
end Go.Ab.T
end

section
namespace Go.Ab.T
set_option maxRecDepth 8000
set_option maxHeartbeats 4000000
theorem check_ok (w : Wk) (p : List Int) (hp : p.length < 1073741824) : RV ft 45 [encW w, encIs p] (I64 (chkP w p)) := by
  refine RV_of ft45 rfl ?_
  simp only [c45, r45]
  unfold chkP
  by_cases h0 : chkW w = 0
  · have hw := WV_of (chkW_ok h0).1
    have n0 : ((0 : Int) != 0) = false := rfl
    cases h1 : progOK w p
    · simp only [go_sem, Nat.reduceEqDiff, Nat.reduceAdd, Nat.reduceLT, Nat.reduceLeDiff, reduceIte, WCells, WEta, DCells, DEta, cellsIs, solidIs, cellsFs, solidFs, cellsDs, solidDs, Bool.and_self, Is_len, Fs_len, Ds_len, true_and, snW, hotW, snD, hotD, snIs, hotIs, WB15, WVH_eq (CheckR_ok w), h0, n0, WB29, WVH_eq (IsProgram_ok w hw p (by omega)), h1, Bool.false_eq_true, if_false, if_true]
    · simp only [go_sem, Nat.reduceEqDiff, Nat.reduceAdd, Nat.reduceLT, Nat.reduceLeDiff, reduceIte, WCells, WEta, DCells, DEta, cellsIs, solidIs, cellsFs, solidFs, cellsDs, solidDs, Bool.and_self, Is_len, Fs_len, Ds_len, true_and, snW, hotW, snD, hotD, snIs, hotIs, WB15, WVH_eq (CheckR_ok w), h0, n0, WB29, WVH_eq (IsProgram_ok w hw p (by omega)), h1, if_true]
  · have n0 : (chkW w != 0) = true := by rw [bne, beq_eq_false_iff_ne.2 h0]; rfl
    simp only [go_sem, Nat.reduceEqDiff, Nat.reduceAdd, Nat.reduceLT, Nat.reduceLeDiff, reduceIte, WCells, WEta, DCells, DEta, cellsIs, solidIs, cellsFs, solidFs, cellsDs, solidDs, Bool.and_self, Is_len, Fs_len, Ds_len, true_and, snW, hotW, snD, hotD, snIs, hotIs, WB15, WVH_eq (CheckR_ok w), n0, if_neg h0]
/-- The number of a slot. -/
def slN (w : Wk) (day s h : Nat) : Nat := (day * w.rooms.length + s) * w.hours.toNat + h
theorem slN_cast {w : Wk} (hw : WV w) (day s h : Nat) : ((day : Int) * w.rooms.length + s) * w.hours + h = ((slN w day s h : Nat) : Int) := by
  unfold slN
  rw [Int.natCast_add, Int.natCast_mul, Int.natCast_add, Int.natCast_mul, Int.toNat_of_nonneg (by have := hw.h1; omega)]
theorem slN_lt {w : Wk} (hw : WV w) {day s h : Nat} (h1 : (day : Int) < w.days) (h2 : s < w.rooms.length) (h3 : (h : Int) < w.hours) : slN w day s h < 8 := by
  have hs := hw.s
  unfold slN
  have e : w.slots = ((w.days.toNat * w.rooms.length * w.hours.toNat : Nat) : Int) := by
    unfold Wk.slots
    rw [Int.natCast_mul, Int.natCast_mul, Int.toNat_of_nonneg (by have := hw.h1; omega), Int.toNat_of_nonneg (by have := hw.d1; omega)]
  rw [e] at hs
  have hs : w.days.toNat * w.rooms.length * w.hours.toNat ≤ 8 := by omega
  have a : (day + 1) * w.rooms.length ≤ w.days.toNat * w.rooms.length := Nat.mul_le_mul_right _ (by omega)
  rw [Nat.succ_mul] at a
  have b : (day * w.rooms.length + s + 1) * w.hours.toNat ≤ w.days.toNat * w.rooms.length * w.hours.toNat := Nat.mul_le_mul_right _ (by omega)
  rw [Nat.succ_mul] at b
  omega
/-- On how many screens, from one on, a film is shown at an hour. -/
def scrN (w : Wk) (d : Dl) (sh day h : Nat) : List Int → Nat → Nat
  | [], _ => 0
  | x :: r, k => (if (decide (d.seats ≤ x) && sh.testBit (slN w day k h)) = true then 1 else 0) + scrN w d sh day h r (k + 1)
theorem screens_ok (w : Wk) (hw : WV w) (d : Dl) (sh day h : Nat) (hsh : sh < 18446744073709551616) (h1 : (day : Int) < w.days) (h2 : (h : Int) < w.hours) :
    RV ft 92 [encW w, encD d, U64 sh, I64 day, I64 h] (I64 (scrN w d sh day h w.rooms 0)) := by
  refine RV_of ft92 rfl ?_
  simp only [c92, r92]
  have b1 := hw.d2
  have b2 := hw.h2
  have b3 := hw.r2
  have b4 := hw.h1
  simp only [go_sem, Nat.reduceEqDiff, Nat.reduceAdd, Nat.reduceLT, Nat.reduceLeDiff, reduceIte, WCells, WEta, DCells, DEta, cellsIs, solidIs, cellsFs, solidFs, cellsDs, solidDs, Bool.and_self, Is_len, Fs_len, Ds_len, true_and, snW, hotW, snD, hotD, snIs, hotIs]
  refine WL_inv (α := Nat × List Int × Nat) (fun q e mm => e 2 = U64 sh ∧ e 3 = I64 day ∧ e 4 = I64 h ∧ e 5 = .ptr 0 0 0 ∧ e 6 = .ptr 1 0 0 ∧ e 11 = I64 q.2.2 ∧ e 15 = encIs w.rooms ∧ e 16 = I64 w.rooms.length ∧ e 17 = I64 q.1 ∧ w.rooms.drop q.1 = q.2.1 ∧ q.2.2 + scrN w d sh day h q.2.1 q.1 = scrN w d sh day h w.rooms 0 ∧ q.2.2 ≤ q.1 ∧ mm = ⟨[.live [encW w] 5, .live [encD d] 8], []⟩) (fun q => q.2.1.length) (0, w.rooms, 0) ?_ ?_
  · simp only [go_sem, Nat.reduceEqDiff, Nat.reduceAdd, Nat.reduceLT, Nat.reduceLeDiff, reduceIte]
    refine ⟨?_, ?_⟩ <;> first | trivial | skip
    all_goals (repeat' apply And.intro) <;> first | trivial | rfl | omega | assumption | (exact Nat.zero_add _)
  rintro ⟨k, r, n⟩ e m ⟨g2, g3, g4, g5, g6, g11, g15, g16, g17, hdr, hq, hn, rfl⟩
  dsimp only at g11 g17 hdr hq hn
  cases r with
  | nil =>
    have hge := drop_nil hdr
    simp only [go_sem, Nat.reduceEqDiff, Nat.reduceAdd, Nat.reduceLT, Nat.reduceLeDiff, reduceIte, g2, g3, g4, g5, g6, g11, g15, g16, g17, dec_ge hge]
    rw [← hq]; rfl
  | cons x r =>
    obtain ⟨hk, hd2, hlt⟩ := drop_cons hdr
    have hsl := slot_ok w day k h ⟨by omega, by omega⟩ ⟨by omega, by omega⟩ ⟨by omega, by omega⟩ b3 (by omega) b2
    rw [slN_cast hw] at hsl
    have hha := has_ok sh (slN w day k h) hsh (by have := slN_lt hw h1 hlt h2; omega)
    have add1 : IntKind.i64.wrap ((n : Int) + 1) = ((n + 1 : Nat) : Int) := wrap_n1 n (by omega)
    cases h5 : decide (d.seats ≤ x)
    · simp only [go_sem, Nat.reduceEqDiff, Nat.reduceAdd, Nat.reduceLT, Nat.reduceLeDiff, reduceIte, g2, g3, g4, g5, g6, g11, g15, g16, g17, dec_lt hlt, Is_idx _ hk, WCells, WEta, DCells, DEta, cellsIs, solidIs, cellsFs, solidFs, cellsDs, solidDs, Bool.and_self, Is_len, Fs_len, Ds_len, true_and, snW, hotW, snD, hotD, snIs, hotIs, h5, wrap_n1 k (by omega)]
      refine Nx_of (k + 1, r, n) (by simp) ?_
      simp only [go_sem, Nat.reduceEqDiff, Nat.reduceAdd, Nat.reduceLT, Nat.reduceLeDiff, reduceIte, g2, g3, g4, g5, g6, g11, g15, g16]
      exact ⟨trivial, trivial, trivial, trivial, trivial, trivial, trivial, trivial, trivial, hd2, by rw [← hq, scrN, h5]; simp, by omega, trivial⟩
    cases h6 : sh.testBit (slN w day k h)
    · simp only [go_sem, Nat.reduceEqDiff, Nat.reduceAdd, Nat.reduceLT, Nat.reduceLeDiff, reduceIte, g2, g3, g4, g5, g6, g11, g15, g16, g17, dec_lt hlt, Is_idx _ hk, WCells, WEta, DCells, DEta, cellsIs, solidIs, cellsFs, solidFs, cellsDs, solidDs, Bool.and_self, Is_len, Fs_len, Ds_len, true_and, snW, hotW, snD, hotD, snIs, hotIs, h5, WB106, WVH_eq hsl, WB96, WVH_eq hha, h6, wrap_n1 k (by omega)]
      refine Nx_of (k + 1, r, n) (by simp) ?_
      simp only [go_sem, Nat.reduceEqDiff, Nat.reduceAdd, Nat.reduceLT, Nat.reduceLeDiff, reduceIte, g2, g3, g4, g5, g6, g11, g15, g16]
      exact ⟨trivial, trivial, trivial, trivial, trivial, trivial, trivial, trivial, trivial, hd2, by rw [← hq, scrN, h5, h6]; simp, by omega, trivial⟩
    · simp only [go_sem, Nat.reduceEqDiff, Nat.reduceAdd, Nat.reduceLT, Nat.reduceLeDiff, reduceIte, g2, g3, g4, g5, g6, g11, g15, g16, g17, dec_lt hlt, Is_idx _ hk, WCells, WEta, DCells, DEta, cellsIs, solidIs, cellsFs, solidFs, cellsDs, solidDs, Bool.and_self, Is_len, Fs_len, Ds_len, true_and, snW, hotW, snD, hotD, snIs, hotIs, h5, WB106, WVH_eq hsl, WB96, WVH_eq hha, h6, wrap_n1 k (by omega), add1]
      refine Nx_of (k + 1, r, n + 1) (by simp) ?_
      simp only [go_sem, Nat.reduceEqDiff, Nat.reduceAdd, Nat.reduceLT, Nat.reduceLeDiff, reduceIte, g2, g3, g4, g5, g6, g15, g16]
      exact ⟨trivial, trivial, trivial, trivial, trivial, trivial, trivial, trivial, trivial, hd2, by rw [← hq, scrN, h5, h6]; simp; omega, by omega, trivial⟩
end Go.Ab.T
end

section
namespace Go.Ab.T
set_option maxRecDepth 8000
set_option maxHeartbeats 4000000
/-- A deal without an error. -/
structure DV (w : Wk) (d : Dl) : Prop where
  film : 0 ≤ d.film ∧ d.film ≤ (w.films.length : Int) - 1
  f0 : 0 ≤ d.fr
  ft : d.fr ≤ d.to
  t : d.to < w.days
  e0 : 0 ≤ d.early
  el : d.early ≤ d.late
  l : d.late < w.hours
  s0 : 0 ≤ d.seats ∧ d.seats ≤ 500
  tm : tmOK d = true
theorem DV_of {w : Wk} {d : Dl} (h : dlOK w d = true) : DV w d := by
  unfold dlOK at h
  simp only [Bool.and_eq_true, decide_eq_true_eq, inR_iff] at h
  obtain ⟨h1, h2, h3, h4, h5, h6, h7, h8, h9⟩ := h
  exact ⟨h1, h2, h3, h4, h5, h6, h7, h8, h9⟩
/-- All of so many hours, from one on, are in a set. -/
def runsN (w : Wk) (sh day s : Nat) : Nat → Nat → Bool
  | 0, _ => true
  | n + 1, h => sh.testBit (slN w day s h) && runsN w sh day s n (h + 1)
def hasScrN (w : Wk) (d : Dl) (sh day : Nat) : List Int → Nat → Bool
  | [], _ => false
  | x :: r, k => (decide (d.seats ≤ x) && runsN w sh day k (d.late.toNat + 1 - d.early.toNat) d.early.toNat) || hasScrN w d sh day r (k + 1)
theorem dec_lef {a b : Int} (h : b < a) : decide (a ≤ b) = false := decide_eq_false (by omega)
theorem hasScreen_ok (w : Wk) (hw : WV w) (d : Dl) (hd : DV w d) (sh day : Nat) (hsh : sh < 18446744073709551616) (h1 : (day : Int) < w.days) :
    RV ft 93 [encW w, encD d, U64 sh, I64 day] (.bool (hasScrN w d sh day w.rooms 0)) := by
  refine RV_of ft93 rfl ?_
  simp only [c93, r93]
  have b1 := hw.d2
  have b2 := hw.h2
  have b3 := hw.r2
  have b4 := hw.h1
  have e0 := hd.e0
  have el := hd.el
  have l := hd.l
  have hE : ((d.early.toNat : Nat) : Int) = d.early := Int.toNat_of_nonneg e0
  have hL : ((d.late.toNat : Nat) : Int) = d.late := Int.toNat_of_nonneg (by omega)
  simp only [go_sem, Nat.reduceEqDiff, Nat.reduceAdd, Nat.reduceLT, Nat.reduceLeDiff, reduceIte, WCells, WEta, DCells, DEta, cellsIs, solidIs, cellsFs, solidFs, cellsDs, solidDs, Bool.and_self, Is_len, Fs_len, Ds_len, true_and, snW, hotW, snD, hotD, snIs, hotIs]
  refine WL_inv (α := Nat × List Int) (fun q e mm => e 2 = U64 sh ∧ e 3 = I64 day ∧ e 4 = .ptr 0 0 0 ∧ e 5 = .ptr 1 0 0 ∧ e 13 = encIs w.rooms ∧ e 14 = I64 w.rooms.length ∧ e 15 = I64 q.1 ∧ w.rooms.drop q.1 = q.2 ∧ hasScrN w d sh day q.2 q.1 = hasScrN w d sh day w.rooms 0 ∧ mm = ⟨[.live [encW w] 5, .live [encD d] 8], []⟩) (fun q => q.2.length) (0, w.rooms) ?_ ?_
  · simp only [go_sem, Nat.reduceEqDiff, Nat.reduceAdd, Nat.reduceLT, Nat.reduceLeDiff, reduceIte]
    ((repeat' apply And.intro) <;> first | trivial | rfl | omega | assumption)
  rintro ⟨k, r⟩ e m ⟨g2, g3, g4, g5, g13, g14, g15, hdr, hq, rfl⟩
  dsimp only at g15 hdr hq
  cases r with
  | nil =>
    have hge := drop_nil hdr
    simp only [go_sem, Nat.reduceEqDiff, Nat.reduceAdd, Nat.reduceLT, Nat.reduceLeDiff, reduceIte, g2, g3, g4, g5, g13, g14, g15, dec_ge hge]
    rw [← hq]; rfl
  | cons x r =>
    obtain ⟨hk, hd2, hlt⟩ := drop_cons hdr
    cases h5 : decide (x < d.seats)
    case true =>
      simp only [go_sem, Nat.reduceEqDiff, Nat.reduceAdd, Nat.reduceLT, Nat.reduceLeDiff, reduceIte, g2, g3, g4, g5, g13, g14, g15, dec_lt hlt, Is_idx _ hk, WCells, WEta, DCells, DEta, cellsIs, solidIs, cellsFs, solidFs, cellsDs, solidDs, Bool.and_self, Is_len, Fs_len, Ds_len, true_and, snW, hotW, snD, hotD, snIs, hotIs, h5, wrap_n1 k (by omega)]
      refine Nx_of (k + 1, r) (by simp) ?_
      simp only [go_sem, Nat.reduceEqDiff, Nat.reduceAdd, Nat.reduceLT, Nat.reduceLeDiff, reduceIte, g2, g3, g4, g5, g13, g14]
      exact ⟨trivial, trivial, trivial, trivial, trivial, trivial, trivial, hd2, by rw [← hq, hasScrN, dec_lef (of_decide_eq_true h5)]; rfl, trivial⟩
    have h5' : decide (d.seats ≤ x) = true := decide_eq_true (by have := of_decide_eq_false h5; omega)
    simp only [go_sem, Nat.reduceEqDiff, Nat.reduceAdd, Nat.reduceLT, Nat.reduceLeDiff, reduceIte, g2, g3, g4, g5, g13, g14, g15, dec_lt hlt, Is_idx _ hk, WCells, WEta, DCells, DEta, cellsIs, solidIs, cellsFs, solidFs, cellsDs, solidDs, Bool.and_self, Is_len, Fs_len, Ds_len, true_and, snW, hotW, snD, hotD, snIs, hotIs, h5]
    refine WL_inv (α := Nat × Nat) (fun q e mm => e 2 = U64 sh ∧ e 3 = I64 day ∧ e 4 = .ptr 0 0 0 ∧ e 5 = .ptr 1 0 0 ∧ e 9 = I64 k ∧ e 11 = I64 q.1 ∧ e 13 = encIs w.rooms ∧ e 14 = I64 w.rooms.length ∧ e 15 = I64 k ∧ q.1 + q.2 = d.late.toNat + 1 ∧ runsN w sh day k q.2 q.1 = runsN w sh day k (d.late.toNat + 1 - d.early.toNat) d.early.toNat ∧ mm = ⟨[.live [encW w] 5, .live [encD d] 8], []⟩) (fun q => q.2) (d.early.toNat, d.late.toNat + 1 - d.early.toNat) ?_ ?_
    · simp only [go_sem, Nat.reduceEqDiff, Nat.reduceAdd, Nat.reduceLT, Nat.reduceLeDiff, reduceIte]
      refine ⟨g2, g3, g4, g5, ?_⟩
      first | exact ⟨rfl, by rw [hE], g13, g14, g15, by omega, rfl, rfl⟩ | (repeat' apply And.intro) <;> first | trivial | rfl | assumption | omega | (rw [hE])
    rintro ⟨h, n⟩ e m ⟨g2, g3, g4, g5, g9, g11, g13, g14, g15, hs, hr, rfl⟩
    dsimp only at g11 hs hr
    cases n with
    | zero =>
      have : decide ((h : Int) ≤ d.late) = false := decide_eq_false (by omega)
      simp only [go_sem, Nat.reduceEqDiff, Nat.reduceAdd, Nat.reduceLT, Nat.reduceLeDiff, reduceIte, g2, g3, g4, g5, g9, g11, g13, g14, g15, WCells, WEta, DCells, DEta, cellsIs, solidIs, cellsFs, solidFs, cellsDs, solidDs, Bool.and_self, Is_len, Fs_len, Ds_len, true_and, snW, hotW, snD, hotD, snIs, hotIs, this]
      rw [← hq, hasScrN, h5', ← hr]; rfl
    | succ n =>
      have hle : decide ((h : Int) ≤ d.late) = true := decide_eq_true (by omega)
      have hsl := slot_ok w day k h ⟨by omega, by omega⟩ ⟨by omega, by omega⟩ ⟨by omega, by omega⟩ b3 (by omega) b2
      rw [slN_cast hw] at hsl
      have hha := has_ok sh (slN w day k h) hsh (by have := slN_lt hw h1 hlt (show (h : Int) < w.hours by omega); omega)
      cases h6 : sh.testBit (slN w day k h)
      · simp only [go_sem, Nat.reduceEqDiff, Nat.reduceAdd, Nat.reduceLT, Nat.reduceLeDiff, reduceIte, g2, g3, g4, g5, g9, g11, g13, g14, g15, WCells, WEta, DCells, DEta, cellsIs, solidIs, cellsFs, solidFs, cellsDs, solidDs, Bool.and_self, Is_len, Fs_len, Ds_len, true_and, snW, hotW, snD, hotD, snIs, hotIs, hle, WB106, WVH_eq hsl, WB96, WVH_eq hha, h6, wrap_n1 k (by omega)]
        refine Nx_of (k + 1, r) (by simp) ?_
        simp only [go_sem, Nat.reduceEqDiff, Nat.reduceAdd, Nat.reduceLT, Nat.reduceLeDiff, reduceIte, g2, g3, g4, g5, g13, g14]
        exact ⟨trivial, trivial, trivial, trivial, trivial, trivial, trivial, hd2, by rw [← hq, hasScrN, ← hr, runsN, h6]; simp, trivial⟩
      · simp only [go_sem, Nat.reduceEqDiff, Nat.reduceAdd, Nat.reduceLT, Nat.reduceLeDiff, reduceIte, g2, g3, g4, g5, g9, g11, g13, g14, g15, WCells, WEta, DCells, DEta, cellsIs, solidIs, cellsFs, solidFs, cellsDs, solidDs, Bool.and_self, Is_len, Fs_len, Ds_len, true_and, snW, hotW, snD, hotD, snIs, hotIs, hle, WB106, WVH_eq hsl, WB96, WVH_eq hha, h6, wrap_n1 h (by omega)]
        refine Nx_of (h + 1, n) (by simp) ?_
        simp only [go_sem, Nat.reduceEqDiff, Nat.reduceAdd, Nat.reduceLT, Nat.reduceLeDiff, reduceIte, g2, g3, g4, g5, g9, g13, g14, g15]
        exact ⟨trivial, trivial, trivial, trivial, trivial, trivial, trivial, trivial, trivial, by omega, by rw [← hr, runsN, h6]; rfl, trivial⟩
end Go.Ab.T
end

section
namespace Go.Ab.T
set_option maxRecDepth 8000
set_option maxHeartbeats 4000000
/-- On all of so many days, from one on, a screen is for the film alone. -/
def cleanN (w : Wk) (d : Dl) (sh : Nat) : Nat → Nat → Bool
  | 0, _ => true
  | n + 1, day => hasScrN w d sh day w.rooms 0 && cleanN w d sh n (day + 1)
theorem isClean_ok (w : Wk) (hw : WV w) (d : Dl) (hd : DV w d) (sh : Nat) (hsh : sh < 18446744073709551616) : RV ft 72 [encW w, encD d, U64 sh] (.bool (cleanN w d sh (d.to.toNat + 1 - d.fr.toNat) d.fr.toNat)) := by
  refine RV_of ft72 rfl ?_
  simp only [c72, r72]
  have b1 := hw.d2
  have f0 := hd.f0
  have fT := hd.ft
  have t := hd.t
  have hF : ((d.fr.toNat : Nat) : Int) = d.fr := Int.toNat_of_nonneg f0
  have hT : ((d.to.toNat : Nat) : Int) = d.to := Int.toNat_of_nonneg (by omega)
  simp only [go_sem, Nat.reduceEqDiff, Nat.reduceAdd, Nat.reduceLT, Nat.reduceLeDiff, reduceIte, WCells, WEta, DCells, DEta, cellsIs, solidIs, cellsFs, solidFs, cellsDs, solidDs, Bool.and_self, Is_len, Fs_len, Ds_len, true_and, snW, hotW, snD, hotD, snIs, hotIs]
  refine WL_inv (α := Nat × Nat) (fun q e mm => e 2 = U64 sh ∧ e 3 = .ptr 0 0 0 ∧ e 4 = .ptr 1 0 0 ∧ e 7 = I64 q.1 ∧ q.1 + q.2 = d.to.toNat + 1 ∧ cleanN w d sh q.2 q.1 = cleanN w d sh (d.to.toNat + 1 - d.fr.toNat) d.fr.toNat ∧ mm = ⟨[.live [encW w] 5, .live [encD d] 8], []⟩) (fun q => q.2) (d.fr.toNat, d.to.toNat + 1 - d.fr.toNat) ?_ ?_
  · simp only [go_sem, Nat.reduceEqDiff, Nat.reduceAdd, Nat.reduceLT, Nat.reduceLeDiff, reduceIte]
    (repeat' apply And.intro) <;> first | trivial | rfl | assumption | omega | (rw [hF])
  rintro ⟨h, n⟩ e m ⟨g2, g3, g4, g7, hs, hr, rfl⟩
  dsimp only at g7 hs hr
  cases n with
  | zero =>
    have : decide ((h : Int) ≤ d.to) = false := decide_eq_false (by omega)
    simp only [go_sem, Nat.reduceEqDiff, Nat.reduceAdd, Nat.reduceLT, Nat.reduceLeDiff, reduceIte, g2, g3, g4, g7, WCells, WEta, DCells, DEta, cellsIs, solidIs, cellsFs, solidFs, cellsDs, solidDs, Bool.and_self, Is_len, Fs_len, Ds_len, true_and, snW, hotW, snD, hotD, snIs, hotIs, this]
    rw [← hr]; rfl
  | succ n =>
    have hle : decide ((h : Int) ≤ d.to) = true := decide_eq_true (by omega)
    have hsc := hasScreen_ok w hw d hd sh h hsh (by omega)
    cases h6 : hasScrN w d sh h w.rooms 0
    · simp only [go_sem, Nat.reduceEqDiff, Nat.reduceAdd, Nat.reduceLT, Nat.reduceLeDiff, reduceIte, g2, g3, g4, g7, WCells, WEta, DCells, DEta, cellsIs, solidIs, cellsFs, solidFs, cellsDs, solidDs, Bool.and_self, Is_len, Fs_len, Ds_len, true_and, snW, hotW, snD, hotD, snIs, hotIs, hle, WB93, WVH_eq hsc, h6]
      rw [← hr, cleanN, h6]; rfl
    · simp only [go_sem, Nat.reduceEqDiff, Nat.reduceAdd, Nat.reduceLT, Nat.reduceLeDiff, reduceIte, g2, g3, g4, g7, WCells, WEta, DCells, DEta, cellsIs, solidIs, cellsFs, solidFs, cellsDs, solidDs, Bool.and_self, Is_len, Fs_len, Ds_len, true_and, snW, hotW, snD, hotD, snIs, hotIs, hle, WB93, WVH_eq hsc, h6, wrap_n1 h (by omega)]
      refine Nx_of (h + 1, n) (by simp) ?_
      simp only [go_sem, Nat.reduceEqDiff, Nat.reduceAdd, Nat.reduceLT, Nat.reduceLeDiff, reduceIte, g2, g3, g4]
      exact ⟨trivial, trivial, trivial, trivial, by omega, by rw [← hr, cleanN, h6]; rfl, trivial⟩
/-! ### The numbers of a set -/
def tab8 : ByteArray := ⟨#[0, 1, 2, 2, 3, 3, 3, 3, 4, 4, 4, 4, 4, 4, 4, 4, 5, 5, 5, 5, 5, 5, 5, 5, 5, 5, 5, 5, 5, 5, 5, 5, 6, 6, 6, 6, 6, 6, 6, 6, 6, 6, 6, 6, 6, 6, 6, 6, 6, 6, 6, 6, 6, 6, 6, 6, 6, 6, 6, 6, 6, 6, 6, 6, 7, 7, 7, 7, 7, 7, 7, 7, 7, 7, 7, 7, 7, 7, 7, 7, 7, 7, 7, 7, 7, 7, 7, 7, 7, 7, 7, 7, 7, 7, 7, 7, 7, 7, 7, 7, 7, 7, 7, 7, 7, 7, 7, 7, 7, 7, 7, 7, 7, 7, 7, 7, 7, 7, 7, 7, 7, 7, 7, 7, 7, 7, 7, 7, 8, 8, 8, 8, 8, 8, 8, 8, 8, 8, 8, 8, 8, 8, 8, 8, 8, 8, 8, 8, 8, 8, 8, 8, 8, 8, 8, 8, 8, 8, 8, 8, 8, 8, 8, 8, 8, 8, 8, 8, 8, 8, 8, 8, 8, 8, 8, 8, 8, 8, 8, 8, 8, 8, 8, 8, 8, 8, 8, 8, 8, 8, 8, 8, 8, 8, 8, 8, 8, 8, 8, 8, 8, 8, 8, 8, 8, 8, 8, 8, 8, 8, 8, 8, 8, 8, 8, 8, 8, 8, 8, 8, 8, 8, 8, 8, 8, 8, 8, 8, 8, 8, 8, 8, 8, 8, 8, 8, 8, 8, 8, 8, 8, 8, 8, 8, 8, 8, 8, 8, 8, 8, 8, 8, 8, 8, 8, 8]⟩
def lenN (s : Nat) : Nat := if s = 0 then 0 else s.log2 + 1
theorem lenN_lt (s : Nat) : s < 2 ^ lenN s := by
  unfold lenN
  split
  · rename_i h; subst h; decide
  · exact Nat.lt_log2_self
theorem lenN_le {s k : Nat} (h : s < 2 ^ k) : lenN s ≤ k := by
  unfold lenN
  split
  · omega
  · rename_i h0
    have := (Nat.log2_lt h0).2 h
    omega
theorem tab8_get : ∀ i : _root_.Fin 256, tab8[i.val]? = some (UInt8.ofNat (lenN i.val)) := by decide +kernel
theorem tab8_at (x : Nat) (h : x < 256) : sidxAt (.str tab8) (.int .u8 (x : Int)) = some (.int .u8 ((lenN x : Nat) : Int)) := by
  have h1 := tab8_get ⟨x, h⟩
  have h2 : lenN x ≤ 8 := lenN_le h
  simp only [sidxAt]
  rw [if_pos (by omega), Int.toNat_natCast, h1]
  simp only [Option.map_some]
  have : (UInt8.ofNat (lenN x)).toNat = lenN x := by simp; omega
  rw [this]
theorem Len64_ok (n : Nat) (hn : n < 256) : RV ft 108 [U64 n] (I64 (lenN n)) := by
  refine RV_of ft108 rfl ?_
  simp only [c108, r108]
  have c1 : decide ((4294967296 : Int) ≤ (n : Int)) = false := decide_eq_false (by omega)
  have c16 : decide ((65536 : Int) ≤ (n : Int)) = false := decide_eq_false (by omega)
  have c8 : decide ((256 : Int) ≤ (n : Int)) = false := decide_eq_false (by omega)
  have h2 : lenN n ≤ 8 := lenN_le hn
  have f1 : IntKind.u8.wrap (n : Int) = (n : Int) := wrap_u8 _ (by omega) (by omega)
  have f2 : IntKind.i64.wrap ((lenN n : Nat) : Int) = ((lenN n : Nat) : Int) := wrap_i64 _ (by omega) (by omega)
  have t8 := tab8_at n hn
  unfold tab8 at t8
  simp only [go_sem, Nat.reduceEqDiff, Nat.reduceAdd, Nat.reduceLT, Nat.reduceLeDiff, reduceIte, c1, c16, c8, f1, f2, t8, Int.zero_add]
theorem Len_ok (n : Nat) (hn : n < 256) : RV ft 95 [U64 n] (I64 (lenN n)) := by
  refine RV_of ft95 rfl ?_
  simp only [c95, r95]
  simp only [go_sem, Nat.reduceEqDiff, Nat.reduceAdd, Nat.reduceLT, Nat.reduceLeDiff, reduceIte, WB108, WVH_eq (Len64_ok n hn), true_and]
end Go.Ab.T
end

section
namespace Go.Ab.T
set_option maxRecDepth 8000
set_option maxHeartbeats 4000000
def numsN (s : Nat) : List Nat := (List.range (lenN s)).filter s.testBit
def encNs (l : List Nat) : AV := .sl (l.map fun (n : Nat) => I64 (n : Int)) .unk
theorem snNs {l : List Nat} {v : AV} {toks : List (Nat × Nat)} (h : Acc 3 (l.map fun (n : Nat) => I64 (n : Int)) v toks) (m : Mem) (q : Nat) : snap m (q + 2) v = encNs l := by
  rw [h.snap, List.map_map]; rfl
theorem numbers_ok (s : Nat) (hs : s < 256) : RV ft 75 [U64 s] (encNs (numsN s)) := by
  refine RV_of ft75 rfl ?_
  simp only [c75, r75]
  have hL : lenN s ≤ 8 := lenN_le hs
  simp only [go_sem, Nat.reduceEqDiff, Nat.reduceAdd, Nat.reduceLT, Nat.reduceLeDiff, reduceIte, WB95, WVH_eq (Len_ok s hs), true_and]
  refine WL_inv (α := Nat × List Nat) (fun q e mm => e 0 = U64 s ∧ e 6 = I64 (lenN s) ∧ e 7 = I64 q.1 ∧ q.1 ≤ lenN s ∧ q.2 = (List.range q.1).filter s.testBit ∧ q.2.length ≤ q.1 ∧ ∃ v toks, e 3 = v ∧ mm = ⟨[], toks⟩ ∧ Acc 3 (q.2.map fun (n : Nat) => I64 (n : Int)) v toks) (fun q => lenN s - q.1) (0, []) ?_ ?_
  · simp only [go_sem, Nat.reduceEqDiff, Nat.reduceAdd, Nat.reduceLT, Nat.reduceLeDiff, reduceIte]
    exact ⟨trivial, trivial, rfl, Nat.zero_le _, rfl, trivial, _, _, rfl, rfl, Acc_nil 3⟩
  rintro ⟨k, acc⟩ e m ⟨g0, g6, g7, hk, ha, hl, v, toks, g3, rfl, hA⟩
  dsimp only at g7 hk ha hl hA
  obtain ⟨c1, c2, c3⟩ := hA.cells
  by_cases hlt : k < lenN s
  · have hha := has_ok s k (by omega) (by omega)
    cases h1 : s.testBit k
    · simp only [go_sem, Nat.reduceEqDiff, Nat.reduceAdd, Nat.reduceLT, Nat.reduceLeDiff, reduceIte, g0, g3, g6, g7, dec_lt hlt, WB96, WVH_eq hha, true_and, h1, wrap_n1 k (by omega)]
      refine Nx_of (k + 1, acc) (by show lenN s - (k + 1) < lenN s - k; omega) ?_
      simp only [go_sem, Nat.reduceEqDiff, Nat.reduceAdd, Nat.reduceLT, Nat.reduceLeDiff, reduceIte, g0, g3, g6]
      exact ⟨trivial, trivial, trivial, hlt, by rw [List.filter_append, ← ha]; simp [h1], by omega, _, _, rfl, rfl, hA⟩
    · simp only [go_sem, Nat.reduceEqDiff, Nat.reduceAdd, Nat.reduceLT, Nat.reduceLeDiff, reduceIte, g0, g3, g6, g7, dec_lt hlt, WB96, WVH_eq hha, true_and, h1, c1, c2, c3]
      refine hA.app (fun e he => by obtain ⟨z, _, rfl⟩ := List.mem_map.1 he; rfl) rfl (by simp only [List.length_map, limit]; omega) fun v' toks' hA' => ?_
      obtain ⟨d1, d2, d3⟩ := hA'.cells
      simp only [go_sem, Nat.reduceEqDiff, Nat.reduceAdd, Nat.reduceLT, Nat.reduceLeDiff, reduceIte, g0, g6, g7, d1, d2, d3, wrap_n1 k (by omega)]
      refine Nx_of (k + 1, acc ++ [k]) (by show lenN s - (k + 1) < lenN s - k; omega) ?_
      simp only [go_sem, Nat.reduceEqDiff, Nat.reduceAdd, Nat.reduceLT, Nat.reduceLeDiff, reduceIte, g0, g6]
      exact ⟨trivial, trivial, trivial, hlt, by rw [List.filter_append, ← ha]; simp [h1], by simp; omega, _, _, rfl, rfl, by rw [List.map_append]; exact hA'⟩
  · have he : k = lenN s := by omega
    subst he
    simp only [go_sem, Nat.reduceEqDiff, Nat.reduceAdd, Nat.reduceLT, Nat.reduceLeDiff, reduceIte, g0, g3, g6, g7, dec_ge (Nat.le_refl (lenN s)), c1, c2, c3, snNs hA]
    rw [ha]; rfl
end Go.Ab.T
end

section
namespace Go.Ab.T
set_option maxRecDepth 8000
set_option maxHeartbeats 4000000
/-- How many people see a film in a slot. -/
def pplN (w : Wk) (m : Mv) (n : Nat) : Int := min (m.crowd.getD (n % w.hours.toNat) 0) (w.rooms.getD (n / w.hours.toNat % w.rooms.length) 0)
def pplS (w : Wk) (m : Mv) : List Nat → Int
  | [] => 0
  | n :: r => pplN w m n + pplS w m r
theorem Ns_len (m : Mem) (l : List Nat) : lenAt m (encNs l) = some (I64 l.length) := by unfold encNs; rw [lenAt_sl, List.length_map]
theorem Ns_idx (m : Mem) {l : List Nat} {k : Nat} {x : Nat} (h : l[k]? = some x) : idxAt m (encNs l) (I64 (k : Int)) 1 = some (.pv (I64 (x : Int)) 0) := by
  unfold encNs
  rw [idxAt_sl, if_pos (by omega), Int.toNat_natCast, List.getElem?_map, h]; rfl
theorem takings_ok (w : Wk) (hw : WV w) (fi : Nat) (m0 : Mv) (hm : w.films[fi]? = some m0) (s : Nat) (hs : s < 256) : RV ft 47 [encW w, I64 fi, U64 s] (I64 (pplS w m0 (numsN s) * m0.price)) := by
  refine RV_of ft47 rfl ?_
  simp only [c47, r47]
  simp only [go_sem, Nat.reduceEqDiff, Nat.reduceAdd, Nat.reduceLT, Nat.reduceLeDiff, reduceIte, WCells, WEta, FCells, FEta, cellsIs, solidIs, cellsFs, solidFs, cellsDs, solidDs, Bool.and_self, Is_len, Fs_len, Ds_len, true_and, snW, hotW, snIs, hotIs, WB75, WVH_eq (numbers_ok s hs), Ns_len]
  have hN : (numsN s).length ≤ 8 := by
    have h1 : lenN s ≤ 8 := lenN_le hs
    have h2 := List.length_filter_le s.testBit (List.range (lenN s))
    rw [List.length_range] at h2
    exact Nat.le_trans h2 h1
  refine WL_inv (α := Nat × List Nat × Int) (fun q e mm => e 1 = I64 fi ∧ e 3 = .ptr 0 0 0 ∧ e 7 = I64 q.2.2 ∧ e 13 = encNs (numsN s) ∧ e 14 = I64 (numsN s).length ∧ e 15 = I64 q.1 ∧ (numsN s).drop q.1 = q.2.1 ∧ q.2.2 + pplS w m0 q.2.1 = pplS w m0 (numsN s) ∧ 0 ≤ q.2.2 ∧ q.2.2 ≤ 1000 * q.1 ∧ q.1 ≤ (numsN s).length ∧ mm = ⟨[.live [encW w] 5], []⟩) (fun q => q.2.1.length) (0, numsN s, 0) ?_ ?_
  · simp only [go_sem, Nat.reduceEqDiff, Nat.reduceAdd, Nat.reduceLT, Nat.reduceLeDiff, reduceIte]
    (repeat' apply And.intro) <;> first | trivial | rfl | assumption | omega | (exact Int.zero_add _)
  rintro ⟨k, r, a⟩ e m ⟨g1, g3, g7, g13, g14, g15, hdr, hq, ha0, ha1, hkl, rfl⟩
  dsimp only at g7 g15 hdr hq ha0 ha1 hkl
  have hmv := hw.films m0 (List.mem_of_getElem? hm)
  unfold mvOK at hmv
  simp only [Bool.and_eq_true, List.all_eq_true, inR_iff, beq_iff_eq] at hmv
  obtain ⟨hp, hcl, hcr⟩ := hmv
  have hh1 := hw.h1
  have hr1 := hw.r1
  cases r with
  | nil =>
    have hge := drop_nil hdr
    have hk : k ≤ 8 ∨ True := .inr trivial
    have hpa : a = pplS w m0 (numsN s) := by rw [← hq]; simp [pplS]
    simp only [go_sem, Nat.reduceEqDiff, Nat.reduceAdd, Nat.reduceLT, Nat.reduceLeDiff, reduceIte, g1, g3, g7, g13, g14, g15, dec_ge hge, WCells, WEta, FCells, FEta, cellsIs, solidIs, cellsFs, solidFs, cellsDs, solidDs, Bool.and_self, Is_len, Fs_len, Ds_len, true_and, snW, hotW, snIs, hotIs, Fs_idx _ hm, Nat.zero_add]
    have h8 : a * m0.price ≤ 8000 * m0.price := Int.mul_le_mul_of_nonneg_right (by omega) hp.1
    have h9 : 0 ≤ a * m0.price := Int.mul_nonneg ha0 hp.1
    rw [wrap_i64 _ (by omega) (by omega), hpa]
  | cons x r =>
    obtain ⟨hk, hd2, hlt⟩ := drop_cons hdr
    have hH : ((w.hours.toNat : Nat) : Int) = w.hours := Int.toNat_of_nonneg (by omega)
    have i1 : x % w.hours.toNat < m0.crowd.length := by have := Nat.mod_lt x (show 0 < w.hours.toNat by omega); omega
    have i2 : x / w.hours.toNat % w.rooms.length < w.rooms.length := Nat.mod_lt _ (by omega)
    have j1 : m0.crowd[x % w.hours.toNat]? = some (m0.crowd.getD (x % w.hours.toNat) 0) := by
      rw [List.getD_eq_getElem?_getD, List.getElem?_eq_getElem i1]; rfl
    have j2 : w.rooms[x / w.hours.toNat % w.rooms.length]? = some (w.rooms.getD (x / w.hours.toNat % w.rooms.length) 0) := by
      rw [List.getD_eq_getElem?_getD, List.getElem?_eq_getElem i2]; rfl
    have z1 : decide (w.hours = 0) = false := decide_eq_false (by omega)
    have z2 : decide ((w.rooms.length : Int) = 0) = false := decide_eq_false (by omega)
    have hx : x < 8 := by
      have h1 := List.mem_of_getElem? hk
      unfold numsN at h1
      have h2 := List.mem_range.1 (List.mem_filter.1 h1).1
      have h3 : lenN s ≤ 8 := lenN_le hs
      omega
    have t1 : (x : Int).tmod w.hours = ((x % w.hours.toNat : Nat) : Int) := by rw [← hH, Int.toNat_natCast, Int.tmod_eq_emod_of_nonneg (by omega)]; rfl
    have t2 : IntKind.i64.wrap ((x : Int).tdiv w.hours) = ((x / w.hours.toNat : Nat) : Int) := by
      have e : (x : Int).tdiv w.hours = ((x / w.hours.toNat : Nat) : Int) := by rw [← hH, Int.toNat_natCast, Int.tdiv_eq_ediv_of_nonneg (by omega)]; rfl
      have := Nat.div_le_self x w.hours.toNat
      rw [e]
      generalize x / w.hours.toNat = y at this ⊢
      exact wrap_i64 _ (by omega) (by omega)
    have t3 : ((x / w.hours.toNat : Nat) : Int).tmod (w.rooms.length : Int) = ((x / w.hours.toNat % w.rooms.length : Nat) : Int) := by rw [Int.tmod_eq_emod_of_nonneg (Int.natCast_nonneg _)]; rfl
    have v1 := hcr _ (List.mem_of_getElem? j1)
    have v2 := hw.rooms _ (List.mem_of_getElem? j2)
    have hpp : 0 ≤ pplN w m0 x ∧ pplN w m0 x ≤ 999 := by unfold pplN; omega
    have t4 : IntKind.i64.wrap (a + min (m0.crowd.getD (x % w.hours.toNat) 0) (w.rooms.getD (x / w.hours.toNat % w.rooms.length) 0)) = a + pplN w m0 x := by
      show IntKind.i64.wrap (a + pplN w m0 x) = _
      exact wrap_i64 _ (by omega) (by omega)
    simp only [go_sem, Nat.reduceEqDiff, Nat.reduceAdd, Nat.reduceLT, Nat.reduceLeDiff, reduceIte, g1, g3, g7, g13, g14, g15, dec_lt hlt, Ns_idx _ hk, WCells, WEta, FCells, FEta, cellsIs, solidIs, cellsFs, solidFs, cellsDs, solidDs, Bool.and_self, Is_len, Fs_len, Ds_len, true_and, snW, hotW, snIs, hotIs, z1, z2, Fs_idx _ hm, Nat.zero_add, t1, t2, t3, Is_idx _ j1, Is_idx _ j2, mnx_min, t4, wrap_n1 k (by omega)]
    refine Nx_of (k + 1, r, a + pplN w m0 x) (by simp) ?_
    simp only [go_sem, Nat.reduceEqDiff, Nat.reduceAdd, Nat.reduceLT, Nat.reduceLeDiff, reduceIte, g1, g3, g13, g14]
    exact ⟨trivial, trivial, trivial, trivial, trivial, trivial, hd2, by rw [← hq, pplS]; omega, by omega, by omega, by omega, trivial⟩
end Go.Ab.T
end
