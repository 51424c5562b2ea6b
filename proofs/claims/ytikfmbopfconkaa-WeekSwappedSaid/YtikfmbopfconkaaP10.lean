/-
  A part of the proofs over this seat.
  (The texts KwK27, one behind the other.)
-/
import Derived.Test.YtikfmbopfconkaaP9
set_option linter.unusedSimpArgs false
set_option linter.unusedVariables false
set_option linter.unusedSectionVars false
section
namespace Go.Ab.T
set_option maxRecDepth 8000
set_option maxHeartbeats 4000000
def farN (F : Nat) : Nat → Nat → Nat
  | 0, n => n
  | k + 1, n => if n ≤ 800 then farN F k (n * (F + 1)) else n
def farB (w : Wk) : Bool := if (decide (20 < w.rooms.length) || (decide (20 < w.films.length) || decide (20 < w.deals.length))) = true then true else if chkW w = 0 then decide (800 < farN w.films.length w.slots.toNat 1) else false
theorem dec20 (n : Nat) : decide ((20 : Int) < (n : Int)) = decide (20 < n) := decide_eq_decide.2 (by omega)
theorem Far_ok (w : Wk) : RV ft 21 [encW w] (.bool (farB w)) := by
  refine RV_of ft21 rfl ?_
  simp only [c21, r21]
  generalize hT : farB w = T
  unfold farB at hT
  cases h1 : decide (20 < w.rooms.length)
  case true => rw [h1] at hT; simp only [Bool.true_or, if_true] at hT; subst hT; simp only [go_sem, Nat.reduceEqDiff, Nat.reduceAdd, Nat.reduceLT, Nat.reduceLeDiff, reduceIte, WCells, WEta, FCells, FEta, DCells, DEta, cellsIs, solidIs, cellsFs, solidFs, cellsDs, solidDs, Bool.and_self, Is_len, Fs_len, Ds_len, true_and, snW, hotW, snD, hotD, snIs, hotIs, dec20, h1]
  cases h2 : decide (20 < w.films.length)
  case true => rw [h1, h2] at hT; simp only [Bool.true_or, Bool.false_or, if_true] at hT; subst hT; simp only [go_sem, Nat.reduceEqDiff, Nat.reduceAdd, Nat.reduceLT, Nat.reduceLeDiff, reduceIte, WCells, WEta, FCells, FEta, DCells, DEta, cellsIs, solidIs, cellsFs, solidFs, cellsDs, solidDs, Bool.and_self, Is_len, Fs_len, Ds_len, true_and, snW, hotW, snD, hotD, snIs, hotIs, dec20, h1, h2]
  cases h3 : decide (20 < w.deals.length)
  case true => rw [h1, h2, h3] at hT; simp only [Bool.false_or, if_true] at hT; subst hT; simp only [go_sem, Nat.reduceEqDiff, Nat.reduceAdd, Nat.reduceLT, Nat.reduceLeDiff, reduceIte, WCells, WEta, FCells, FEta, DCells, DEta, cellsIs, solidIs, cellsFs, solidFs, cellsDs, solidDs, Bool.and_self, Is_len, Fs_len, Ds_len, true_and, snW, hotW, snD, hotD, snIs, hotIs, dec20, h1, h2, h3]
  rw [h1, h2, h3, if_neg (by decide)] at hT
  by_cases h0 : chkW w = 0
  case neg =>
    have n0 : (chkW w != 0) = true := by rw [bne, beq_eq_false_iff_ne.2 h0]; rfl
    rw [if_neg h0] at hT; subst hT
    simp only [go_sem, Nat.reduceEqDiff, Nat.reduceAdd, Nat.reduceLT, Nat.reduceLeDiff, reduceIte, WCells, WEta, FCells, FEta, DCells, DEta, cellsIs, solidIs, cellsFs, solidFs, cellsDs, solidDs, Bool.and_self, Is_len, Fs_len, Ds_len, true_and, snW, hotW, snD, hotD, snIs, hotIs, dec20, h1, h2, h3, WB15, WVH_eq (CheckR_ok w), n0]
  rw [if_pos h0] at hT
  have hw := WV_of (chkW_ok h0).1
  have hS := Slots_ok w (by have := hw.d1; omega) hw.d2 hw.r2 (by have := hw.h1; omega) hw.h2
  have hsn := slots_nn hw
  have hs8 := hw.s
  have hF := hw.f
  simp only [go_sem, Nat.reduceEqDiff, Nat.reduceAdd, Nat.reduceLT, Nat.reduceLeDiff, reduceIte, WCells, WEta, FCells, FEta, DCells, DEta, cellsIs, solidIs, cellsFs, solidFs, cellsDs, solidDs, Bool.and_self, Is_len, Fs_len, Ds_len, true_and, snW, hotW, snD, hotD, snIs, hotIs, dec20, h1, h2, h3, WB15, WVH_eq (CheckR_ok w), h0, show ((0 : Int) != 0) = false from rfl]
  refine WL_inv (α := Nat × Nat × Nat) (fun q e mm => e 1 = .ptr 0 0 0 ∧ e 3 = I64 q.2.2 ∧ e 4 = I64 q.1 ∧ q.1 + q.2.1 = w.slots.toNat ∧ farN w.films.length q.2.1 q.2.2 = farN w.films.length w.slots.toNat 1 ∧ q.2.2 ≤ 5000 ∧ mm = ⟨[.live [encW w] 5], []⟩) (fun q => q.2.1) (0, w.slots.toNat, 1) ?_ ?_
  · simp only [go_sem, Nat.reduceEqDiff, Nat.reduceAdd, Nat.reduceLT, Nat.reduceLeDiff, reduceIte]
    (repeat' apply And.intro) <;> first | trivial | rfl | omega | exact Nat.zero_add _
  rintro ⟨k, r, n⟩ e m ⟨g1, g3, g4, hs, hq, hn, rfl⟩
  dsimp only at g3 g4 hs hq hn
  have hc800 : decide ((n : Int) ≤ 800) = decide (n ≤ 800) := decide_eq_decide.2 (by omega)
  have hc801 : decide ((800 : Int) < (n : Int)) = decide (800 < n) := decide_eq_decide.2 (by omega)
  cases r with
  | zero =>
    have hd : decide ((k : Int) < w.slots) = false := decide_eq_false (by omega)
    simp only [go_sem, Nat.reduceEqDiff, Nat.reduceAdd, Nat.reduceLT, Nat.reduceLeDiff, reduceIte, g1, g3, g4, WCells, WEta, FCells, FEta, DCells, DEta, cellsIs, solidIs, cellsFs, solidFs, cellsDs, solidDs, Bool.and_self, Is_len, Fs_len, Ds_len, true_and, snW, hotW, snD, hotD, snIs, hotIs, WB39, WVH_eq hS, hd, hc801]
    rw [← hT, ← hq]; rfl
  | succ r =>
    have hd : decide ((k : Int) < w.slots) = true := decide_eq_true (by omega)
    by_cases hn8 : n ≤ 800
    · have hm : n * (w.films.length + 1) ≤ 800 * 5 := Nat.mul_le_mul hn8 (by omega)
      have w1 : IntKind.i64.wrap ((w.films.length : Int) + 1) = ((w.films.length + 1 : Nat) : Int) := wrap_n1 _ (by omega)
      have w2 : IntKind.i64.wrap ((n : Int) * ((w.films.length + 1 : Nat) : Int)) = ((n * (w.films.length + 1) : Nat) : Int) := by
        rw [← Int.natCast_mul]; exact wrap_i64 _ (by omega) (by omega)
      simp only [go_sem, Nat.reduceEqDiff, Nat.reduceAdd, Nat.reduceLT, Nat.reduceLeDiff, reduceIte, g1, g3, g4, WCells, WEta, FCells, FEta, DCells, DEta, cellsIs, solidIs, cellsFs, solidFs, cellsDs, solidDs, Bool.and_self, Is_len, Fs_len, Ds_len, true_and, snW, hotW, snD, hotD, snIs, hotIs, WB39, WVH_eq hS, hd, hc800, decide_eq_true hn8, w1, w2, wrap_n1 k (by omega)]
      refine Nx_of (k + 1, r, n * (w.films.length + 1)) (by simp) ?_
      simp only [go_sem, Nat.reduceEqDiff, Nat.reduceAdd, Nat.reduceLT, Nat.reduceLeDiff, reduceIte, g1]
      exact ⟨trivial, trivial, trivial, by omega, by rw [← hq, farN, if_pos hn8], by omega, trivial⟩
    · simp only [go_sem, Nat.reduceEqDiff, Nat.reduceAdd, Nat.reduceLT, Nat.reduceLeDiff, reduceIte, g1, g3, g4, WCells, WEta, FCells, FEta, DCells, DEta, cellsIs, solidIs, cellsFs, solidFs, cellsDs, solidDs, Bool.and_self, Is_len, Fs_len, Ds_len, true_and, snW, hotW, snD, hotD, snIs, hotIs, WB39, WVH_eq hS, hd, hc800, decide_eq_false hn8, hc801]
      rw [← hT, ← hq, farN, if_neg hn8]
def readyB (w : Wk) : Bool := !hugeB w && (!farB w && (chkW w == 0))
theorem ready_ok (w : Wk) (hfl : FL w) : RV ft 30 [encW w] (.bool (readyB w)) := by
  refine RV_of ft30 rfl ?_
  simp only [c30, r30]
  unfold readyB
  cases h1 : hugeB w
  · cases h2 : farB w
    · simp only [go_sem, Nat.reduceEqDiff, Nat.reduceAdd, Nat.reduceLT, Nat.reduceLeDiff, reduceIte, WCells, WEta, FCells, FEta, DCells, DEta, cellsIs, solidIs, cellsFs, solidFs, cellsDs, solidDs, Bool.and_self, Is_len, Fs_len, Ds_len, true_and, snW, hotW, snD, hotD, snIs, hotIs, WB11, WVH_eq (huge_ok w hfl), h1, WB21, WVH_eq (Far_ok w), h2, WB15, WVH_eq (CheckR_ok w)]
    · simp only [go_sem, Nat.reduceEqDiff, Nat.reduceAdd, Nat.reduceLT, Nat.reduceLeDiff, reduceIte, WCells, WEta, FCells, FEta, DCells, DEta, cellsIs, solidIs, cellsFs, solidFs, cellsDs, solidDs, Bool.and_self, Is_len, Fs_len, Ds_len, true_and, snW, hotW, snD, hotD, snIs, hotIs, WB11, WVH_eq (huge_ok w hfl), h1, WB21, WVH_eq (Far_ok w), h2]
  · simp only [go_sem, Nat.reduceEqDiff, Nat.reduceAdd, Nat.reduceLT, Nat.reduceLeDiff, reduceIte, WCells, WEta, FCells, FEta, DCells, DEta, cellsIs, solidIs, cellsFs, solidFs, cellsDs, solidDs, Bool.and_self, Is_len, Fs_len, Ds_len, true_and, snW, hotW, snD, hotD, snIs, hotIs, WB11, WVH_eq (huge_ok w hfl), h1]
theorem ready_chk {w : Wk} (h : readyB w = true) : chkW w = 0 := by
  unfold readyB at h
  simp only [Bool.and_eq_true, beq_iff_eq] at h
  exact h.2.2
theorem keepsAll_broken {w : Wk} {p : List Int} : keepsAll w p ↔ brokenL w p w.deals 0 = [] := by
  have key : ∀ (l : List Dl) (k : Nat), brokenL w p l k = [] ↔ ∀ d ∈ l, keepsB w d (shownN d.film p 0 0) = true := by
    intro l
    induction l with
    | nil => intro k; simp [brokenL]
    | cons d r ih =>
      intro k
      unfold brokenL
      cases h : keepsB w d (shownN d.film p 0 0)
      · simp [h]
      · rw [if_pos rfl, ih]; simp [h]
  rw [key]
  unfold keepsAll keepsAt
  refine ⟨fun h d hd => ?_, fun h n hn => ?_⟩
  · obtain ⟨n, hn⟩ := List.getElem?_of_mem hd
    have := h n (List.getElem?_eq_some_iff.1 hn).1
    rw [hn] at this; exact this
  · rw [List.getElem?_eq_getElem hn]; exact h _ (List.getElem_mem hn)
theorem chkP_of {w : Wk} {p : List Int} (hc : chkW w = 0) (hp : progOK w p = true) : chkP w p = 0 := by unfold chkP; rw [if_pos hc, if_pos hp]
theorem broken_len {w : Wk} (hc : chkW w = 0) (p : List Int) : (brokenL w p w.deals 0).length < 1000 := by
  have hD := (WV_of (chkW_ok hc).1).d
  have := brokenL_len w p w.deals 0
  omega
theorem Broken_at {w : Wk} {p : List Int} (hc : chkW w = 0) (hp : progOK w p = true) : RV ft 16 [encW w, encIs p] (.tup [encNs (brokenL w p w.deals 0), I64 0]) := by
  have := Broken_ok w p
  rwa [chkP_of hc hp, if_pos rfl] at this
theorem Takings_at {w : Wk} {p : List Int} (hc : chkW w = 0) (hp : progOK w p = true) : RV ft 18 [encW w, encIs p] (.tup [I64 (takeS w p), I64 0]) := by
  have := Takings_ok w p
  rwa [chkP_of hc hp, if_pos rfl, take_eq (WV_of (chkW_ok hc).1) hp] at this
theorem WeekProof_run (w : Wk) (hfl : FL w) (p : List Int) (hpl : p.length < 9223372036854775808) : RV ft 6 [encW w, encIs p] (.bool true) := by
  refine RV_of ft6 rfl ?_
  simp only [c6, r6]
  cases hr : readyB w
  case false => simp only [go_sem, Nat.reduceEqDiff, Nat.reduceAdd, Nat.reduceLT, Nat.reduceLeDiff, reduceIte, WCells, WEta, FCells, FEta, DCells, DEta, cellsIs, solidIs, cellsFs, solidFs, cellsDs, solidDs, Bool.and_self, Is_len, Fs_len, Ds_len, true_and, snW, hotW, snD, hotD, snIs, hotIs, WB30, WVH_eq (ready_ok w hfl), hr, WB12, WVH_eq works_ok]
  have hc := ready_chk hr
  have hw := WV_of (chkW_ok hc).1
  cases hp : progOK w p
  case false => simp only [go_sem, Nat.reduceEqDiff, Nat.reduceAdd, Nat.reduceLT, Nat.reduceLeDiff, reduceIte, WCells, WEta, FCells, FEta, DCells, DEta, cellsIs, solidIs, cellsFs, solidFs, cellsDs, solidDs, Bool.and_self, Is_len, Fs_len, Ds_len, true_and, snW, hotW, snD, hotD, snIs, hotIs, WB30, WVH_eq (ready_ok w hfl), hr, WB29, WVH_eq (IsProgram_ok w hw p hpl), hp, WB12, WVH_eq works_ok]
  have hB := Broken_at hc hp
  have hT := Takings_at hc hp
  have hM := Most_ok w
  have t0 : decide (takeS w p < 0) = false := decide_eq_false (by have := takeS_nn hc (p := p); omega)
  rcases Best_spec hc with ⟨h1, h2, h3⟩ | ⟨h1, p0, h2, h3, h4, h5⟩
  · have hne : decide ((0 : Int) < ((brokenL w p w.deals 0).length : Int)) = true := decide_eq_true (by
      have : brokenL w p w.deals 0 ≠ [] := fun h => h3 p hp (keepsAll_broken.2 h)
      have := List.length_pos_iff.2 this
      omega)
    rw [h1] at hM
    simp only [go_sem, Nat.reduceEqDiff, Nat.reduceAdd, Nat.reduceLT, Nat.reduceLeDiff, reduceIte, WCells, WEta, FCells, FEta, DCells, DEta, cellsIs, solidIs, cellsFs, solidFs, cellsDs, solidDs, Bool.and_self, Is_len, Fs_len, Ds_len, true_and, snW, hotW, snD, hotD, snIs, hotIs, WB30, WVH_eq (ready_ok w hfl), hr, WB29, WVH_eq (IsProgram_ok w hw p hpl), hp, WB22, WVH_eq hM, WB28, WVH_eq h2, WB16, WVH_eq hB, WB18, WVH_eq hT, t0, show ((3 : Int) != 3) = false from rfl, show ((0 : Int) != 0) = false from rfl, show ((3 : Int) == 3) = true from rfl, Ns_len, hne, WB12, WVH_eq works_ok]
  · rw [h1] at hM
    have hp0l := prog_len hw h3
    have hB0 := Broken_at hc h3
    have hT0 := Takings_at hc h3
    rw [keepsAll_broken.1 h4] at hB0
    rw [h5] at hT0
    have hmost := Most_spec hc
    have hle : ((brokenL w p w.deals 0).length == 0) = false ∨ decide ((bestO w).1.tk < takeS w p) = false := by
      cases hb : ((brokenL w p w.deals 0).length == 0)
      · exact .inl rfl
      · right
        rw [beq_iff_eq] at hb
        have hk := keepsAll_broken.2 (List.eq_nil_of_length_eq_zero hb)
        rcases hmost with ⟨e1, _⟩ | ⟨_, _, e3⟩
        · rw [h1] at e1; cases e1
        · exact decide_eq_false (by have := e3 p hp hk; omega)
    have hb0 : ∀ n : Nat, ((n : Int) == 0) = (n == 0) := fun n => by rw [Bool.eq_iff_iff, beq_iff_eq, beq_iff_eq]; omega
    have hIP0 := IsProgram_ok w hw p0 (by omega)
    rw [h3] at hIP0
    rcases hle with hle | hle
    · simp only [go_sem, Nat.reduceEqDiff, Nat.reduceAdd, Nat.reduceLT, Nat.reduceLeDiff, reduceIte, WCells, WEta, FCells, FEta, DCells, DEta, cellsIs, solidIs, cellsFs, solidFs, cellsDs, solidDs, Bool.and_self, Is_len, Fs_len, Ds_len, true_and, snW, hotW, snD, hotD, snIs, hotIs, WB30, WVH_eq (ready_ok w hfl), hr, WB29, WVH_eq (IsProgram_ok w hw p hpl), hp, WVH_eq hIP0, WB22, WVH_eq hM, WB28, WVH_eq h2, WB16, WVH_eq hB, WVH_eq hB0, WB18, WVH_eq hT, WVH_eq hT0, t0, show ((0 : Int) != 0) = false from rfl, show ((0 : Int) == 3) = false from rfl, Ns_len, hb0, hle, beq_self_eq_true, WB12, WVH_eq works_ok]
    · cases hb : ((brokenL w p w.deals 0).length == 0)
      · simp only [go_sem, Nat.reduceEqDiff, Nat.reduceAdd, Nat.reduceLT, Nat.reduceLeDiff, reduceIte, WCells, WEta, FCells, FEta, DCells, DEta, cellsIs, solidIs, cellsFs, solidFs, cellsDs, solidDs, Bool.and_self, Is_len, Fs_len, Ds_len, true_and, snW, hotW, snD, hotD, snIs, hotIs, WB30, WVH_eq (ready_ok w hfl), hr, WB29, WVH_eq (IsProgram_ok w hw p hpl), hp, WVH_eq hIP0, WB22, WVH_eq hM, WB28, WVH_eq h2, WB16, WVH_eq hB, WVH_eq hB0, WB18, WVH_eq hT, WVH_eq hT0, t0, show ((0 : Int) != 0) = false from rfl, show ((0 : Int) == 3) = false from rfl, Ns_len, hb0, hb, beq_self_eq_true, WB12, WVH_eq works_ok]
      · simp only [go_sem, Nat.reduceEqDiff, Nat.reduceAdd, Nat.reduceLT, Nat.reduceLeDiff, reduceIte, WCells, WEta, FCells, FEta, DCells, DEta, cellsIs, solidIs, cellsFs, solidFs, cellsDs, solidDs, Bool.and_self, Is_len, Fs_len, Ds_len, true_and, snW, hotW, snD, hotD, snIs, hotIs, WB30, WVH_eq (ready_ok w hfl), hr, WB29, WVH_eq (IsProgram_ok w hw p hpl), hp, WVH_eq hIP0, WB22, WVH_eq hM, WB28, WVH_eq h2, WB16, WVH_eq hB, WVH_eq hB0, WB18, WVH_eq hT, WVH_eq hT0, t0, show ((0 : Int) != 0) = false from rfl, show ((0 : Int) == 3) = false from rfl, Ns_len, hb0, hb, hle, beq_self_eq_true, WB12, WVH_eq works_ok]
end Go.Ab.T
end
