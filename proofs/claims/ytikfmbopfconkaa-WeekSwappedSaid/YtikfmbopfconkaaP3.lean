/-
  A part of the proofs over this seat.
  (The texts KwK12 KwK13 KwK14, one behind the other.)
-/
import Derived.Test.YtikfmbopfconkaaP2
set_option linter.unusedSimpArgs false
set_option linter.unusedVariables false
set_option linter.unusedSectionVars false
section
namespace Go.Ab.T
set_option maxRecDepth 8000
set_option maxHeartbeats 4000000
def asg43_0 : ACode := (.region [⟨(some 10), none, .mov (.t 15)⟩])
def body43_0 : ACode := (.block 1 (.regionD [⟨(some 16), none, .load (.t 7) none⟩,
    ⟨(some 17), none, .mov (.t 10)⟩,
    ⟨(some 18), none, .bin .add (.t 16) (.t 17)⟩,
    ⟨(some 19), none, .load (.t 8) none⟩,
    ⟨(some 20), none, .mov (.t 10)⟩,
    ⟨(some 21), none, .mnx false (.t 19) (.t 20)⟩,
    ⟨(some 22), none, .load (.t 9) none⟩,
    ⟨(some 23), none, .mov (.t 10)⟩,
    ⟨(some 24), none, .mnx true (.t 22) (.t 23)⟩,
    ⟨none, none, .store (.t 7) (.t 18) 1⟩,
    ⟨none, none, .store (.t 8) (.t 21) 1⟩,
    ⟨none, none, .store (.t 9) (.t 24) 1⟩] [(8, 7), (9, 7), (9, 8)]))
/-- On how many screens a film is shown, at so many hours of a day, from one on. -/
def hourN (w : Wk) (d : Dl) (sh day : Nat) : Nat → Nat → List Nat
  | 0, _ => []
  | n + 1, h => scrN w d sh day h w.rooms 0 :: hourN w d sh day n (h + 1)
/-- The same on so many days, from one on. -/
def hrsN (w : Wk) (d : Dl) (sh : Nat) : Nat → Nat → List Nat
  | 0, _ => []
  | n + 1, day => hourN w d sh day (d.late.toNat + 1 - d.early.toNat) d.early.toNat ++ hrsN w d sh n (day + 1)
def hrs (w : Wk) (d : Dl) (sh : Nat) : List Nat := hrsN w d sh (d.to.toNat + 1 - d.fr.toNat) d.fr.toNat
theorem hourly_ok (w : Wk) (d : Dl) (sh : Nat) : RV ft 71 [encW w, encD d, U64 sh] (.fn 91 [] [.pv (encD d) 0, .pv (encW w) 0, .pv (U64 sh) 0]) := by
  refine RV_of ft71 rfl ?_
  simp only [c71, r71]
  simp only [go_sem, Nat.reduceEqDiff, Nat.reduceAdd, Nat.reduceLT, Nat.reduceLeDiff, reduceIte, WCells, WEta, DCells, DEta, cellsIs, solidIs, cellsFs, solidFs, cellsDs, solidDs, Bool.and_self, Is_len, Fs_len, Ds_len, true_and, snW, hotW, snD, hotD, snIs, hotIs]
theorem hourly_prod {w : Wk} (hw : WV w) {d : Dl} (hd : DV w d) {sh : Nat} (hsh : sh < 18446744073709551616) {id : Nat} {J : List Nat → Mem → Prop}
    (hy : ∀ x xs m K', J (x :: xs) m → (∀ m', J xs m' → K' (.bool true) m') → WR ft (.y id) [I64 (x : Nat)] m K')
    (m : Mem) (h0 : J (hrs w d sh) m) (K : AV → Mem → Prop) (hK : ∀ m, J [] m → K (.tup []) m) : WR ft (.f 91) [.yld id, .pv (encD d) 0, .pv (encW w) 0, .pv (U64 sh) 0] m K := by
  rw [WR_f ft91 rfl]
  simp only [c91, r91]
  have e0 := hd.e0
  have el := hd.el
  have l := hd.l
  have f0 := hd.f0
  have fT := hd.ft
  have t := hd.t
  have b1 := hw.d2
  have b2 := hw.h2
  have hE : ((d.early.toNat : Nat) : Int) = d.early := Int.toNat_of_nonneg e0
  have hF : ((d.fr.toNat : Nat) : Int) = d.fr := Int.toNat_of_nonneg f0
  simp only [go_sem, Nat.reduceEqDiff, Nat.reduceAdd, Nat.reduceLT, Nat.reduceLeDiff, reduceIte, WCells, WEta, DCells, DEta, cellsIs, solidIs, cellsFs, solidFs, cellsDs, solidDs, Bool.and_self, Is_len, Fs_len, Ds_len, true_and, snW, hotW, snD, hotD, snIs, hotIs]
  refine WL_inv (α := Nat × Nat) (fun q e mm => e 0 = .yld id ∧ e 1 = .pv (encD d) 0 ∧ e 2 = .pv (encW w) 0 ∧ e 3 = .pv (U64 sh) 0 ∧ e 5 = I64 q.1 ∧ q.1 + q.2 = d.to.toNat + 1 ∧ J (hrsN w d sh q.2 q.1) mm) (fun q => q.2) (d.fr.toNat, d.to.toNat + 1 - d.fr.toNat) ?_ ?_
  · simp only [go_sem, Nat.reduceEqDiff, Nat.reduceAdd, Nat.reduceLT, Nat.reduceLeDiff, reduceIte]
    (repeat' apply And.intro) <;> first | trivial | rfl | assumption | omega | (rw [hF])
  rintro ⟨day, n⟩ e m ⟨g0, g1, g2, g3, g5, hs, hj⟩
  dsimp only at g5 hs hj
  cases n with
  | zero =>
    have : decide ((day : Int) ≤ d.to) = false := decide_eq_false (by omega)
    simp only [go_sem, Nat.reduceEqDiff, Nat.reduceAdd, Nat.reduceLT, Nat.reduceLeDiff, reduceIte, g0, g1, g2, g3, g5, WCells, WEta, DCells, DEta, cellsIs, solidIs, cellsFs, solidFs, cellsDs, solidDs, Bool.and_self, Is_len, Fs_len, Ds_len, true_and, snW, hotW, snD, hotD, snIs, hotIs, this]
    exact hK _ hj
  | succ n =>
    have hle : decide ((day : Int) ≤ d.to) = true := decide_eq_true (by omega)
    simp only [go_sem, Nat.reduceEqDiff, Nat.reduceAdd, Nat.reduceLT, Nat.reduceLeDiff, reduceIte, g0, g1, g2, g3, g5, WCells, WEta, DCells, DEta, cellsIs, solidIs, cellsFs, solidFs, cellsDs, solidDs, Bool.and_self, Is_len, Fs_len, Ds_len, true_and, snW, hotW, snD, hotD, snIs, hotIs, hle]
    refine WL_inv (α := Nat × Nat) (fun q e mm => e 0 = .yld id ∧ e 1 = .pv (encD d) 0 ∧ e 2 = .pv (encW w) 0 ∧ e 3 = .pv (U64 sh) 0 ∧ e 5 = I64 day ∧ e 6 = I64 q.1 ∧ q.1 + q.2 = d.late.toNat + 1 ∧ J (hourN w d sh day q.2 q.1 ++ hrsN w d sh n (day + 1)) mm) (fun q => q.2) (d.early.toNat, d.late.toNat + 1 - d.early.toNat) ?_ ?_
    · simp only [go_sem, Nat.reduceEqDiff, Nat.reduceAdd, Nat.reduceLT, Nat.reduceLeDiff, reduceIte, g0, g1, g2, g3, g5]
      (repeat' apply And.intro) <;> first | trivial | rfl | assumption | omega | (rw [hE])
    rintro ⟨h, k⟩ e m ⟨g0, g1, g2, g3, g5, g6, hs2, hj⟩
    dsimp only at g6 hs2 hj
    cases k with
    | zero =>
      have : decide ((h : Int) ≤ d.late) = false := decide_eq_false (by omega)
      simp only [go_sem, Nat.reduceEqDiff, Nat.reduceAdd, Nat.reduceLT, Nat.reduceLeDiff, reduceIte, g0, g1, g2, g3, g5, g6, WCells, WEta, DCells, DEta, cellsIs, solidIs, cellsFs, solidFs, cellsDs, solidDs, Bool.and_self, Is_len, Fs_len, Ds_len, true_and, snW, hotW, snD, hotD, snIs, hotIs, this, wrap_n1 day (by omega)]
      refine Nx_of (day + 1, n) (by simp) ?_
      simp only [go_sem, Nat.reduceEqDiff, Nat.reduceAdd, Nat.reduceLT, Nat.reduceLeDiff, reduceIte, g0, g1, g2, g3]
      exact ⟨trivial, trivial, trivial, trivial, trivial, by omega, hj⟩
    | succ k =>
      have hle2 : decide ((h : Int) ≤ d.late) = true := decide_eq_true (by omega)
      have hsc := screens_ok w hw d sh day h hsh (by omega) (by omega)
      simp only [go_sem, Nat.reduceEqDiff, Nat.reduceAdd, Nat.reduceLT, Nat.reduceLeDiff, reduceIte, g0, g1, g2, g3, g5, g6, WCells, WEta, DCells, DEta, cellsIs, solidIs, cellsFs, solidFs, cellsDs, solidDs, Bool.and_self, Is_len, Fs_len, Ds_len, true_and, snW, hotW, snD, hotD, snIs, hotIs, hle2, WB92, WVH_eq hsc]
      refine hy _ _ _ _ hj fun m' hj' => ?_
      simp only [go_sem, Nat.reduceEqDiff, Nat.reduceAdd, Nat.reduceLT, Nat.reduceLeDiff, reduceIte, g0, g1, g2, g3, g5, g6, wrap_n1 h (by omega)]
      refine Nx_of (h + 1, k) (by simp) ?_
      simp only [go_sem, Nat.reduceEqDiff, Nat.reduceAdd, Nat.reduceLT, Nat.reduceLeDiff, reduceIte, g0, g1, g2, g3, g5]
      exact ⟨trivial, trivial, trivial, trivial, trivial, trivial, by omega, hj'⟩
theorem scrN_le (w : Wk) (d : Dl) (sh day h : Nat) : ∀ (r : List Int) (k : Nat), scrN w d sh day h r k ≤ r.length
  | [], _ => Nat.le_refl 0
  | x :: r, k => by
    have := scrN_le w d sh day h r (k + 1)
    unfold scrN
    split <;> simp <;> omega
theorem hourN_le {w : Wk} (hw : WV w) (d : Dl) (sh day : Nat) : ∀ (n h : Nat), (∀ y ∈ hourN w d sh day n h, y ≤ 4) ∧ (hourN w d sh day n h).length = n
  | 0, _ => ⟨(by intro y hy; cases hy), rfl⟩
  | n + 1, h => by
    have ih := hourN_le hw d sh day n (h + 1)
    have h1 := scrN_le w d sh day h w.rooms 0
    have h2 := hw.r2
    refine ⟨fun y hy => ?_, by simp [hourN, ih.2]⟩
    rcases List.mem_cons.1 hy with rfl | hy
    · omega
    · exact ih.1 y hy
theorem hrsN_le {w : Wk} (hw : WV w) (d : Dl) (sh : Nat) : ∀ (n day : Nat), (∀ y ∈ hrsN w d sh n day, y ≤ 4) ∧ (hrsN w d sh n day).length = n * (d.late.toNat + 1 - d.early.toNat)
  | 0, _ => ⟨(by intro y hy; cases hy), (by simp [hrsN])⟩
  | n + 1, day => by
    have ih := hrsN_le hw d sh n (day + 1)
    have h1 := hourN_le hw d sh day (d.late.toNat + 1 - d.early.toNat) d.early.toNat
    refine ⟨fun y hy => ?_, by rw [hrsN, List.length_append, h1.2, ih.2, Nat.succ_mul]; omega⟩
    rcases List.mem_append.1 hy with hy | hy
    · exact h1.1 y hy
    · exact ih.1 y hy
theorem sum_le {l : List Nat} (h : ∀ y ∈ l, y ≤ 4) : l.sum ≤ 4 * l.length := by
  induction l with
  | nil => simp
  | cons x l ih =>
    have h1 := h x (by simp)
    have h2 := ih fun y hy => h y (by simp [hy])
    simp; omega
theorem hrs_sum {w : Wk} (hw : WV w) {d : Dl} (hd : DV w d) (sh : Nat) : (hrs w d sh).sum ≤ 112 := by
  have h1 := hrsN_le hw d sh (d.to.toNat + 1 - d.fr.toNat) d.fr.toNat
  have h2 := sum_le h1.1
  rw [h1.2] at h2
  have := hd.f0
  have := hd.t
  have := hd.l
  have := hd.e0
  have := hw.d2
  have := hw.h2
  have h3 : (d.to.toNat + 1 - d.fr.toNat) * (d.late.toNat + 1 - d.early.toNat) ≤ 7 * (d.late.toNat + 1 - d.early.toNat) := Nat.mul_le_mul_right _ (by omega)
  show (hrsN w d sh (d.to.toNat + 1 - d.fr.toNat) d.fr.toNat).sum ≤ 112
  omega
def keepsB (w : Wk) (d : Dl) (sh : Nat) : Bool :=
  if (d.kind == 1) = true then decide (((hrs w d sh).sum : Int) ≥ d.times)
  else if (d.kind == 2) = true then decide (((hrs w d sh).sum : Int) ≤ d.times)
  else if (d.kind == 4) = true then decide ((((hrs w d sh).foldl max 0 : Nat) : Int) ≤ 1)
  else if (d.kind == 5) = true then decide ((((hrs w d sh).foldl min 8 : Nat) : Int) ≥ 1)
  else cleanN w d sh (d.to.toNat + 1 - d.fr.toNat) d.fr.toNat
theorem keeps_ok (w : Wk) (hw : WV w) (d : Dl) (hd : DV w d) (sh : Nat) (hsh : sh < 18446744073709551616) : RV ft 43 [encW w, encD d, U64 sh] (.bool (keepsB w d sh)) := by
  refine RV_of ft43 rfl ?_
  simp only [c43, r43]
  have sn91 : ∀ (m : Mem) (q : Nat), snap m (q + 8) (.fn 91 [] [.pv (encD d) 0, .pv (encW w) 0, .pv (U64 sh) 0]) = .fn 91 [] [.pv (encD d) 0, .pv (encW w) 0, .pv (U64 sh) 0] := fun m q => by
    show AV.fn 91 [] [.pv (snap m (q + 6) (encD d)) 0, .pv (snap m (q + 6) (encW w)) 0, .pv (snap m (q + 6) (U64 sh)) 0] = _
    rw [snD, snW]; rfl
  simp only [go_sem, Nat.reduceEqDiff, Nat.reduceAdd, Nat.reduceLT, Nat.reduceLeDiff, reduceIte, WCells, WEta, DCells, DEta, cellsIs, solidIs, cellsFs, solidFs, cellsDs, solidDs, Bool.and_self, Is_len, Fs_len, Ds_len, true_and, snW, hotW, snD, hotD, snIs, hotIs, WB71, WVH_eq (hourly_ok w d sh)]
  have hS := hrs_sum hw hd sh
  have hl4 := (hrsN_le hw d sh (d.to.toNat + 1 - d.fr.toNat) d.fr.toNat).1
  refine WL_range_of (g := 91) (first := []) (cap := [.pv (encD d) 0, .pv (encW w) 0, .pv (U64 sh) 0]) ?_ ?_
  · rfl
  simp only [go_sem, Nat.reduceEqDiff, Nat.reduceAdd, Nat.reduceLT, Nat.reduceLeDiff, reduceIte]
  have hinit : ∀ env0 : Nat → AV, env0 7 = .ptr 2 0 0 → env0 8 = .ptr 3 0 0 → env0 9 = .ptr 4 0 0 → ∀ K : AV → Mem → Prop,
      K (.tup []) ⟨[.live [encW w] 5, .live [encD d] 8, .live [I64 ((hrs w d sh).sum : Nat)] 1, .live [I64 ((hrs w d sh).foldl min 8 : Nat)] 1, .live [I64 ((hrs w d sh).foldl max 0 : Nat)] 1, .lp env0 [15] asg43_0 body43_0 true none], []⟩ →
      WR ft (.f 91) [.yld 5, .pv (encD d) 0, .pv (encW w) 0, .pv (U64 sh) 0] ⟨[.live [encW w] 5, .live [encD d] 8, .live [I64 0] 1, .live [I64 8] 1, .live [I64 0] 1, .lp env0 [15] asg43_0 body43_0 true none], []⟩ K := by
    intro env0 v7 v8 v9 K hK
    refine hourly_prod hw hd hsh (J := fun ys mm => ∃ a b c : Nat, mm = ⟨[.live [encW w] 5, .live [encD d] 8, .live [I64 a] 1, .live [I64 b] 1, .live [I64 c] 1, .lp env0 [15] asg43_0 body43_0 true none], []⟩ ∧ (∀ y ∈ ys, y ≤ 4) ∧ a + ys.sum = (hrs w d sh).sum ∧ ys.foldl min b = (hrs w d sh).foldl min 8 ∧ ys.foldl max c = (hrs w d sh).foldl max 0) ?_ _ ⟨0, 8, 0, rfl, hl4, Nat.zero_add _, rfl, rfl⟩ _ ?_
    · rintro x xs m K' ⟨a, b, c, rfl, h4, ha, hb, hc⟩ hk
      refine WR_yld (ft := ft) rfl rfl ?_
      simp only [go_sem, Nat.reduceEqDiff, Nat.reduceAdd, Nat.reduceLT, Nat.reduceLeDiff, reduceIte, asg43_0, puts]
      refine YBegin_lp (ft := ft) rfl ?_
      simp only [List.sum_cons] at ha
      have w1 : IntKind.i64.wrap ((a : Int) + (x : Int)) = ((a + x : Nat) : Int) := by rw [wrap_i64 _ (by omega) (by omega)]; omega
      simp only [go_sem, Nat.reduceEqDiff, Nat.reduceAdd, Nat.reduceLT, Nat.reduceLeDiff, reduceIte, body43_0, v7, v8, v9, w1, show min (b : Int) (x : Int) = ((min b x : Nat) : Int) by omega, show max (c : Int) (x : Int) = ((max c x : Nat) : Int) by omega, show ((3 : Nat) != 2) = true from rfl, show ((4 : Nat) != 2) = true from rfl, show ((4 : Nat) != 3) = true from rfl]
      refine YEnd_lp rfl ?_
      exact hk _ ⟨a + x, min b x, max c x, rfl, fun y hy => h4 y (by simp [hy]), by omega, by rw [← hb]; rfl, by rw [← hc]; rfl⟩
    · rintro m ⟨a, b, c, rfl, _, ha, hb, hc⟩
      simp only [List.sum_nil, Nat.add_zero, List.foldl_nil] at ha hb hc
      rw [ha, hb, hc]; exact hK
  refine hinit _ (by simp only [go_sem, Nat.reduceEqDiff, Nat.reduceAdd, Nat.reduceLT, Nat.reduceLeDiff, reduceIte]) (by simp only [go_sem, Nat.reduceEqDiff, Nat.reduceAdd, Nat.reduceLT, Nat.reduceLeDiff, reduceIte]) (by simp only [go_sem, Nat.reduceEqDiff, Nat.reduceAdd, Nat.reduceLT, Nat.reduceLeDiff, reduceIte]) _ ?_
  refine RgEnd_lp rfl ?_
  unfold keepsB
  cases k1 : d.kind == 1
  case true => simp only [go_sem, Nat.reduceEqDiff, Nat.reduceAdd, Nat.reduceLT, Nat.reduceLeDiff, reduceIte, WCells, WEta, DCells, DEta, cellsIs, solidIs, cellsFs, solidFs, cellsDs, solidDs, Bool.and_self, Is_len, Fs_len, Ds_len, true_and, snW, hotW, snD, hotD, snIs, hotIs, k1]
  cases k2 : d.kind == 2
  case true => simp only [go_sem, Nat.reduceEqDiff, Nat.reduceAdd, Nat.reduceLT, Nat.reduceLeDiff, reduceIte, WCells, WEta, DCells, DEta, cellsIs, solidIs, cellsFs, solidFs, cellsDs, solidDs, Bool.and_self, Is_len, Fs_len, Ds_len, true_and, snW, hotW, snD, hotD, snIs, hotIs, k1, k2, Bool.false_eq_true, if_false]
  cases k4 : d.kind == 4
  case true => simp only [go_sem, Nat.reduceEqDiff, Nat.reduceAdd, Nat.reduceLT, Nat.reduceLeDiff, reduceIte, WCells, WEta, DCells, DEta, cellsIs, solidIs, cellsFs, solidFs, cellsDs, solidDs, Bool.and_self, Is_len, Fs_len, Ds_len, true_and, snW, hotW, snD, hotD, snIs, hotIs, k1, k2, k4, Bool.false_eq_true, if_false]
  cases k5 : d.kind == 5
  case true => simp only [go_sem, Nat.reduceEqDiff, Nat.reduceAdd, Nat.reduceLT, Nat.reduceLeDiff, reduceIte, WCells, WEta, DCells, DEta, cellsIs, solidIs, cellsFs, solidFs, cellsDs, solidDs, Bool.and_self, Is_len, Fs_len, Ds_len, true_and, snW, hotW, snD, hotD, snIs, hotIs, k1, k2, k4, k5, Bool.false_eq_true, if_false]
  simp only [go_sem, Nat.reduceEqDiff, Nat.reduceAdd, Nat.reduceLT, Nat.reduceLeDiff, reduceIte, WCells, WEta, DCells, DEta, cellsIs, solidIs, cellsFs, solidFs, cellsDs, solidDs, Bool.and_self, Is_len, Fs_len, Ds_len, true_and, snW, hotW, snD, hotD, snIs, hotIs, k1, k2, k4, k5, Bool.false_eq_true, if_false, WB72, WVH_eq (isClean_ok w hw d hd sh hsh)]
end Go.Ab.T
end

section
namespace Go.Ab.T
set_option maxRecDepth 8000
set_option maxHeartbeats 4000000
theorem chkP_ok {w : Wk} {p : List Int} (h : chkP w p = 0) : chkW w = 0 ∧ progOK w p = true := by
  unfold chkP at h
  split at h
  · rename_i h1
    split at h
    · rename_i h2; exact ⟨h1, h2⟩
    · cases h
  · rename_i h1; exact absurd h h1
theorem chkW_DV {w : Wk} (h : chkW w = 0) : ∀ d ∈ w.deals, DV w d := fun d hd => DV_of (List.all_eq_true.1 (chkW_ok h).2 d hd)
theorem prog_len {w : Wk} (hw : WV w) {p : List Int} (h : progOK w p = true) : p.length ≤ 8 := by
  unfold progOK at h
  simp only [Bool.and_eq_true, beq_iff_eq] at h
  have := hw.s
  omega
theorem shownN_lt (f : Int) : ∀ (p : List Int) (k s : Nat), k + p.length ≤ 8 → s < 256 → shownN f p k s < 256
  | [], _, _, _, h => h
  | x :: r, k, s, h, hs => by
    unfold shownN
    simp only [List.length_cons] at h
    refine shownN_lt f r (k + 1) _ (by omega) ?_
    split
    · exact or_lt s (2 ^ k) 8 hs (Nat.pow_lt_pow_right (by omega) (by omega))
    · exact hs
theorem shownN_bit (f : Int) : ∀ (p : List Int) (k s i : Nat), (shownN f p k s).testBit i = (s.testBit i || (decide (k ≤ i) && (p[i - k]? == some f)))
  | [], k, s, i => by simp [shownN]
  | x :: r, k, s, i => by
    unfold shownN
    rw [shownN_bit f r (k + 1) _ i]
    by_cases h1 : k ≤ i
    · rcases Nat.lt_or_ge k i with h2 | h2
      · have e1 : i - k = (i - (k + 1)) + 1 := by omega
        have h3 : ¬ k = i := by omega
        rw [e1, List.getElem?_cons_succ, decide_eq_true h1, decide_eq_true (show k + 1 ≤ i by omega)]
        congr 1
        split
        · rw [Nat.testBit_or, Nat.testBit_two_pow, decide_eq_false h3, Bool.or_false]
        · rfl
      · have h3 : k = i := by omega
        subst h3
        rw [decide_eq_true h1, decide_eq_false (show ¬ k + 1 ≤ k by omega), Nat.sub_self, List.getElem?_cons_zero]
        cases h4 : x == f
        · have : (some x == some f) = false := by simpa using h4
          simp [this]
        · have : (some x == some f) = true := by simpa using h4
          simp [this, Nat.testBit_or, Nat.testBit_two_pow]
    · rw [decide_eq_false h1, decide_eq_false (show ¬ k + 1 ≤ i by omega)]
      congr 1
      split
      · rw [Nat.testBit_or, Nat.testBit_two_pow, decide_eq_false (show ¬ k = i by omega), Bool.or_false]
      · rfl
/-- The deals that a film alone keeps. -/
def keptN (w : Wk) (fi : Int) (sh : Nat) : List Dl → Nat → Nat → Nat
  | [], _, s => s
  | d :: r, k, s => keptN w fi sh r (k + 1) (if (d.film == fi && !keepsB w d sh) = true then andn s (2 ^ k) else s)
theorem andn_le (a b : Nat) : andn a b ≤ a := Nat.and_le_left
theorem allD_lt {w : Wk} (hw : WV w) : 2 ^ w.deals.length - 1 < 256 := by
  have h1 : 2 ^ w.deals.length ≤ 2 ^ 8 := Nat.pow_le_pow_right (by decide) hw.d
  have h2 := Nat.two_pow_pos w.deals.length
  generalize 2 ^ w.deals.length = k at *
  omega
theorem kept_ok (w : Wk) (hw : WV w) (hds : ∀ d ∈ w.deals, DV w d) (fi : Int) (sh : Nat) (hsh : sh < 18446744073709551616) : RV ft 112 [encW w, I64 fi, U64 sh] (U64 (keptN w fi sh w.deals 0 (2 ^ w.deals.length - 1))) := by
  refine RV_of ft112 rfl ?_
  simp only [c112, r112]
  have hD := hw.d
  simp only [go_sem, Nat.reduceEqDiff, Nat.reduceAdd, Nat.reduceLT, Nat.reduceLeDiff, reduceIte, WCells, WEta, DCells, DEta, cellsIs, solidIs, cellsFs, solidFs, cellsDs, solidDs, Bool.and_self, Is_len, Fs_len, Ds_len, true_and, snW, hotW, snD, hotD, snIs, hotIs, WB53, WVH_eq (allDeals_ok w (by omega))]
  refine WL_inv (α := Nat × List Dl × Nat) (fun q e mm => e 1 = I64 fi ∧ e 2 = U64 sh ∧ e 3 = .ptr 0 0 0 ∧ e 7 = U64 q.2.2 ∧ e 13 = encDs w.deals ∧ e 14 = I64 w.deals.length ∧ e 15 = I64 q.1 ∧ w.deals.drop q.1 = q.2.1 ∧ keptN w fi sh q.2.1 q.1 q.2.2 = keptN w fi sh w.deals 0 (2 ^ w.deals.length - 1) ∧ q.2.2 < 256 ∧ ∃ ext, mm = ⟨.live [encW w] 5 :: ext, []⟩) (fun q => q.2.1.length) (0, w.deals, 2 ^ w.deals.length - 1) ?_ ?_
  · simp only [go_sem, Nat.reduceEqDiff, Nat.reduceAdd, Nat.reduceLT, Nat.reduceLeDiff, reduceIte]
    have := allD_lt hw
    exact ⟨trivial, trivial, trivial, trivial, trivial, trivial, rfl, trivial, trivial, this, [], rfl⟩
  rintro ⟨k, r, s⟩ e m ⟨g1, g2, g3, g7, g13, g14, g15, hdr, hq, hs, ext, rfl⟩
  dsimp only at g7 g15 hdr hq hs
  cases r with
  | nil =>
    have hge := drop_nil hdr
    simp only [go_sem, Nat.reduceEqDiff, Nat.reduceAdd, Nat.reduceLT, Nat.reduceLeDiff, reduceIte, g1, g2, g3, g7, g13, g14, g15, dec_ge hge]
    rw [← hq]; rfl
  | cons d r =>
    obtain ⟨hk, hd2, hlt⟩ := drop_cons hdr
    have hdv := hds d (List.mem_of_getElem? hk)
    cases h1 : d.film == fi
    · simp only [go_sem, Nat.reduceEqDiff, Nat.reduceAdd, Nat.reduceLT, Nat.reduceLeDiff, reduceIte, g1, g2, g3, g7, g13, g14, g15, dec_lt hlt, Ds_idx _ hk, WCells, WEta, DCells, DEta, cellsIs, solidIs, cellsFs, solidFs, cellsDs, solidDs, Bool.and_self, Is_len, Fs_len, Ds_len, true_and, snW, hotW, snD, hotD, snIs, hotIs, h1, wrap_n1 k (by omega)]
      refine Nx_of (k + 1, r, s) (by simp) ?_
      simp only [go_sem, Nat.reduceEqDiff, Nat.reduceAdd, Nat.reduceLT, Nat.reduceLeDiff, reduceIte, g1, g2, g3, g7, g13, g14]
      exact ⟨trivial, trivial, trivial, trivial, trivial, trivial, trivial, hd2, by rw [← hq, keptN, h1]; rfl, hs, _, rfl⟩
    cases h2 : keepsB w d sh
    · have hwo := without_ok s k (by omega) (by omega)
      simp only [go_sem, Nat.reduceEqDiff, Nat.reduceAdd, Nat.reduceLT, Nat.reduceLeDiff, reduceIte, g1, g2, g3, g7, g13, g14, g15, dec_lt hlt, Ds_idx _ hk, WCells, WEta, DCells, DEta, cellsIs, solidIs, cellsFs, solidFs, cellsDs, solidDs, Bool.and_self, Is_len, Fs_len, Ds_len, true_and, snW, hotW, snD, hotD, snIs, hotIs, h1, h2, WB43, WVH_eq (keeps_ok w hw d hdv sh hsh), WB59, WVH_eq hwo, wrap_n1 k (by omega)]
      refine Nx_of (k + 1, r, andn s (2 ^ k)) (by simp) ?_
      simp only [go_sem, Nat.reduceEqDiff, Nat.reduceAdd, Nat.reduceLT, Nat.reduceLeDiff, reduceIte, g1, g2, g3, g13, g14]
      exact ⟨trivial, trivial, trivial, trivial, trivial, trivial, trivial, hd2, by rw [← hq, keptN, h1, h2]; rfl, Nat.lt_of_le_of_lt (andn_le _ _) hs, _, rfl⟩
    · simp only [go_sem, Nat.reduceEqDiff, Nat.reduceAdd, Nat.reduceLT, Nat.reduceLeDiff, reduceIte, g1, g2, g3, g7, g13, g14, g15, dec_lt hlt, Ds_idx _ hk, WCells, WEta, DCells, DEta, cellsIs, solidIs, cellsFs, solidFs, cellsDs, solidDs, Bool.and_self, Is_len, Fs_len, Ds_len, true_and, snW, hotW, snD, hotD, snIs, hotIs, h1, h2, WB43, WVH_eq (keeps_ok w hw d hdv sh hsh), wrap_n1 k (by omega)]
      refine Nx_of (k + 1, r, s) (by simp) ?_
      simp only [go_sem, Nat.reduceEqDiff, Nat.reduceAdd, Nat.reduceLT, Nat.reduceLeDiff, reduceIte, g1, g2, g3, g7, g13, g14]
      exact ⟨trivial, trivial, trivial, trivial, trivial, trivial, trivial, hd2, by rw [← hq, keptN, h1, h2]; rfl, hs, _, rfl⟩
/-- The deals that a program does not keep. -/
def brokenL (w : Wk) (p : List Int) : List Dl → Nat → List Nat
  | [], _ => []
  | d :: r, k => if keepsB w d (shownN d.film p 0 0) = true then brokenL w p r (k + 1) else k :: brokenL w p r (k + 1)
theorem Broken_ok (w : Wk) (p : List Int) : RV ft 16 [encW w, encIs p] (.tup [encNs (if chkP w p = 0 then brokenL w p w.deals 0 else []), I64 (chkP w p)]) := by
  refine RV_of ft16 rfl ?_
  simp only [c16, r16]
  by_cases h0 : chkP w p = 0
  case neg =>
    have n0 : (chkP w p != 0) = true := by rw [bne, beq_eq_false_iff_ne.2 h0]; rfl
    simp only [go_sem, Nat.reduceEqDiff, Nat.reduceAdd, Nat.reduceLT, Nat.reduceLeDiff, reduceIte, WCells, WEta, DCells, DEta, cellsIs, solidIs, cellsFs, solidFs, cellsDs, solidDs, Bool.and_self, Is_len, Fs_len, Ds_len, true_and, snW, hotW, snD, hotD, snIs, hotIs, WB42, WVH_eq (checkProgram_ok w p), n0, if_neg h0]
    rfl
  obtain ⟨hc, hp⟩ := chkP_ok h0
  have hw := WV_of (chkW_ok hc).1
  have hds := chkW_DV hc
  have hD := hw.d
  have hpl := prog_len hw hp
  simp only [go_sem, Nat.reduceEqDiff, Nat.reduceAdd, Nat.reduceLT, Nat.reduceLeDiff, reduceIte, WCells, WEta, DCells, DEta, cellsIs, solidIs, cellsFs, solidFs, cellsDs, solidDs, Bool.and_self, Is_len, Fs_len, Ds_len, true_and, snW, hotW, snD, hotD, snIs, hotIs, WB42, WVH_eq (checkProgram_ok w p), h0, show ((0 : Int) != 0) = false from rfl, if_true]
  refine WL_inv (α := Nat × List Dl × List Nat) (fun q e mm => e 1 = encIs p ∧ e 2 = .ptr 0 0 0 ∧ e 17 = encDs w.deals ∧ e 18 = I64 w.deals.length ∧ e 19 = I64 q.1 ∧ w.deals.drop q.1 = q.2.1 ∧ q.2.2 ++ brokenL w p q.2.1 q.1 = brokenL w p w.deals 0 ∧ q.2.2.length ≤ q.1 ∧ ∃ ext v toks, e 7 = v ∧ Acc 3 (q.2.2.map fun (n : Nat) => I64 (n : Int)) v toks ∧ mm = ⟨.live [encW w] 5 :: ext, toks⟩) (fun q => q.2.1.length) (0, w.deals, []) ?_ ?_
  · simp only [go_sem, Nat.reduceEqDiff, Nat.reduceAdd, Nat.reduceLT, Nat.reduceLeDiff, reduceIte]
    exact ⟨trivial, trivial, trivial, trivial, rfl, trivial, trivial, trivial, [], _, _, rfl, Acc_nil 3, rfl⟩
  rintro ⟨k, r, acc⟩ e m ⟨g1, g2, g17, g18, g19, hdr, hq, hl, ext, v, toks, g7, hA, rfl⟩
  dsimp only at g19 hdr hq hl hA
  obtain ⟨c1, c2, c3⟩ := hA.cells
  cases r with
  | nil =>
    have hge := drop_nil hdr
    simp only [go_sem, Nat.reduceEqDiff, Nat.reduceAdd, Nat.reduceLT, Nat.reduceLeDiff, reduceIte, g1, g2, g7, g17, g18, g19, dec_ge hge, c1, c2, c3, snNs hA]
    rw [← hq]; simp [brokenL, h0]
  | cons d r =>
    obtain ⟨hk, hd2, hlt⟩ := drop_cons hdr
    have hdv := hds d (List.mem_of_getElem? hk)
    have hsl := slotsOf_ok p d.film (by omega)
    have hsh : shownN d.film p 0 0 < 18446744073709551616 := Nat.lt_of_lt_of_le (shownN_lt d.film p 0 0 (by omega) (by omega)) (by decide)
    cases h2 : keepsB w d (shownN d.film p 0 0)
    · simp only [go_sem, Nat.reduceEqDiff, Nat.reduceAdd, Nat.reduceLT, Nat.reduceLeDiff, reduceIte, g1, g2, g7, g17, g18, g19, dec_lt hlt, Ds_idx _ hk, WCells, WEta, DCells, DEta, cellsIs, solidIs, cellsFs, solidFs, cellsDs, solidDs, Bool.and_self, Is_len, Fs_len, Ds_len, true_and, snW, hotW, snD, hotD, snIs, hotIs, WB44, WVH_eq hsl, h2, WB43, WVH_eq (keeps_ok w hw d hdv _ hsh), c1, c2, c3]
      refine hA.app (fun e he => by obtain ⟨z, _, rfl⟩ := List.mem_map.1 he; rfl) rfl (by simp only [List.length_map, limit]; omega) fun v' toks' hA' => ?_
      obtain ⟨d1, d2, d3⟩ := hA'.cells
      simp only [go_sem, Nat.reduceEqDiff, Nat.reduceAdd, Nat.reduceLT, Nat.reduceLeDiff, reduceIte, g1, g2, g17, g18, g19, d1, d2, d3, wrap_n1 k (by omega)]
      refine Nx_of (k + 1, r, acc ++ [k]) (by simp) ?_
      simp only [go_sem, Nat.reduceEqDiff, Nat.reduceAdd, Nat.reduceLT, Nat.reduceLeDiff, reduceIte, g1, g2, g17, g18]
      exact ⟨trivial, trivial, trivial, trivial, trivial, hd2, by rw [← hq, brokenL, h2]; simp, by simp; omega, _, _, _, rfl, by rw [List.map_append]; exact hA', rfl⟩
    · simp only [go_sem, Nat.reduceEqDiff, Nat.reduceAdd, Nat.reduceLT, Nat.reduceLeDiff, reduceIte, g1, g2, g7, g17, g18, g19, dec_lt hlt, Ds_idx _ hk, WCells, WEta, DCells, DEta, cellsIs, solidIs, cellsFs, solidFs, cellsDs, solidDs, Bool.and_self, Is_len, Fs_len, Ds_len, true_and, snW, hotW, snD, hotD, snIs, hotIs, WB44, WVH_eq hsl, h2, WB43, WVH_eq (keeps_ok w hw d hdv _ hsh), wrap_n1 k (by omega)]
      refine Nx_of (k + 1, r, acc) (by simp) ?_
      simp only [go_sem, Nat.reduceEqDiff, Nat.reduceAdd, Nat.reduceLT, Nat.reduceLeDiff, reduceIte, g1, g2, g7, g17, g18]
      exact ⟨trivial, trivial, trivial, trivial, trivial, hd2, by rw [← hq, brokenL, h2]; simp, by omega, _, _, _, rfl, hA, rfl⟩
/-- What the films of a program take, from one on. -/
def takeF (w : Wk) (p : List Int) : List Mv → Nat → Int
  | [], _ => 0
  | m :: r, k => pplS w m (numsN (shownN (k : Int) p 0 0)) * m.price + takeF w p r (k + 1)
theorem pplS_le {w : Wk} (hw : WV w) {m : Mv} (hm : m ∈ w.films) : ∀ l : List Nat, 0 ≤ pplS w m l ∧ pplS w m l ≤ 999 * l.length
  | [] => by simp [pplS]
  | n :: r => by
    have ih := pplS_le hw hm r
    have hmv := hw.films m hm
    unfold mvOK at hmv
    simp only [Bool.and_eq_true, List.all_eq_true, inR_iff, beq_iff_eq] at hmv
    obtain ⟨hp, hcl, hcr⟩ := hmv
    have h1 := hw.h1
    have r1 := hw.r1
    have i1 : n % w.hours.toNat < m.crowd.length := by have := Nat.mod_lt n (show 0 < w.hours.toNat by omega); omega
    have i2 : n / w.hours.toNat % w.rooms.length < w.rooms.length := Nat.mod_lt _ (by omega)
    have v1 := hcr (m.crowd.getD (n % w.hours.toNat) 0) (by rw [List.getD_eq_getElem?_getD, List.getElem?_eq_getElem i1]; exact List.getElem_mem _)
    have v2 := hw.rooms (w.rooms.getD (n / w.hours.toNat % w.rooms.length) 0) (by rw [List.getD_eq_getElem?_getD, List.getElem?_eq_getElem i2]; exact List.getElem_mem _)
    have hpp : 0 ≤ pplN w m n ∧ pplN w m n ≤ 999 := by unfold pplN; omega
    simp only [pplS, List.length_cons]
    omega
theorem numsN_len {s : Nat} (hs : s < 256) : (numsN s).length ≤ 8 := by
  have h1 : lenN s ≤ 8 := lenN_le hs
  have h2 := List.length_filter_le s.testBit (List.range (lenN s))
  rw [List.length_range] at h2
  exact Nat.le_trans h2 h1
theorem take1_le {w : Wk} (hw : WV w) {m : Mv} (hm : m ∈ w.films) {s : Nat} (hs : s < 256) : 0 ≤ pplS w m (numsN s) * m.price ∧ pplS w m (numsN s) * m.price ≤ 1000000 := by
  have h1 := pplS_le hw hm (numsN s)
  have h2 := numsN_len hs
  have hmv := hw.films m hm
  unfold mvOK at hmv
  simp only [Bool.and_eq_true, inR_iff] at hmv
  have hp := hmv.1
  refine ⟨Int.mul_nonneg h1.1 hp.1, ?_⟩
  have h3 : pplS w m (numsN s) * m.price ≤ 7992 * m.price := Int.mul_le_mul_of_nonneg_right (by omega) hp.1
  omega
theorem Takings_ok (w : Wk) (p : List Int) : RV ft 18 [encW w, encIs p] (.tup [I64 (if chkP w p = 0 then takeF w p w.films 0 else 0), I64 (chkP w p)]) := by
  refine RV_of ft18 rfl ?_
  simp only [c18, r18]
  by_cases h0 : chkP w p = 0
  case neg =>
    have n0 : (chkP w p != 0) = true := by rw [bne, beq_eq_false_iff_ne.2 h0]; rfl
    simp only [go_sem, Nat.reduceEqDiff, Nat.reduceAdd, Nat.reduceLT, Nat.reduceLeDiff, reduceIte, WCells, WEta, DCells, DEta, cellsIs, solidIs, cellsFs, solidFs, cellsDs, solidDs, Bool.and_self, Is_len, Fs_len, Ds_len, true_and, snW, hotW, snD, hotD, snIs, hotIs, WB42, WVH_eq (checkProgram_ok w p), n0, if_neg h0]
  obtain ⟨hc, hp⟩ := chkP_ok h0
  have hw := WV_of (chkW_ok hc).1
  have hF := hw.f
  have hpl := prog_len hw hp
  simp only [go_sem, Nat.reduceEqDiff, Nat.reduceAdd, Nat.reduceLT, Nat.reduceLeDiff, reduceIte, WCells, WEta, DCells, DEta, cellsIs, solidIs, cellsFs, solidFs, cellsDs, solidDs, Bool.and_self, Is_len, Fs_len, Ds_len, true_and, snW, hotW, snD, hotD, snIs, hotIs, WB42, WVH_eq (checkProgram_ok w p), h0, show ((0 : Int) != 0) = false from rfl, if_true]
  refine WL_inv (α := Nat × List Mv × Int) (fun q e mm => e 1 = encIs p ∧ e 2 = .ptr 0 0 0 ∧ e 7 = I64 q.2.2 ∧ e 17 = I64 w.films.length ∧ e 18 = I64 q.1 ∧ w.films.drop q.1 = q.2.1 ∧ q.2.2 + takeF w p q.2.1 q.1 = takeF w p w.films 0 ∧ 0 ≤ q.2.2 ∧ q.2.2 ≤ 1000000 * q.1 ∧ mm = ⟨[.live [encW w] 5], []⟩) (fun q => q.2.1.length) (0, w.films, 0) ?_ ?_
  · simp only [go_sem, Nat.reduceEqDiff, Nat.reduceAdd, Nat.reduceLT, Nat.reduceLeDiff, reduceIte]
    exact ⟨trivial, trivial, trivial, trivial, rfl, trivial, Int.zero_add _, by omega, by omega, trivial⟩
  rintro ⟨k, r, a⟩ e m ⟨g1, g2, g7, g17, g18, hdr, hq, ha, ha2, rfl⟩
  dsimp only at g7 g18 hdr hq ha ha2
  cases r with
  | nil =>
    have hge := drop_nil hdr
    have : a = takeF w p w.films 0 := by rw [← hq]; simp [takeF]
    simp only [go_sem, Nat.reduceEqDiff, Nat.reduceAdd, Nat.reduceLT, Nat.reduceLeDiff, reduceIte, g1, g2, g7, g17, g18, dec_ge hge, this]
    rw [if_pos h0, h0]
  | cons m r =>
    obtain ⟨hk, hd2, hlt⟩ := drop_cons hdr
    have hsl := slotsOf_ok p (k : Int) (by omega)
    have hs8 := shownN_lt (k : Int) p 0 0 (by omega) (by omega)
    have hta := takings_ok w hw k m hk _ hs8
    have h1 := take1_le hw (List.mem_of_getElem? hk) hs8
    have w1 : IntKind.i64.wrap (a + pplS w m (numsN (shownN (k : Int) p 0 0)) * m.price) = a + pplS w m (numsN (shownN (k : Int) p 0 0)) * m.price := wrap_i64 _ (by omega) (by omega)
    simp only [go_sem, Nat.reduceEqDiff, Nat.reduceAdd, Nat.reduceLT, Nat.reduceLeDiff, reduceIte, g1, g2, g7, g17, g18, dec_lt hlt, WCells, WEta, DCells, DEta, cellsIs, solidIs, cellsFs, solidFs, cellsDs, solidDs, Bool.and_self, Is_len, Fs_len, Ds_len, true_and, snW, hotW, snD, hotD, snIs, hotIs, WB44, WVH_eq hsl, WB47, WVH_eq hta, w1, wrap_n1 k (by omega)]
    refine Nx_of (k + 1, r, a + pplS w m (numsN (shownN (k : Int) p 0 0)) * m.price) (by simp) ?_
    simp only [go_sem, Nat.reduceEqDiff, Nat.reduceAdd, Nat.reduceLT, Nat.reduceLeDiff, reduceIte, g1, g2, g17]
    exact ⟨trivial, trivial, trivial, trivial, trivial, hd2, by rw [← hq, takeF]; omega, by omega, by omega, trivial⟩
end Go.Ab.T
end

section
namespace Go.Ab.T
set_option maxRecDepth 8000
set_option maxHeartbeats 4000000
/-- The sum of so many, from one on. -/
def sumN : Nat → Nat → (Nat → Nat) → Nat
  | 0, _, _ => 0
  | n + 1, a, f => f a + sumN n (a + 1) f
theorem sumN_le {f : Nat → Nat} {c : Nat} (h : ∀ i, f i ≤ c) : ∀ n a, sumN n a f ≤ n * c
  | 0, _ => by simp [sumN]
  | n + 1, a => by
    have h1 := h a
    have h2 := sumN_le h n (a + 1)
    rw [sumN, Nat.succ_mul]; omega
def allN : Nat → Nat → (Nat → Bool) → Bool
  | 0, _, _ => true
  | n + 1, a, f => f a && allN n (a + 1) f
def anyN : Nat → Nat → (Nat → Bool) → Bool
  | 0, _, _ => false
  | n + 1, a, f => f a || anyN n (a + 1) f
/-- Is a deal's film shown in a slot of its screens? -/
def cellN (w : Wk) (p : List Int) (d : Dl) (day s h : Nat) : Nat := if (decide (d.seats ≤ w.rooms.getD s 0) && (p[slN w day s h]? == some d.film)) = true then 1 else 0
theorem cellN_le (w : Wk) (p : List Int) (d : Dl) (day s h : Nat) : cellN w p d day s h ≤ 1 := by unfold cellN; split <;> omega
def showsN (w : Wk) (p : List Int) (d : Dl) (a na h nh s ns : Nat) : Nat := sumN na a fun day => sumN ns s fun s => sumN nh h fun h => cellN w p d day s h
theorem prog_slots {w : Wk} {p : List Int} (h : progOK w p = true) : (p.length : Int) = w.slots := by
  unfold progOK at h
  simp only [Bool.and_eq_true, beq_iff_eq] at h
  exact h.2
theorem slN_lts {w : Wk} (hw : WV w) {day s h : Nat} (h1 : (day : Int) < w.days) (h2 : s < w.rooms.length) (h3 : (h : Int) < w.hours) : ((slN w day s h : Nat) : Int) < w.slots := by
  unfold slN
  have e : w.slots = ((w.days.toNat * w.rooms.length * w.hours.toNat : Nat) : Int) := by
    unfold Wk.slots
    rw [Int.natCast_mul, Int.natCast_mul, Int.toNat_of_nonneg (by have := hw.h1; omega), Int.toNat_of_nonneg (by have := hw.d1; omega)]
  rw [e]
  have a : (day + 1) * w.rooms.length ≤ w.days.toNat * w.rooms.length := Nat.mul_le_mul_right _ (by omega)
  rw [Nat.succ_mul] at a
  have b : (day * w.rooms.length + s + 1) * w.hours.toNat ≤ w.days.toNat * w.rooms.length * w.hours.toNat := Nat.mul_le_mul_right _ (by omega)
  rw [Nat.succ_mul] at b
  omega
theorem shows_ok (w : Wk) (hw : WV w) (p : List Int) (hp : progOK w p = true) (d : Dl) (a na h nh s ns : Nat) (to late last : Int) (h1 : ((a + na : Nat) : Int) = to + 1) (h2 : ((h + nh : Nat) : Int) = late + 1) (h3 : ((s + ns : Nat) : Int) = last + 1)
    (l1 : to < w.days) (l2 : late < w.hours) (l3 : last < w.rooms.length) : RV ft 94 [encW w, encIs p, encD d, I64 a, I64 to, I64 h, I64 late, I64 s, I64 last] (I64 (showsN w p d a na h nh s ns)) := by
  refine RV_of ft94 rfl ?_
  simp only [c94, r94]
  have b1 := hw.d2
  have b2 := hw.h2
  have b3 := hw.r2
  have b4 := hw.h1
  have hpl := prog_slots hp
  have hT : showsN w p d a na h nh s ns ≤ 1000 := by
    have t1 : ∀ i, (sumN ns s fun s => sumN nh h fun h => cellN w p d i s h) ≤ ns * (nh * 1) := fun i => sumN_le (fun j => sumN_le (fun k => cellN_le w p d i j k) nh h) ns s
    have t2 := sumN_le t1 na a
    have t3 : na * (ns * (nh * 1)) ≤ 8 * (ns * (nh * 1)) := Nat.mul_le_mul_right _ (by omega)
    have t4 : ns * (nh * 1) ≤ 5 * (nh * 1) := Nat.mul_le_mul_right _ (by omega)
    show (sumN na a fun day => sumN ns s fun s => sumN nh h fun h => cellN w p d day s h) ≤ 1000
    omega
  generalize hTT : showsN w p d a na h nh s ns = T at hT
  simp only [go_sem, Nat.reduceEqDiff, Nat.reduceAdd, Nat.reduceLT, Nat.reduceLeDiff, reduceIte, WCells, WEta, DCells, DEta, cellsIs, solidIs, cellsFs, solidFs, cellsDs, solidDs, Bool.and_self, Is_len, Fs_len, Ds_len, true_and, snW, hotW, snD, hotD, snIs, hotIs]
  refine WL_inv (α := Nat × Nat × Nat) (fun q e mm => e 1 = encIs p ∧ e 4 = I64 to ∧ e 5 = I64 h ∧ e 6 = I64 late ∧ e 7 = I64 s ∧ e 8 = I64 last ∧ e 9 = .ptr 0 0 0 ∧ e 11 = .ptr 1 0 0 ∧ e 19 = I64 q.2.2 ∧ e 20 = I64 q.1 ∧ q.1 + q.2.1 = a + na ∧ q.2.2 + (sumN q.2.1 q.1 fun day => sumN ns s fun s => sumN nh h fun h => cellN w p d day s h) = T ∧ mm = ⟨[.live [encW w] 5, .live [encD d] 8], []⟩) (fun q => q.2.1) (a, na, 0) ?_ ?_
  · simp only [go_sem, Nat.reduceEqDiff, Nat.reduceAdd, Nat.reduceLT, Nat.reduceLeDiff, reduceIte]
    exact ⟨trivial, trivial, trivial, trivial, trivial, trivial, trivial, trivial, rfl, trivial, trivial, by rw [← hTT]; exact Nat.zero_add _, trivial⟩
  rintro ⟨day, n, acc⟩ e m ⟨g1, g4, g5, g6, g7, g8, g9, g11, g19, g20, hs, hq, rfl⟩
  dsimp only at g19 g20 hs hq
  cases n with
  | zero =>
    have hd : decide ((day : Int) ≤ to) = false := decide_eq_false (by omega)
    simp only [go_sem, Nat.reduceEqDiff, Nat.reduceAdd, Nat.reduceLT, Nat.reduceLeDiff, reduceIte, g1, g4, g5, g6, g7, g8, g9, g11, g19, g20, hd, show acc = T from hq]
  | succ n =>
    have hd : decide ((day : Int) ≤ to) = true := decide_eq_true (by omega)
    simp only [go_sem, Nat.reduceEqDiff, Nat.reduceAdd, Nat.reduceLT, Nat.reduceLeDiff, reduceIte, g1, g4, g5, g6, g7, g8, g9, g11, g19, g20, hd]
    rw [sumN] at hq
    generalize hR : (sumN n (day + 1) fun day => sumN ns s fun s => sumN nh h fun h => cellN w p d day s h) = R at hq
    refine WL_inv (α := Nat × Nat × Nat) (fun q e mm => e 1 = encIs p ∧ e 4 = I64 to ∧ e 5 = I64 h ∧ e 6 = I64 late ∧ e 7 = I64 s ∧ e 8 = I64 last ∧ e 9 = .ptr 0 0 0 ∧ e 11 = .ptr 1 0 0 ∧ e 19 = I64 q.2.2 ∧ e 20 = I64 day ∧ e 21 = I64 q.1 ∧ q.1 + q.2.1 = s + ns ∧ q.2.2 + (sumN q.2.1 q.1 fun s => sumN nh h fun h => cellN w p d day s h) + R = T ∧ mm = ⟨[.live [encW w] 5, .live [encD d] 8], []⟩) (fun q => q.2.1) (s, ns, acc) ?_ ?_
    · simp only [go_sem, Nat.reduceEqDiff, Nat.reduceAdd, Nat.reduceLT, Nat.reduceLeDiff, reduceIte, g1, g4, g5, g6, g7, g8, g9, g11, g19, g20]
      exact ⟨trivial, trivial, trivial, trivial, trivial, trivial, trivial, trivial, trivial, trivial, trivial, trivial, by omega, trivial⟩
    rintro ⟨sc, k, acc⟩ e m ⟨g1, g4, g5, g6, g7, g8, g9, g11, g19, g20, g21, hs2, hq, rfl⟩
    dsimp only at g19 g21 hs2 hq
    cases k with
    | zero =>
      have hd : decide ((sc : Int) ≤ last) = false := decide_eq_false (by omega)
      simp only [go_sem, Nat.reduceEqDiff, Nat.reduceAdd, Nat.reduceLT, Nat.reduceLeDiff, reduceIte, g1, g4, g5, g6, g7, g8, g9, g11, g19, g20, g21, hd, wrap_n1 day (by omega)]
      refine Nx_of (day + 1, n, acc) (by simp) ?_
      simp only [go_sem, Nat.reduceEqDiff, Nat.reduceAdd, Nat.reduceLT, Nat.reduceLeDiff, reduceIte, g1, g4, g5, g6, g7, g8, g9, g11, g19]
      exact ⟨trivial, trivial, trivial, trivial, trivial, trivial, trivial, trivial, trivial, trivial, by omega, by rw [hR]; exact hq, trivial⟩
    | succ k =>
      have hd : decide ((sc : Int) ≤ last) = true := decide_eq_true (by omega)
      simp only [go_sem, Nat.reduceEqDiff, Nat.reduceAdd, Nat.reduceLT, Nat.reduceLeDiff, reduceIte, g1, g4, g5, g6, g7, g8, g9, g11, g19, g20, g21, hd]
      rw [sumN] at hq
      generalize hR2 : (sumN k (sc + 1) fun s => sumN nh h fun h => cellN w p d day s h) = R2 at hq
      refine WL_inv (α := Nat × Nat × Nat) (fun q e mm => e 1 = encIs p ∧ e 4 = I64 to ∧ e 5 = I64 h ∧ e 6 = I64 late ∧ e 7 = I64 s ∧ e 8 = I64 last ∧ e 9 = .ptr 0 0 0 ∧ e 11 = .ptr 1 0 0 ∧ e 19 = I64 q.2.2 ∧ e 20 = I64 day ∧ e 21 = I64 sc ∧ e 22 = I64 q.1 ∧ q.1 + q.2.1 = h + nh ∧ q.2.2 + (sumN q.2.1 q.1 fun h => cellN w p d day sc h) + R2 + R = T ∧ mm = ⟨[.live [encW w] 5, .live [encD d] 8], []⟩) (fun q => q.2.1) (h, nh, acc) ?_ ?_
      · simp only [go_sem, Nat.reduceEqDiff, Nat.reduceAdd, Nat.reduceLT, Nat.reduceLeDiff, reduceIte, g1, g4, g5, g6, g7, g8, g9, g11, g19, g20, g21]
        exact ⟨trivial, trivial, trivial, trivial, trivial, trivial, trivial, trivial, trivial, trivial, trivial, trivial, trivial, by omega, trivial⟩
      rintro ⟨hh, j, acc⟩ e m ⟨g1, g4, g5, g6, g7, g8, g9, g11, g19, g20, g21, g22, hs3, hq, rfl⟩
      dsimp only at g19 g22 hs3 hq
      cases j with
      | zero =>
        have hd : decide ((hh : Int) ≤ late) = false := decide_eq_false (by omega)
        simp only [go_sem, Nat.reduceEqDiff, Nat.reduceAdd, Nat.reduceLT, Nat.reduceLeDiff, reduceIte, g1, g4, g5, g6, g7, g8, g9, g11, g19, g20, g21, g22, hd, wrap_n1 sc (by omega)]
        refine Nx_of (sc + 1, k, acc) (by simp) ?_
        simp only [go_sem, Nat.reduceEqDiff, Nat.reduceAdd, Nat.reduceLT, Nat.reduceLeDiff, reduceIte, g1, g4, g5, g6, g7, g8, g9, g11, g19, g20]
        exact ⟨trivial, trivial, trivial, trivial, trivial, trivial, trivial, trivial, trivial, trivial, trivial, by omega, by rw [hR2]; simp only [sumN] at hq; omega, trivial⟩
      | succ j =>
        have hd : decide ((hh : Int) ≤ late) = true := decide_eq_true (by omega)
        rw [sumN] at hq
        have hlt : sc < w.rooms.length := by omega
        have j2 : w.rooms[sc]? = some (w.rooms.getD sc 0) := by rw [List.getD_eq_getElem?_getD, List.getElem?_eq_getElem hlt]; rfl
        have hsl := Slot_ok w day sc hh ⟨by omega, by omega⟩ ⟨by omega, by omega⟩ ⟨by omega, by omega⟩ b3 (by omega) b2
        rw [slN_cast hw] at hsl
        have hsl2 := slN_lts hw (day := day) (s := sc) (h := hh) (by omega) hlt (by omega)
        have j3 : p[slN w day sc hh]? = some (p.getD (slN w day sc hh) 0) := by rw [List.getD_eq_getElem?_getD, List.getElem?_eq_getElem (by omega)]; rfl
        have hc := cellN_le w p d day sc hh
        cases h5 : decide (d.seats ≤ w.rooms.getD sc 0)
        · have hc0 : cellN w p d day sc hh = 0 := by unfold cellN; rw [h5]; rfl
          simp only [go_sem, Nat.reduceEqDiff, Nat.reduceAdd, Nat.reduceLT, Nat.reduceLeDiff, reduceIte, g1, g4, g5, g6, g7, g8, g9, g11, g19, g20, g21, g22, hd, WCells, WEta, DCells, DEta, cellsIs, solidIs, cellsFs, solidFs, cellsDs, solidDs, Bool.and_self, Is_len, Fs_len, Ds_len, true_and, snW, hotW, snD, hotD, snIs, hotIs, Is_idx _ j2, h5, wrap_n1 hh (by omega)]
          refine Nx_of (hh + 1, j, acc) (by simp) ?_
          simp only [go_sem, Nat.reduceEqDiff, Nat.reduceAdd, Nat.reduceLT, Nat.reduceLeDiff, reduceIte, g1, g4, g5, g6, g7, g8, g9, g11, g19, g20, g21]
          exact ⟨trivial, trivial, trivial, trivial, trivial, trivial, trivial, trivial, trivial, trivial, trivial, trivial, by omega, by omega, trivial⟩
        cases h6 : p.getD (slN w day sc hh) 0 == d.film
        · have hc0 : cellN w p d day sc hh = 0 := by unfold cellN; rw [h5, j3]; simp only [Bool.true_and, Option.some_beq_some, h6]; rfl
          simp only [go_sem, Nat.reduceEqDiff, Nat.reduceAdd, Nat.reduceLT, Nat.reduceLeDiff, reduceIte, g1, g4, g5, g6, g7, g8, g9, g11, g19, g20, g21, g22, hd, WCells, WEta, DCells, DEta, cellsIs, solidIs, cellsFs, solidFs, cellsDs, solidDs, Bool.and_self, Is_len, Fs_len, Ds_len, true_and, snW, hotW, snD, hotD, snIs, hotIs, Is_idx _ j2, h5, WB33, WVH_eq hsl, Is_idx _ j3, h6, wrap_n1 hh (by omega)]
          refine Nx_of (hh + 1, j, acc) (by simp) ?_
          simp only [go_sem, Nat.reduceEqDiff, Nat.reduceAdd, Nat.reduceLT, Nat.reduceLeDiff, reduceIte, g1, g4, g5, g6, g7, g8, g9, g11, g19, g20, g21]
          exact ⟨trivial, trivial, trivial, trivial, trivial, trivial, trivial, trivial, trivial, trivial, trivial, trivial, by omega, by omega, trivial⟩
        · have hc1 : cellN w p d day sc hh = 1 := by unfold cellN; rw [h5, j3]; simp only [Bool.true_and, Option.some_beq_some, h6]; rfl
          simp only [go_sem, Nat.reduceEqDiff, Nat.reduceAdd, Nat.reduceLT, Nat.reduceLeDiff, reduceIte, g1, g4, g5, g6, g7, g8, g9, g11, g19, g20, g21, g22, hd, WCells, WEta, DCells, DEta, cellsIs, solidIs, cellsFs, solidFs, cellsDs, solidDs, Bool.and_self, Is_len, Fs_len, Ds_len, true_and, snW, hotW, snD, hotD, snIs, hotIs, Is_idx _ j2, h5, WB33, WVH_eq hsl, Is_idx _ j3, h6, wrap_n1 hh (by omega), wrap_n1 acc (by omega)]
          refine Nx_of (hh + 1, j, acc + 1) (by simp) ?_
          simp only [go_sem, Nat.reduceEqDiff, Nat.reduceAdd, Nat.reduceLT, Nat.reduceLeDiff, reduceIte, g1, g4, g5, g6, g7, g8, g9, g11, g19, g20, g21]
          exact ⟨trivial, trivial, trivial, trivial, trivial, trivial, trivial, trivial, trivial, trivial, trivial, trivial, by omega, by omega, trivial⟩
end Go.Ab.T
end
