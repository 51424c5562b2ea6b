/-
  A part of the proofs over this seat.
  (The texts KrM6 KrK16 KrK17, one behind the other.)
-/
import Derived.Test.YtnkdfekbifcglaaP12
set_option linter.unusedSimpArgs false
set_option linter.unusedVariables false
set_option linter.unusedSectionVars false
section
namespace Go.Ab.T
/-! ### More -/
theorem IsM.grow {h : Ho} (hV : HV h) {T T' n n' : Int} (hT : 0 ≤ T) (hTT : T ≤ T') (a : IsM h T n) (b : IsM h T' n') : n ≤ n' := by
  obtain ⟨H, h1, h2⟩ := b.is
  obtain ⟨h3, h4⟩ := bnd_mono hV hT hTT h1
  have := a.le _ h3
  omega
theorem sumR_sub {n : Nat} {f : Nat → Int} : ∀ {k : Nat}, n ≤ k → (∀ i, i < k → 0 ≤ f i) → sumR n f ≤ sumR k f
  | 0, h, _ => by obtain rfl : n = 0 := by omega
                  exact Int.le_refl _
  | k + 1, h, hf => by
    by_cases hk : n ≤ k
    · have := sumR_sub hk fun i hi => hf i (by omega)
      have := hf k (by omega)
      simp only [sumR]; omega
    · obtain rfl : n = k + 1 := by omega
      exact Int.le_refl _
/-- Wider, shorter, and more passages. -/
structure Wider (h g : Ho) : Prop where
  p : g.p = h.p
  l : h.s.length ≤ g.s.length
  q : ∀ i, i < h.s.length → (pq g i).fr = (pq h i).fr ∧ (pq g i).to = (pq h i).to ∧ (pq h i).wd ≤ (pq g i).wd ∧ (pq g i).wk ≤ (pq h i).wk
theorem Wider.bnd {h g : Ho} (w : Wider h g) (hV : HV h) (hVg : HV g) {T : Int} (H : Nat → Int) : Go.Ab.T.bnd h T H ≤ Go.Ab.T.bnd g T H := by
  unfold Go.Ab.T.bnd
  have hpp : ∀ r, pp g r = pp h r := fun r => by unfold pp; rw [w.p]
  have hc : ∀ i, i < g.s.length → ∀ m, 0 ≤ if crB g H i m = true then (pq g i).wd else 0 := fun i hi m => by
    have := (hVg.sv _ (pq_mem hi)).w0
    split <;> omega
  refine Int.add_le_add ?_ (Int.le_trans (sumR_le (g := fun i => sumR (nM T (pq g i)) fun m => if crB g H i m = true then (pq g i).wd else 0) fun i hi => ?_) (sumR_sub w.l fun i hi => sumR_nn fun m hm => hc i hi m))
  · rw [w.p]; simp only [hpp]; exact Int.le_refl _
  · obtain ⟨q1, q2, q3, q4⟩ := w.q i hi
    refine Int.le_trans (sumR_le (g := fun m => if crB g H i m = true then (pq g i).wd else 0) fun m hm => ?_) (sumR_sub (by unfold nM; omega) fun m hm => hc i (by have := w.l; omega) m)
    by_cases hb : crB h H i m = true
    · rw [if_pos hb, if_pos]
      · exact q3
      · unfold crB at hb ⊢
        rw [q1, q2]
        simp only [Bool.and_eq_true, decide_eq_true_eq, Bool.or_eq_true, beq_iff_eq] at hb ⊢
        exact ⟨hb.1, hb.2.imp id fun h => by omega⟩
    · rw [if_neg hb]; exact hc i (by have := w.l; omega) m
theorem Wider.hr {h g : Ho} (w : Wider h g) {T : Int} {H : Nat → Int} (hH : HrOK g T H) : HrOK h T H := by unfold HrOK at hH ⊢; rwa [w.p] at hH
theorem Wider.M {h g : Ho} (w : Wider h g) (hV : HV h) (hVg : HV g) {T n k : Int} (a : IsM h T n) (b : IsM g T k) : n ≤ k := by
  obtain ⟨H, h1, h2⟩ := b.is
  have := a.le H (w.hr h1)
  have := w.bnd hV hVg (T := T) H
  omega
theorem Wider.E {h g : Ho} (w : Wider h g) (hV : HV h) (hVg : HV g) {T : Int} (a : canE h T) : canE g T := fun H hH => by
  have := a H (w.hr hH)
  have := w.bnd hV hVg (T := T) H
  unfold allP at *
  rw [w.p]; omega
/-- Sooner empty: what the two answers are. -/
theorem Wider.Empty {h g : Ho} (w : Wider h g) (hV : HV h) (hVg : HV g) : ∃ a b c d : Int, RV ft 29 [encH h] (.tup [I64 a, I64 b]) ∧ RV ft 29 [encH g] (.tup [I64 c, I64 d]) ∧ (b = 0 ∧ d = 0 ∧ c ≤ a ∨ b = 3) := by
  rcases Empty_ok hVg with ⟨m', hm', h3⟩ | ⟨hn', h3⟩ <;> rcases Empty_ok hV with ⟨m, hm, h2⟩ | ⟨hn, h2⟩
  · refine ⟨_, _, _, _, h2, h3, .inl ⟨rfl, rfl, ?_⟩⟩
    by_cases hlt : m < m'
    · exact absurd (w.E hV hVg hm.yes) (hm'.no m hlt)
    · omega
  · exact ⟨_, _, _, _, h2, h3, .inr rfl⟩
  · exact absurd (w.E hV hVg (canE_mono hV (by omega) (by have := hm.le; omega) hm.yes)) hn'
  · exact ⟨_, _, _, _, h2, h3, .inr rfl⟩
/-- One more person in a room. -/
def oneH (h : Ho) (r : Nat) : Ho := ⟨h.p.set r (pp h r + 1), h.s⟩
theorem one_pp {h : Ho} {r : Nat} (hr : r < h.p.length) (k : Nat) : pp (oneH h r) k = if r = k then pp h k + 1 else pp h k := by
  unfold pp oneH
  dsimp only
  rw [List.getElem?_set]
  by_cases hk : r = k
  · subst hk; simp [hr]; unfold pp; simp [hr]
  · simp [hk]
theorem sumR_at {n : Nat} {f g : Nat → Int} {r : Nat} : (∀ i, i < n → i ≠ r → f i = g i) → g r ≤ f r → f r ≤ g r + 1 → sumR n g ≤ sumR n f ∧ sumR n f ≤ sumR n g + 1 := by
  intro h1 h2 h3
  have key : ∀ k, k ≤ n → if r < k then sumR k g ≤ sumR k f ∧ sumR k f ≤ sumR k g + 1 else sumR k f = sumR k g := by
    intro k hk
    induction k with
    | zero => simp [sumR]
    | succ k ih =>
      have ih := ih (by omega)
      simp only [sumR]
      by_cases hr : r < k
      · rw [if_pos hr] at ih
        rw [if_pos (by omega), h1 k (by omega) (by omega)]
        omega
      · rw [if_neg hr] at ih
        by_cases hrk : r = k
        · subst hrk
          rw [if_pos (by omega)]
          omega
        · rw [if_neg (by omega), h1 k (by omega) (by omega)]
          omega
  have := key n (Nat.le_refl _)
  split at this <;> omega
theorem one_bnd {h : Ho} {r : Nat} (hr : r < h.p.length) (T : Int) (H : Nat → Int) : bnd h T H ≤ bnd (oneH h r) T H ∧ bnd (oneH h r) T H ≤ bnd h T H + 1 := by
  unfold bnd
  have e1 : (oneH h r).p.length = h.p.length := by unfold oneH; simp
  have e2 : (oneH h r).s = h.s := rfl
  have e3 : ∀ i, pq (oneH h r) i = pq h i := fun i => rfl
  have e4 : ∀ i m, crB (oneH h r) H i m = crB h H i m := fun i m => rfl
  rw [e1, e2]
  simp only [e3, e4]
  have := sumR_at (n := h.p.length) (r := r) (f := fun k => if 0 < H k then pp (oneH h r) k else 0) (g := fun k => if 0 < H k then pp h k else 0) (fun i hi hne => by
    rw [one_pp hr, if_neg (Ne.symm hne)]) (by rw [one_pp hr, if_pos rfl]; split <;> omega) (by rw [one_pp hr, if_pos rfl]; split <;> omega)
  omega
theorem one_M {h : Ho} {r : Nat} (hr : r < h.p.length) {T n k : Int} (a : IsM h T n) (b : IsM (oneH h r) T k) : n ≤ k ∧ k ≤ n + 1 := by
  have e1 : (oneH h r).p.length = h.p.length := by unfold oneH; simp
  obtain ⟨H, h1, h2⟩ := b.is
  obtain ⟨H', h3, h4⟩ := a.is
  have h5 := a.le H (by unfold HrOK at h1 ⊢; rwa [e1] at h1)
  have h6 := b.le H' (by unfold HrOK at h3 ⊢; rwa [e1])
  have h7 := one_bnd hr T H
  have h8 := one_bnd hr T H'
  omega
end Go.Ab.T
end

section
namespace Go.Ab.T
set_option maxRecDepth 8000
set_option maxHeartbeats 1000000
structure Mr where
  mi : Int
  pa : Int
  wd : Int
  wk : Int
  ro : Int
  an : Pas
def encX (x : Mr) : AV := .agg [I64 x.mi, I64 x.pa, I64 x.wd, I64 x.wk, I64 x.ro, I64 x.an.fr, I64 x.an.to, I64 x.an.wd, I64 x.an.wk]
theorem XCells (x : Mr) : (encX x).cells = [I64 x.mi, I64 x.pa, I64 x.wd, I64 x.wk, I64 x.ro, I64 x.an.fr, I64 x.an.to, I64 x.an.wd, I64 x.an.wk] := rfl
theorem XSolid (x : Mr) : (encX x).solids = true := rfl
theorem More_bad (h : Ho) (T : Int) (x : Mr) (hb : ¬(readyB h T = true ∧ (0 ≤ x.mi ∧ x.mi ≤ 10) ∧ (0 ≤ x.wd ∧ x.wd ≤ 20) ∧ (0 ≤ x.wk ∧ x.wk ≤ 9))) : RV ft 8 [encH h, I64 T, encX x] (.bool true) := by
  refine RV_of ft8 rfl ?_
  simp only [c8, r8]
  have hR := ready_ok h T
  cases hr : readyB h T
  · rw [hr] at hR
    simp only [go_sem, Nat.reduceEqDiff, Nat.reduceAdd, Nat.reduceLT, Nat.reduceLeDiff, reduceIte, HEta, XSolid, XCells, WB35, WVH_eq hR, true_and, WB12, WVH_eq works_ok]
  rw [hr] at hR
  have hX : ¬((0 ≤ x.mi ∧ x.mi ≤ 10) ∧ (0 ≤ x.wd ∧ x.wd ≤ 20) ∧ (0 ≤ x.wk ∧ x.wk ≤ 9)) := fun hX => hb ⟨hr, hX⟩
  by_cases h0 : x.mi < 0
  · have b1 := decide_eq_true h0
    simp only [go_sem, Nat.reduceEqDiff, Nat.reduceAdd, Nat.reduceLT, Nat.reduceLeDiff, reduceIte, HEta, XSolid, XCells, WB35, WVH_eq hR, true_and, b1, WB12, WVH_eq works_ok]
  have b1 := decide_eq_false h0
  by_cases h1 : 10 < x.mi
  · have b2 := decide_eq_true h1
    simp only [go_sem, Nat.reduceEqDiff, Nat.reduceAdd, Nat.reduceLT, Nat.reduceLeDiff, reduceIte, HEta, XSolid, XCells, WB35, WVH_eq hR, true_and, b1, b2, WB12, WVH_eq works_ok]
  have b2 := decide_eq_false h1
  by_cases h2 : x.wd < 0
  · have b3 := decide_eq_true h2
    simp only [go_sem, Nat.reduceEqDiff, Nat.reduceAdd, Nat.reduceLT, Nat.reduceLeDiff, reduceIte, HEta, XSolid, XCells, WB35, WVH_eq hR, true_and, b1, b2, b3, WB12, WVH_eq works_ok]
  have b3 := decide_eq_false h2
  by_cases h3 : 20 < x.wd
  · have b4 := decide_eq_true h3
    simp only [go_sem, Nat.reduceEqDiff, Nat.reduceAdd, Nat.reduceLT, Nat.reduceLeDiff, reduceIte, HEta, XSolid, XCells, WB35, WVH_eq hR, true_and, b1, b2, b3, b4, WB12, WVH_eq works_ok]
  have b4 := decide_eq_false h3
  by_cases h4 : x.wk < 0
  · have b5 := decide_eq_true h4
    simp only [go_sem, Nat.reduceEqDiff, Nat.reduceAdd, Nat.reduceLT, Nat.reduceLeDiff, reduceIte, HEta, XSolid, XCells, WB35, WVH_eq hR, true_and, b1, b2, b3, b4, b5, WB12, WVH_eq works_ok]
  have b5 := decide_eq_false h4
  by_cases h5 : 9 < x.wk
  · have b6 := decide_eq_true h5
    simp only [go_sem, Nat.reduceEqDiff, Nat.reduceAdd, Nat.reduceLT, Nat.reduceLeDiff, reduceIte, HEta, XSolid, XCells, WB35, WVH_eq hR, true_and, b1, b2, b3, b4, b5, b6, WB12, WVH_eq works_ok]
  exact absurd ⟨⟨by omega, by omega⟩, ⟨by omega, by omega⟩, by omega, by omega⟩ hX
end Go.Ab.T
end

section
namespace Go.Ab.T
set_option maxRecDepth 8000
set_option maxHeartbeats 1000000
theorem apA (bl : List Blk) (a : Pas) : appendAt ⟨bl, []⟩ false (.sl [] .tight) (.sl [encP a] .tight) 52 4 32 = some (.sl [encP a] (.at 0), ⟨bl, [(1, 52)]⟩) := by
  obtain ⟨v3, tk3, a1, a2⟩ := (AccT_nil [] 52).app (y := encP a) (sz := 4) (by' := 32) (es := []) (fun e he => absurd he (List.not_mem_nil)) rfl (by unfold limit; simp) .tight
  rw [a1]
  rcases a2 with ⟨h, _⟩ | ⟨_, rfl, rfl⟩
  · cases h
  · rfl
theorem apB {bl : List Blk} {tk : List (Nat × Nat)} {id : Nat} {l : List Pas} (a : Pas) (hl : l.length ≤ 100) (hb : bl[id]? = some (.live (l.map encP) 4)) : appendAt ⟨bl, tk⟩ false (.ref id 0 l.length) (.sl [encP a] .tight) 52 4 32 = some (.ref bl.length 0 (l.length + 1), ⟨bl.set id .dead ++ [.live ((l ++ [a]).map encP) 4], tk⟩) := by
  have h1 : hdSz [encP a] 4 = true := rfl
  simp only [appendAt, Mem.elems, hb, h1, List.length_map, List.length_cons, List.length_nil]
  rw [if_neg (by decide), if_neg (by decide), if_neg (by omega), if_pos (by unfold limit; exact ⟨⟨by first | trivial | rfl, by first | trivial | rfl⟩, by omega⟩), List.map_append]
  rfl
def widQ (x : Mr) (q : Pas) : Pas := ⟨q.fr, q.to, min 20 (q.wd + x.wd), max 1 (q.wk - x.wk)⟩
theorem wider_of {h : Ho} (i : Nat) (q : Pas) (t : List Pas) (hq : i < h.s.length → q.fr = (pq h i).fr ∧ q.to = (pq h i).to ∧ (pq h i).wd ≤ q.wd ∧ q.wk ≤ (pq h i).wk) : Wider h ⟨h.p, h.s.set i q ++ t⟩ := by
  refine ⟨rfl, by simp, fun k hk => ?_⟩
  have e : pq ⟨h.p, h.s.set i q ++ t⟩ k = if i = k then q else pq h k := by
    unfold pq
    dsimp only
    rw [List.getElem?_append_left (by simpa using hk), List.getElem?_set]
    by_cases hik : i = k
    · subst hik; simp [hk]
    · simp [hik]
  rw [e]
  split
  · next e => subst e; exact hq hk
  · exact ⟨rfl, rfl, Int.le_refl _, Int.le_refl _⟩
theorem hsnP (M : Mem) (p' : List Int) (s' : List Pas) (n m : Nat) (hn : n = p'.length) (hm : m = s'.length) : AV.agg [snEs M 10 (if 0 + n ≤ (p'.map I64).length then some (List.take n (p'.map I64)) else none), snEs M 10 (if 0 + m ≤ (s'.map encP).length then some (List.take m (s'.map encP)) else none)] = encH ⟨p', s'⟩ := by
  subst hn hm
  rw [if_pos (by simp), if_pos (by simp), List.take_of_length_le (l := p'.map I64) (by simp), List.take_of_length_le (l := s'.map encP) (by simp)]
  simp only [snEs, snI10 _ 9, snP10 _ 8]
  rfl
theorem hsnN (M : Mem) (p' : List Int) (s' : List Pas) (n : Nat) (hn : n = p'.length) : AV.agg [snEs M 10 (if 0 + n ≤ (p'.map I64).length then some (List.take n (p'.map I64)) else none), .sl (s'.map encP) .unk] = encH ⟨p', s'⟩ := by
  subst hn
  rw [if_pos (by simp), List.take_of_length_le (l := p'.map I64) (by simp)]
  simp only [snEs, snI10 _ 9]
  rfl
theorem sh2A (n q a : Nat) : Ab.shift n q 12 (.agg [.ref 2 0 a, .sl [] .tight]) = .agg [.ref (n + 2) 0 a, .sl [] .tight] := rfl
theorem sh2B (n q a b : Nat) : Ab.shift n q 12 (.agg [.ref 2 0 a, .ref 3 0 b]) = .agg [.ref (n + 2) 0 a, .ref (n + 3) 0 b] := rfl
theorem More_g {h g : Ho} {T n : Int} (hV : HV h) (hW : Wider h g) (hT0 : 0 ≤ T) (hT10 : T ≤ 10) (m1 : IsM h T n) :
    RV ft 35 [encH g, I64 T] (.bool false) ∨ (∃ k a c, RV ft 35 [encH g, I64 T] (.bool true) ∧ RV ft 21 [encH g, I64 T] (.tup [I64 k, I64 0]) ∧ decide (k < n) = false ∧ RV ft 29 [encH h] (.tup [I64 a, I64 0]) ∧ RV ft 29 [encH g] (.tup [I64 c, I64 0]) ∧ decide (a < c) = false) ∨
      (∃ k a c d, RV ft 35 [encH g, I64 T] (.bool true) ∧ RV ft 21 [encH g, I64 T] (.tup [I64 k, I64 0]) ∧ decide (k < n) = false ∧ RV ft 29 [encH h] (.tup [I64 a, I64 3]) ∧ RV ft 29 [encH g] (.tup [I64 c, I64 d])) := by
  have hRg := ready_ok g T
  cases hrg : readyB g T <;> rw [hrg] at hRg
  · exact .inl hRg
  · obtain ⟨hVg, _, _, _, _, _⟩ := ready_iff'.1 hrg
    obtain ⟨k2, g1, g2⟩ := Most_ok hVg hT0 (show T ≤ 60 by omega)
    have dk : decide (k2 < n) = false := decide_eq_false (by have := hW.M hV hVg m1 g1; omega)
    obtain ⟨ea, eb, ec, ed, ee1, ee2, ee3⟩ := hW.Empty hV hVg
    rcases ee3 with ⟨rfl, rfl, hle⟩ | rfl
    · exact .inr (.inl ⟨_, _, _, hRg, g2, dk, ee1, ee2, decide_eq_false (by omega)⟩)
    · exact .inr (.inr ⟨_, _, _, _, hRg, g2, dk, ee1, ee2⟩)
theorem More_b {h : Ho} {T n : Int} (hT0 : 0 ≤ T) (hT10 : T ≤ 10) (m1 : IsM h T n) {r : Nat} (hr : r < h.p.length) :
    RV ft 35 [encH (oneH h r), I64 T] (.bool false) ∨ (RV ft 35 [encH (oneH h r), I64 T] (.bool true) ∧ RV ft 21 [encH (oneH h r), I64 T] (.tup [I64 n, I64 0])) ∨ (RV ft 35 [encH (oneH h r), I64 T] (.bool true) ∧ RV ft 21 [encH (oneH h r), I64 T] (.tup [I64 (n + 1), I64 0])) := by
  have hRb := ready_ok (oneH h r) T
  cases hrb : readyB (oneH h r) T <;> rw [hrb] at hRb
  · exact .inl hRb
  · obtain ⟨hVb, _, _, _, _, _⟩ := ready_iff'.1 hrb
    obtain ⟨k, g1, g2⟩ := Most_ok hVb hT0 (show T ≤ 60 by omega)
    have := one_M hr m1 g1
    rcases (show k = n ∨ k = n + 1 by omega) with rfl | rfl
    · exact .inr (.inl ⟨hRb, g2⟩)
    · exact .inr (.inr ⟨hRb, g2⟩)
theorem IsM.nn {h : Ho} (hV : HV h) {T n : Int} (m1 : IsM h T n) : 0 ≤ n := by
  obtain ⟨H, a, b⟩ := m1.is
  rw [← b]
  unfold Go.Ab.T.bnd
  refine Int.add_nonneg (sumR_nn fun r hr => ?_) (sumR_nn fun i hi => sumR_nn fun m hm => ?_)
  · have := hV.pe _ (List.mem_of_getElem? (pp_get hr))
    split <;> omega
  · have := (hV.sv _ (pq_mem hi)).w0
    split <;> omega
end Go.Ab.T
end
