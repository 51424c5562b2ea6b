/-
  A part of the proofs over this seat.
  (The texts KrK15, one behind the other.)
-/
import Derived.Test.YtnkdfekbifcglaaP11
set_option linter.unusedSimpArgs false
set_option linter.unusedVariables false
set_option linter.unusedSectionVars false
section
namespace Go.Ab.T
set_option maxRecDepth 8000
set_option maxHeartbeats 1000000
theorem app0Pn (m : Mem) : append0 m (.sl [] .tight) (encPs []) 4 32 = some (.sl [] .tight, m) := by
  simp only [append0, encPs, Mem.elems, List.map_nil]
  rw [if_neg (fun h => h.2 rfl), if_pos trivial]
theorem Copy_W {h : Ho} (hp : h.p ≠ []) (hl : h.p.length ≤ 40) (hs : h.s.length ≤ 40) {K : AV → Mem → Prop}
    (hA : h.s = [] → K (.agg [.ref 2 0 h.p.length, .sl [] .tight]) ⟨[.live [encH h] 2, .live [.agg [.ref 2 0 h.p.length, .sl [] .tight]] 2, .live (h.p.map I64) 1], []⟩)
    (hB : h.s ≠ [] → K (.agg [.ref 2 0 h.p.length, .ref 3 0 h.s.length]) ⟨[.live [encH h] 2, .live [.agg [.ref 2 0 h.p.length, .ref 3 0 h.s.length]] 2, .live (h.p.map I64) 1, .live (h.s.map encP) 4], []⟩) : WR ft (.f 13) [encH h] .nil K := by
  rw [WR_f ft13 rfl]
  simp only [c13, r13]
  have ha := fun m => app0I m h.p (by omega) hp
  simp only [go_sem, Nat.reduceEqDiff, Nat.reduceAdd, Nat.reduceLT, Nat.reduceLeDiff, reduceIte, ha]
  by_cases he : h.s = []
  · have hb := app0Pn
    rw [← he] at hb
    simp only [go_sem, Nat.reduceEqDiff, Nat.reduceAdd, Nat.reduceLT, Nat.reduceLeDiff, reduceIte, hb]
    exact hA he
  · have hb := fun m => app0P m h.s (by omega) he
    simp only [go_sem, Nat.reduceEqDiff, Nat.reduceAdd, Nat.reduceLT, Nat.reduceLeDiff, reduceIte, hb]
    exact hB he
def sc {α : Type} (f : α → α) : Nat → List α → List α
  | 0, l => l
  | _ + 1, [] => []
  | i + 1, x :: r => f x :: sc f i r
theorem sc_len {α : Type} (f : α → α) : ∀ (i : Nat) (l : List α), (sc f i l).length = l.length
  | 0, l => rfl
  | _ + 1, [] => rfl
  | i + 1, x :: r => congrArg (· + 1) (sc_len f i r)
theorem sc_get {α : Type} (f : α → α) : ∀ (i : Nat) (l : List α), (sc f i l)[i]? = l[i]?
  | 0, l => rfl
  | _ + 1, [] => rfl
  | i + 1, x :: r => by simpa [sc] using sc_get f i r
theorem sc_set {α : Type} (f : α → α) {x : α} : ∀ (i : Nat) (l : List α), l[i]? = some x → (sc f i l).set i (f x) = sc f (i + 1) l
  | 0, [], h => by simp at h
  | 0, y :: r, h => by simp at h; subst h; rfl
  | _ + 1, [], h => by simp at h
  | i + 1, y :: r, h => by simpa [sc] using sc_set f i r (by simpa using h)
theorem sc_all {α : Type} (f : α → α) : ∀ l : List α, sc f l.length l = l.map f
  | [] => rfl
  | x :: r => by simp [sc, sc_all f r]
theorem sc_setM {α : Type} (e : α → AV) (f : α → α) {x : α} {i : Nat} {l : List α} (h : l[i]? = some x) : ((sc f i l).map e).set i (e (f x)) = (sc f (i + 1) l).map e := by rw [← sc_set f i l h, List.map_set]
theorem sc_getM {α : Type} (e : α → AV) (f : α → α) {x : α} {i : Nat} {l : List α} (h : l[i]? = some x) : ((sc f i l).map e)[i]? = some (e x) := by rw [List.getElem?_map, sc_get, h]; rfl
def wideP (k : Int) (q : Pas) : Pas := { q with wd := q.wd * k }
def manyH (k : Int) (h : Ho) : Ho := ⟨h.p.map (· * k), h.s.map (wideP k)⟩
theorem sumR_mulR (n : Nat) (f : Nat → Int) (k : Int) : (sumR n fun i => f i * k) = sumR n f * k := by
  induction n with
  | zero => simp [sumR]
  | succ n ih => simp only [sumR]; rw [ih, Int.add_mul]
theorem many_pp (h : Ho) (k : Int) (r : Nat) : pp (manyH k h) r = pp h r * k := by
  unfold pp manyH; dsimp only; rw [List.getElem?_map]; cases h.p[r]? <;> simp
theorem many_pq {h : Ho} (k : Int) {i : Nat} (hi : i < h.s.length) : pq (manyH k h) i = wideP k (pq h i) := by
  have := pq_get hi
  unfold pq at this ⊢
  unfold manyH
  dsimp only
  rw [List.getElem?_map, this]; rfl
theorem many_pl (h : Ho) (k : Int) : (manyH k h).p.length = h.p.length := by unfold manyH; simp
theorem many_sl (h : Ho) (k : Int) : (manyH k h).s.length = h.s.length := by unfold manyH; simp
theorem many_all (h : Ho) (k : Int) : allP (manyH k h) = allP h * k := by
  unfold allP manyH
  dsimp only
  induction h.p with
  | nil => simp
  | cons a r ih => simp only [List.map_cons, List.sum_cons, ih, Int.add_mul]
theorem many_bnd (h : Ho) (k T : Int) (H : Nat → Int) : bnd (manyH k h) T H = bnd h T H * k := by
  unfold bnd
  rw [many_pl, many_sl, Int.add_mul, ← sumR_mulR, ← sumR_mulR]
  congr 1
  · refine sumR_congr fun r hr => ?_
    rw [many_pp]
    split <;> simp
  · refine sumR_congr fun i hi => ?_
    rw [← sumR_mulR]
    have e1 : nM T (pq (manyH k h) i) = nM T (pq h i) := by rw [many_pq k hi]; rfl
    rw [e1]
    refine sumR_congr fun m hm => ?_
    have e2 : crB (manyH k h) H i m = crB h H i m := by unfold crB; rw [many_pq k hi]; rfl
    rw [e2, many_pq k hi]
    split
    · rfl
    · simp
theorem many_hr (h : Ho) (k T : Int) (H : Nat → Int) : HrOK (manyH k h) T H ↔ HrOK h T H := by unfold HrOK; rw [many_pl]
theorem many_M {h : Ho} {k T n : Int} (hk : 1 ≤ k) (hm : IsM h T n) : IsM (manyH k h) T (n * k) := by
  obtain ⟨H, a, b⟩ := hm.is
  refine ⟨⟨H, (many_hr h k T H).2 a, by rw [many_bnd, b]⟩, fun H' hH' => ?_⟩
  rw [many_bnd]
  exact Int.mul_le_mul_of_nonneg_right (hm.le H' ((many_hr h k T H').1 hH')) (by omega)
theorem many_E {h : Ho} {k T : Int} (hk : 1 ≤ k) : canE (manyH k h) T ↔ canE h T := by
  unfold canE
  constructor
  · intro hc H hH
    have := hc H ((many_hr h k T H).2 hH)
    rw [many_bnd, many_all] at this
    exact Int.le_of_mul_le_mul_right this (by omega)
  · intro hc H hH
    have := hc H ((many_hr h k T H).1 hH)
    rw [many_bnd, many_all]
    exact Int.mul_le_mul_of_nonneg_right this (by omega)
theorem many_IsE {h : Ho} {k : Int} (hk : 1 ≤ k) {m : Nat} (hm : IsE h m) : IsE (manyH k h) m := ⟨hm.le, (many_E hk).2 hm.yes, fun j hj hc => hm.no j hj ((many_E hk).1 hc)⟩
/-- The answers to the people and widths so many times. -/
theorem many_Empty {h : Ho} (hV : HV h) {k : Int} (hk : 1 ≤ k) (hVg : HV (manyH k h)) : ∃ a b : Int, RV ft 29 [encH h] (.tup [I64 a, I64 b]) ∧ RV ft 29 [encH (manyH k h)] (.tup [I64 a, I64 b]) := by
  rcases Empty_ok hV with ⟨m, hm, h2⟩ | ⟨hn, h2⟩ <;> rcases Empty_ok hVg with ⟨m', hm', h3⟩ | ⟨hn', h3⟩
  · obtain rfl := (many_IsE hk hm).uniq hm'
    exact ⟨_, _, h2, h3⟩
  · exact absurd ((many_E hk).2 (canE_mono hV (by omega) (by have := hm.le; omega) hm.yes)) hn'
  · exact absurd ((many_E hk).1 (canE_mono hVg (by omega) (by have := hm'.le; omega) hm'.yes)) hn
  · exact ⟨_, _, h2, h3⟩
theorem Times_ok (h : Ho) (T k : Int) : RV ft 10 [encH h, I64 T, I64 k] (.bool true) := by
  refine RV_of ft10 rfl ?_
  simp only [c10, r10]
  have hR := ready_ok h T
  cases hr : readyB h T
  · rw [hr] at hR
    simp only [go_sem, Nat.reduceEqDiff, Nat.reduceAdd, Nat.reduceLT, Nat.reduceLeDiff, reduceIte, HEta, WB35, WVH_eq hR, true_and, WB12, WVH_eq works_ok]
  rw [hr] at hR
  by_cases h0 : k < 1
  · have d0 : decide (k < 1) = true := decide_eq_true h0
    simp only [go_sem, Nat.reduceEqDiff, Nat.reduceAdd, Nat.reduceLT, Nat.reduceLeDiff, reduceIte, HEta, WB35, WVH_eq hR, true_and, WB12, WVH_eq works_ok, d0]
  have d0 : decide (k < 1) = false := decide_eq_false h0
  by_cases h1 : 4 < k
  · have d1 : decide (4 < k) = true := decide_eq_true h1
    simp only [go_sem, Nat.reduceEqDiff, Nat.reduceAdd, Nat.reduceLT, Nat.reduceLeDiff, reduceIte, HEta, WB35, WVH_eq hR, true_and, WB12, WVH_eq works_ok, d0, d1, HCells]
  have d1 : decide (4 < k) = false := decide_eq_false h1
  obtain ⟨hV, n3, s5, a12, hT0, hT10⟩ := ready_iff'.1 hr
  have hc := refCheck_ok (manyH k h) (by rw [many_pl]; omega) (by rw [many_sl]; omega)
  unfold chkV at hc
  obtain ⟨n, m1, m2⟩ := Most_ok hV hT0 (show T ≤ 60 by omega)
  have hnb := m1.le_all hV hT0
  have hmul : ∀ x : Int, 0 ≤ x → x ≤ 99 → IntKind.i64.wrap (x * k) = x * k := fun x h2 h3 => by
    have : k = 1 ∨ k = 2 ∨ k = 3 ∨ k = 4 := by omega
    rcases this with rfl | rfl | rfl | rfl <;> exact wrap_i64 _ (by omega) (by omega)
  have hn0 : 0 ≤ n := by
    obtain ⟨H, a, b⟩ := m1.is
    rw [← b]
    unfold bnd
    refine Int.add_nonneg (sumR_nn fun r hr => ?_) (sumR_nn fun i hi => sumR_nn fun m hm => ?_)
    · have := hV.pe _ (List.mem_of_getElem? (pp_get hr))
      split <;> omega
    · have := (hV.sv _ (pq_mem hi)).w0
      split <;> omega
  have hkn : IntKind.i64.wrap (k * n) = n * k := by rw [Int.mul_comm, hmul n hn0 (by omega)]
  simp only [go_sem, Nat.reduceEqDiff, Nat.reduceAdd, Nat.reduceLT, Nat.reduceLeDiff, reduceIte, HEta, WB35, WVH_eq hR, true_and, WB12, WVH_eq works_ok, d0, d1, HCells, WB13]
  refine Copy_W hV.pne (by omega) (by omega) (fun he => ?_) fun he => ?_
  · have hsh : Ab.shift 1 0 12 (.agg [.ref 2 0 h.p.length, .sl [] .tight]) = .agg [.ref 3 0 h.p.length, .sl [] .tight] := rfl
    have hag : AV.solids (.agg [.ref 3 0 h.p.length, .sl [] .tight]) = true := rfl
    obtain ⟨X1, hX1⟩ : ∃ X, X = shiftB 1 0 12 (.live [encH h] 2) := ⟨_, rfl⟩
    obtain ⟨X2, hX2⟩ : ∃ X, X = shiftB 1 0 12 (.live [.agg [.ref 2 0 h.p.length, .sl [] .tight]] 2) := ⟨_, rfl⟩
    simp only [go_sem, Nat.reduceEqDiff, Nat.reduceAdd, Nat.reduceLT, Nat.reduceLeDiff, reduceIte, joinMem, shI, shP, shR, hsh, ← hX1, ← hX2]
    refine ⟨trivial, ?_⟩
    refine WL_inv (α := Nat) (fun i e mm => e 1 = I64 T ∧ e 2 = I64 k ∧ e 3 = .ptr 0 0 0 ∧ e 7 = .ptr 4 0 0 ∧ e 8 = I64 i ∧ i ≤ h.p.length ∧ mm = ⟨[.live [encH h] 2, X1, X2, .live ((sc (· * k) i h.p).map I64) 1, .live [.agg [.ref 3 0 h.p.length, .sl [] .tight]] 2], []⟩) (fun i => h.p.length - i) 0 ?_ ?_
    · simp only [go_sem, Nat.reduceEqDiff, Nat.reduceAdd, Nat.reduceLT, Nat.reduceLeDiff, reduceIte]
      ((repeat' apply And.intro) <;> first | trivial | rfl | assumption | omega | (rfl) | (exact Nat.zero_le _))
    rintro i e mm ⟨g1, g2, g3, g7, g8, hi, rfl⟩
    by_cases hlt : i < h.p.length
    · obtain ⟨x, hx⟩ : ∃ x, h.p[i]? = some x := ⟨_, List.getElem?_eq_getElem hlt⟩
      have hxb := hV.pe x (List.mem_of_getElem? hx)
      have d : decide ((0 ≤ (i : Int) ∧ (i : Int) < (h.p.length : Int)) ∧ True) = true := decide_eq_true ⟨by omega, trivial⟩
      have hg := sc_getM I64 (· * k) hx
      have hs := sc_setM I64 (· * k) hx
      have e0 : 0 + (i : Int).toNat = i := by omega
      have hm := hmul x hxb.1 hxb.2
      simp only [go_sem, Nat.reduceEqDiff, Nat.reduceAdd, Nat.reduceLT, Nat.reduceLeDiff, reduceIte, g1, g2, g3, g7, g8, dec_lt hlt, d, e0, hg, hm, hs, wrap_n1 i (by omega)]
      refine Nx_of (i + 1) (by show h.p.length - (i + 1) < h.p.length - i; omega) ?_
      simp only [go_sem, Nat.reduceEqDiff, Nat.reduceAdd, Nat.reduceLT, Nat.reduceLeDiff, reduceIte, g1, g2, g3, g7]
      ((repeat' apply And.intro) <;> first | trivial | rfl | assumption | omega | (exact hlt))
    have hie : i = h.p.length := by omega
    subst hie
    rw [sc_all]
    simp only [go_sem, Nat.reduceEqDiff, Nat.reduceAdd, Nat.reduceLT, Nat.reduceLeDiff, reduceIte, g1, g2, g3, g7, g8, dec_ge (Nat.le_refl h.p.length)]
    refine WL_inv (α := Nat) (fun i e mm => e 1 = I64 T ∧ e 2 = I64 k ∧ e 3 = .ptr 0 0 0 ∧ e 7 = .ptr 4 0 0 ∧ e 9 = I64 0 ∧ mm = ⟨[.live [encH h] 2, X1, X2, .live ((h.p.map (· * k)).map I64) 1, .live [.agg [.ref 3 0 h.p.length, .sl [] .tight]] 2], []⟩) (fun i => 0) 0 ?_ ?_
    · simp only [go_sem, Nat.reduceEqDiff, Nat.reduceAdd, Nat.reduceLT, Nat.reduceLeDiff, reduceIte, g1, g2, g3, g7]
    rintro i2 e mm ⟨f1, f2, f3, f7, f9, rfl⟩
    simp only [go_sem, Nat.reduceEqDiff, Nat.reduceAdd, Nat.reduceLT, Nat.reduceLeDiff, reduceIte, f1, f2, f3, f7, f9, show decide ((0 : Int) < ((0 : Nat) : Int)) = false from rfl]
    have hsn : ∀ tk, AV.agg [snEs ⟨[.live [encH h] 2, X1, X2, .live ((h.p.map (· * k)).map I64) 1, .live [.agg [.ref 3 0 h.p.length, .sl [] .tight]] 2], tk⟩ 10 (if 0 + h.p.length ≤ ((h.p.map (· * k)).map I64).length then some (List.take h.p.length ((h.p.map (· * k)).map I64)) else none), AV.sl [] Tk.unk] = encH (manyH k h) := fun tk => by
      rw [if_pos (by simp)]
      have l1 : List.take h.p.length ((h.p.map (· * k)).map I64) = (h.p.map (· * k)).map I64 := List.take_of_length_le (by simp)
      rw [l1]
      simp only [snEs, snI10 _ 9]
      unfold manyH; rw [he]; rfl
    cases hv : vHo (manyH k h)
    · rw [hv] at hc
      simp only [Bool.false_eq_true, if_false] at hc
      simp only [go_sem, Nat.reduceEqDiff, Nat.reduceAdd, Nat.reduceLT, Nat.reduceLeDiff, reduceIte, f1, f2, f3, f7, hsn, WB15, WVH_eq hc, true_and, show ((110 : Int) != 0) = true from rfl, WB12, WVH_eq works_ok]
    rw [hv] at hc
    simp only [if_true] at hc
    have hVg := vHo_iff.1 hv
    obtain ⟨n', m3, m4⟩ := Most_ok hVg hT0 (show T ≤ 60 by omega)
    obtain rfl := (many_M (by omega) m1).uniq m3
    obtain ⟨a, b, e1, e2⟩ := many_Empty hV (show 1 ≤ k by omega) hVg
    simp only [go_sem, Nat.reduceEqDiff, Nat.reduceAdd, Nat.reduceLT, Nat.reduceLeDiff, reduceIte, f1, f2, f3, f7, hsn, HEta, WB15, WVH_eq hc, true_and, bne_self_eq_false, beq_self_eq_true, WB21, WVH_eq m2, WVH_eq m4, WB29, WVH_eq e1, WVH_eq e2, hkn, WB12, WVH_eq works_ok]
  · have hsh : Ab.shift 1 0 12 (.agg [.ref 2 0 h.p.length, .ref 3 0 h.s.length]) = .agg [.ref 3 0 h.p.length, .ref 4 0 h.s.length] := rfl
    have hag : AV.solids (.agg [.ref 3 0 h.p.length, .ref 4 0 h.s.length]) = true := rfl
    obtain ⟨X1, hX1⟩ : ∃ X, X = shiftB 1 0 12 (.live [encH h] 2) := ⟨_, rfl⟩
    obtain ⟨X2, hX2⟩ : ∃ X, X = shiftB 1 0 12 (.live [.agg [.ref 2 0 h.p.length, .ref 3 0 h.s.length]] 2) := ⟨_, rfl⟩
    simp only [go_sem, Nat.reduceEqDiff, Nat.reduceAdd, Nat.reduceLT, Nat.reduceLeDiff, reduceIte, joinMem, shI, shP, shR, hsh, ← hX1, ← hX2]
    refine ⟨trivial, ?_⟩
    refine WL_inv (α := Nat) (fun i e mm => e 1 = I64 T ∧ e 2 = I64 k ∧ e 3 = .ptr 0 0 0 ∧ e 7 = .ptr 5 0 0 ∧ e 8 = I64 i ∧ i ≤ h.p.length ∧ mm = ⟨[.live [encH h] 2, X1, X2, .live ((sc (· * k) i h.p).map I64) 1, .live ((h.s).map encP) 4, .live [.agg [.ref 3 0 h.p.length, .ref 4 0 h.s.length]] 2], []⟩) (fun i => h.p.length - i) 0 ?_ ?_
    · simp only [go_sem, Nat.reduceEqDiff, Nat.reduceAdd, Nat.reduceLT, Nat.reduceLeDiff, reduceIte]
      ((repeat' apply And.intro) <;> first | trivial | rfl | assumption | omega | (rfl) | (exact Nat.zero_le _))
    rintro i e mm ⟨g1, g2, g3, g7, g8, hi, rfl⟩
    by_cases hlt : i < h.p.length
    · obtain ⟨x, hx⟩ : ∃ x, h.p[i]? = some x := ⟨_, List.getElem?_eq_getElem hlt⟩
      have hxb := hV.pe x (List.mem_of_getElem? hx)
      have d : decide ((0 ≤ (i : Int) ∧ (i : Int) < (h.p.length : Int)) ∧ True) = true := decide_eq_true ⟨by omega, trivial⟩
      have hg := sc_getM I64 (· * k) hx
      have hs := sc_setM I64 (· * k) hx
      have e0 : 0 + (i : Int).toNat = i := by omega
      have hm := hmul x hxb.1 hxb.2
      simp only [go_sem, Nat.reduceEqDiff, Nat.reduceAdd, Nat.reduceLT, Nat.reduceLeDiff, reduceIte, g1, g2, g3, g7, g8, dec_lt hlt, d, e0, hg, hm, hs, wrap_n1 i (by omega)]
      refine Nx_of (i + 1) (by show h.p.length - (i + 1) < h.p.length - i; omega) ?_
      simp only [go_sem, Nat.reduceEqDiff, Nat.reduceAdd, Nat.reduceLT, Nat.reduceLeDiff, reduceIte, g1, g2, g3, g7]
      ((repeat' apply And.intro) <;> first | trivial | rfl | assumption | omega | (exact hlt))
    have hie : i = h.p.length := by omega
    subst hie
    rw [sc_all]
    simp only [go_sem, Nat.reduceEqDiff, Nat.reduceAdd, Nat.reduceLT, Nat.reduceLeDiff, reduceIte, g1, g2, g3, g7, g8, dec_ge (Nat.le_refl h.p.length)]
    refine WL_inv (α := Nat) (fun i e mm => e 1 = I64 T ∧ e 2 = I64 k ∧ e 3 = .ptr 0 0 0 ∧ e 7 = .ptr 5 0 0 ∧ e 9 = I64 i ∧ i ≤ h.s.length ∧ mm = ⟨[.live [encH h] 2, X1, X2, .live ((h.p.map (· * k)).map I64) 1, .live ((sc (wideP k) i h.s).map encP) 4, .live [.agg [.ref 3 0 h.p.length, .ref 4 0 h.s.length]] 2], []⟩) (fun i => h.s.length - i) 0 ?_ ?_
    · simp only [go_sem, Nat.reduceEqDiff, Nat.reduceAdd, Nat.reduceLT, Nat.reduceLeDiff, reduceIte, g1, g2, g3, g7]
      ((repeat' apply And.intro) <;> first | trivial | rfl | assumption | omega | (rfl) | (exact Nat.zero_le _))
    rintro i2 e mm ⟨f1, f2, f3, f7, f9, hi2, rfl⟩
    by_cases hlt : i2 < h.s.length
    · obtain ⟨x, hx⟩ : ∃ x, h.s[i2]? = some x := ⟨_, List.getElem?_eq_getElem hlt⟩
      have hxb := hV.sv x (List.mem_of_getElem? hx)
      have d : decide ((0 ≤ (i2 : Int) ∧ (i2 : Int) < (h.s.length : Int)) ∧ True) = true := decide_eq_true ⟨by omega, trivial⟩
      have hg := sc_getM encP (wideP k) hx
      have hs := sc_setM encP (wideP k) hx
      have e0 : 0 + (i2 : Int).toNat = i2 := by omega
      have hm := hmul x.wd hxb.w0 (by have := hxb.w1; omega)
      have w3 : writeCells (encP x) 2 [.int .i64 (x.wd * k)] = some (encP (wideP k x)) := rfl
      simp only [go_sem, Nat.reduceEqDiff, Nat.reduceAdd, Nat.reduceLT, Nat.reduceLeDiff, reduceIte, f1, f2, f3, f7, f9, dec_lt hlt, d, e0, hg, hm, PCells, w3, hs, wrap_n1 i2 (by omega)]
      refine Nx_of (i2 + 1) (by show h.s.length - (i2 + 1) < h.s.length - i2; omega) ?_
      simp only [go_sem, Nat.reduceEqDiff, Nat.reduceAdd, Nat.reduceLT, Nat.reduceLeDiff, reduceIte, f1, f2, f3, f7]
      ((repeat' apply And.intro) <;> first | trivial | rfl | assumption | omega | (exact hlt))
    have hie : i2 = h.s.length := by omega
    subst hie
    rw [sc_all]
    simp only [go_sem, Nat.reduceEqDiff, Nat.reduceAdd, Nat.reduceLT, Nat.reduceLeDiff, reduceIte, f1, f2, f3, f7, f9, dec_ge (Nat.le_refl h.s.length)]
    have hsn : ∀ tk, AV.agg [snEs ⟨[.live [encH h] 2, X1, X2, .live ((h.p.map (· * k)).map I64) 1, .live ((h.s.map (wideP k)).map encP) 4, .live [.agg [.ref 3 0 h.p.length, .ref 4 0 h.s.length]] 2], tk⟩ 10 (if 0 + h.p.length ≤ ((h.p.map (· * k)).map I64).length then some (List.take h.p.length ((h.p.map (· * k)).map I64)) else none), snEs ⟨[.live [encH h] 2, X1, X2, .live ((h.p.map (· * k)).map I64) 1, .live ((h.s.map (wideP k)).map encP) 4, .live [.agg [.ref 3 0 h.p.length, .ref 4 0 h.s.length]] 2], tk⟩ 10 (if 0 + h.s.length ≤ ((h.s.map (wideP k)).map encP).length then some (List.take h.s.length ((h.s.map (wideP k)).map encP)) else none)] = encH (manyH k h) := fun tk => by
      rw [if_pos (by simp), if_pos (by simp)]
      have l1 : List.take h.p.length ((h.p.map (· * k)).map I64) = (h.p.map (· * k)).map I64 := List.take_of_length_le (by simp)
      rw [l1]
      have l2 : List.take h.s.length ((h.s.map (wideP k)).map encP) = (h.s.map (wideP k)).map encP := List.take_of_length_le (by simp)
      rw [l2]
      simp only [snEs, snI10 _ 9, snP10 _ 8]
      rfl
    cases hv : vHo (manyH k h)
    · rw [hv] at hc
      simp only [Bool.false_eq_true, if_false] at hc
      simp only [go_sem, Nat.reduceEqDiff, Nat.reduceAdd, Nat.reduceLT, Nat.reduceLeDiff, reduceIte, f1, f2, f3, f7, hsn, WB15, WVH_eq hc, true_and, show ((110 : Int) != 0) = true from rfl, WB12, WVH_eq works_ok]
    rw [hv] at hc
    simp only [if_true] at hc
    have hVg := vHo_iff.1 hv
    obtain ⟨n', m3, m4⟩ := Most_ok hVg hT0 (show T ≤ 60 by omega)
    obtain rfl := (many_M (by omega) m1).uniq m3
    obtain ⟨a, b, e1, e2⟩ := many_Empty hV (show 1 ≤ k by omega) hVg
    simp only [go_sem, Nat.reduceEqDiff, Nat.reduceAdd, Nat.reduceLT, Nat.reduceLeDiff, reduceIte, f1, f2, f3, f7, hsn, HEta, WB15, WVH_eq hc, true_and, bne_self_eq_false, beq_self_eq_true, WB21, WVH_eq m2, WVH_eq m4, WB29, WVH_eq e1, WVH_eq e2, hkn, WB12, WVH_eq works_ok]
end Go.Ab.T
end
