/-
  A part of the proofs over this seat.
  (The texts KcK21, one behind the other.)
-/
import Derived.Test.YtaenhjnmmdaokaaP9
set_option linter.unusedSimpArgs false
set_option linter.unusedVariables false
set_option linter.unusedSectionVars false
section
namespace Go.Ab.T
set_option maxRecDepth 8000
set_option maxHeartbeats 4000000
/-! ### Seats that nobody sat on; the evening's own tickets; copies -/
def absA : List Int → List Int → List Int → Option (List Int)
  | a, y :: q, x :: r => if y < x then none else absA (a ++ [y - x]) q r
  | a, _, _ => some a
def absV (v : Ev) : List Int × Int := if evOK v = true then (match absA [] v.se v.st with | some l => (l, 0) | none => ([], 3)) else ([], 100)
theorem absA_len : ∀ (q r a : List Int) (l : List Int), absA a q r = some l → l.length ≤ a.length + q.length := by
  intro q
  induction q with
  | nil => intro r a l h; simp only [absA, Option.some.injEq] at h; rw [← h]; simp
  | cons y q ih =>
    intro r a l h
    cases r with
    | nil => simp only [absA, Option.some.injEq] at h; rw [← h]; simp
    | cons x r =>
      simp only [absA] at h
      split at h
      · cases h
      · have := ih r _ l h
        simp only [List.length_append, List.length_cons, List.length_nil] at this ⊢
        omega
theorem Absent_ok {v : Ev} (hS : SE v) : RV ft 33 [encE v] (.tup [encIs (absV v).1, I64 (absV v).2]) := by
  refine RV_of ft33 rfl ?_
  simp only [c33, r33]
  have hc := Check_ok v hS
  unfold errE at hc
  unfold absV
  by_cases hv : evOK v = true
  rotate_left
  · rw [if_neg hv] at hc ⊢
    simp only [go_sem, Nat.reduceEqDiff, Nat.reduceAdd, Nat.reduceLT, Nat.reduceLeDiff, reduceIte, WB31, WVH_eq hc, true_and, show ((100 : Int) != 0) = true from rfl]
    rfl
  rw [if_pos hv] at hc ⊢
  have h := EV4_of.1 hv
  have hsl := h.sl
  have htl := h.tl
  have hk3 := h.k3
  simp only [go_sem, Nat.reduceEqDiff, Nat.reduceAdd, Nat.reduceLT, Nat.reduceLeDiff, reduceIte, WB31, WVH_eq hc, true_and, bne_self_eq_false, ECells]
  refine WL_inv (α := Nat × List Int × List Int × List Int × AV) (fun q e mm => e 1 = .ptr 0 0 0 ∧ e 5 = q.2.2.2.2 ∧ e 14 = encIs v.se ∧ e 15 = I64 v.se.length ∧ e 16 = I64 q.1 ∧ v.se.drop q.1 = q.2.1 ∧ v.st.drop q.1 = q.2.2.1 ∧ absA q.2.2.2.1 q.2.1 q.2.2.1 = absA [] v.se v.st ∧ q.2.2.2.1.length ≤ q.1 ∧
    ∃ toks, AppV 3 (q.2.2.2.1.map I64) q.2.2.2.2 toks ∧ mm = ⟨[.live [encE v] 4], toks⟩) (fun q => q.2.1.length) (0, v.se, v.st, [], .sl [] .tight) ?_ ?_
  · simp only [go_sem, Nat.reduceEqDiff, Nat.reduceAdd, Nat.reduceLT, Nat.reduceLeDiff, reduceIte]
    exact ⟨by first | trivial | rfl, by first | trivial | rfl, by first | trivial | rfl, by first | trivial | rfl, by first | trivial | rfl, by first | trivial | rfl, by first | trivial | rfl, by first | trivial | rfl, by first | trivial | exact Nat.zero_le _, [], .inl ⟨rfl, rfl⟩, by first | trivial | rfl⟩
  rintro ⟨k, q, r, D, A⟩ e m ⟨g1, g5, g14, g15, g16, hd, hd', hq, hDk, toks, hA, rfl⟩
  dsimp only at g5 g16 hd hd' hq hDk hA
  cases q with
  | nil =>
    have h3 := drop_nil hd
    simp only [absA] at hq
    obtain ⟨tk', rfl⟩ := hA.sl
    rw [← hq]
    simp only [go_sem, Nat.reduceEqDiff, Nat.reduceAdd, Nat.reduceLT, Nat.reduceLeDiff, reduceIte, g1, g5, g14, g15, g16, dec_ge h3]
    show AV.tup [.sl ((D.map I64).map (snap _ 10)) .unk, I64 0] = _
    rw [List.map_map, show snap _ 10 ∘ I64 = I64 from funext fun _ => rfl]
    rfl
  | cons y q =>
    obtain ⟨hk, hd2, hlt⟩ := drop_cons hd
    obtain ⟨x, r', rfl⟩ : ∃ x r', r = x :: r' := by
      cases r with
      | nil => have := drop_nil hd'; omega
      | cons x r' => exact ⟨x, r', rfl⟩
    obtain ⟨hk', hd3, _⟩ := drop_cons hd'
    have hy := h.se y (List.mem_of_getElem? hk)
    have hx := h.st x (List.mem_of_getElem? hk')
    simp only [absA] at hq
    by_cases hxy : y < x
    · rw [if_pos hxy] at hq
      rw [← hq]
      simp only [go_sem, Nat.reduceEqDiff, Nat.reduceAdd, Nat.reduceLT, Nat.reduceLeDiff, reduceIte, g1, g5, g14, g15, g16, dec_lt hlt, Is_idx hk, Is_idx hk', ECells, decide_eq_true hxy]
      rfl
    · rw [if_neg hxy] at hq
      simp only [go_sem, Nat.reduceEqDiff, Nat.reduceAdd, Nat.reduceLT, Nat.reduceLeDiff, reduceIte, g1, g5, g14, g15, g16, dec_lt hlt, Is_idx hk, Is_idx hk', ECells, decide_eq_false hxy, wrap_i64 (y - x) (by omega) (by omega)]
      refine hA.app (y := I64 (y - x)) (cellsIs D) rfl (by rw [List.length_map]; unfold limit; omega) fun A' toks' hA' _ => ?_
      simp only [go_sem, Nat.reduceEqDiff, Nat.reduceAdd, Nat.reduceLT, Nat.reduceLeDiff, reduceIte, g1, g5, g14, g15, g16, wrap_n1 k (by omega)]
      refine Nx_of (k + 1, q, r', D ++ [y - x], A') (by simp) ?_
      simp only [go_sem, Nat.reduceEqDiff, Nat.reduceAdd, Nat.reduceLT, Nat.reduceLeDiff, reduceIte, g1, g14, g15]
      exact ⟨by first | trivial | rfl, by first | trivial | rfl, by first | trivial | rfl, by first | trivial | rfl, by first | trivial | rfl, hd2, hd3, hq, by rw [List.length_append]; simp; omega, toks', by rw [List.map_append]; exact hA', by first | trivial | rfl⟩
theorem AbsentR_ok {v : Ev} (hS : SE v) : RV ft 34 [encE v] (.tup [encIs (absV v).1, I64 (absV v).2]) := by
  refine RV_of ft34 rfl ?_
  simp only [c34, r34]
  have hc := CheckR_ok v hS
  unfold errE at hc
  unfold absV
  by_cases hv : evOK v = true
  rotate_left
  · rw [if_neg hv] at hc ⊢
    simp only [go_sem, Nat.reduceEqDiff, Nat.reduceAdd, Nat.reduceLT, Nat.reduceLeDiff, reduceIte, WB29, WVH_eq hc, true_and, show ((100 : Int) != 0) = true from rfl]
    rfl
  rw [if_pos hv] at hc ⊢
  have h := EV4_of.1 hv
  have hsl := h.sl
  have htl := h.tl
  have hk3 := h.k3
  simp only [go_sem, Nat.reduceEqDiff, Nat.reduceAdd, Nat.reduceLT, Nat.reduceLeDiff, reduceIte, WB29, WVH_eq hc, true_and, bne_self_eq_false, ECells]
  refine WL_inv (α := Nat × List Int × List Int × List Int × AV) (fun q e mm => e 1 = .ptr 0 0 0 ∧ e 5 = q.2.2.2.2 ∧ e 6 = I64 q.1 ∧ v.se.drop q.1 = q.2.1 ∧ v.st.drop q.1 = q.2.2.1 ∧ absA q.2.2.2.1 q.2.1 q.2.2.1 = absA [] v.se v.st ∧ q.2.2.2.1.length ≤ q.1 ∧
    ∃ toks, AppV 3 (q.2.2.2.1.map I64) q.2.2.2.2 toks ∧ mm = ⟨[.live [encE v] 4], toks⟩) (fun q => q.2.1.length) (0, v.se, v.st, [], .sl [] .tight) ?_ ?_
  · simp only [go_sem, Nat.reduceEqDiff, Nat.reduceAdd, Nat.reduceLT, Nat.reduceLeDiff, reduceIte]
    exact ⟨by first | trivial | rfl, by first | trivial | rfl, by first | trivial | rfl, by first | trivial | rfl, by first | trivial | rfl, by first | trivial | rfl, by first | trivial | exact Nat.zero_le _, [], .inl ⟨rfl, rfl⟩, by first | trivial | rfl⟩
  rintro ⟨k, q, r, D, A⟩ e m ⟨g1, g5, g6, hd, hd', hq, hDk, toks, hA, rfl⟩
  dsimp only at g5 g6 hd hd' hq hDk hA
  cases q with
  | nil =>
    have h3 := drop_nil hd
    simp only [absA] at hq
    obtain ⟨tk', rfl⟩ := hA.sl
    rw [← hq]
    simp only [go_sem, Nat.reduceEqDiff, Nat.reduceAdd, Nat.reduceLT, Nat.reduceLeDiff, reduceIte, g1, g5, g6, dec_ge h3, ECells]
    show AV.tup [.sl ((D.map I64).map (snap _ 10)) .unk, I64 0] = _
    rw [List.map_map, show snap _ 10 ∘ I64 = I64 from funext fun _ => rfl]
    rfl
  | cons y q =>
    obtain ⟨hk, hd2, hlt⟩ := drop_cons hd
    obtain ⟨x, r', rfl⟩ : ∃ x r', r = x :: r' := by
      cases r with
      | nil => have := drop_nil hd'; omega
      | cons x r' => exact ⟨x, r', rfl⟩
    obtain ⟨hk', hd3, _⟩ := drop_cons hd'
    have hy := h.se y (List.mem_of_getElem? hk)
    have hx := h.st x (List.mem_of_getElem? hk')
    simp only [absA] at hq
    by_cases hxy : y < x
    · rw [if_pos hxy] at hq
      rw [← hq]
      simp only [go_sem, Nat.reduceEqDiff, Nat.reduceAdd, Nat.reduceLT, Nat.reduceLeDiff, reduceIte, g1, g5, g6, dec_lt hlt, Is_idx hk, Is_idx hk', ECells, decide_eq_true hxy]
      rfl
    · rw [if_neg hxy] at hq
      simp only [go_sem, Nat.reduceEqDiff, Nat.reduceAdd, Nat.reduceLT, Nat.reduceLeDiff, reduceIte, g1, g5, g6, dec_lt hlt, Is_idx hk, Is_idx hk', ECells, decide_eq_false hxy, wrap_i64 (y - x) (by omega) (by omega)]
      refine hA.app (y := I64 (y - x)) (cellsIs D) rfl (by rw [List.length_map]; unfold limit; omega) fun A' toks' hA' _ => ?_
      simp only [go_sem, Nat.reduceEqDiff, Nat.reduceAdd, Nat.reduceLT, Nat.reduceLeDiff, reduceIte, g1, g5, g6, wrap_n1 k (by omega)]
      refine Nx_of (k + 1, q, r', D ++ [y - x], A') (by simp) ?_
      simp only [go_sem, Nat.reduceEqDiff, Nat.reduceAdd, Nat.reduceLT, Nat.reduceLeDiff, reduceIte, g1]
      exact ⟨by first | trivial | rfl, by first | trivial | rfl, by first | trivial | rfl, hd2, hd3, hq, by rw [List.length_append]; simp; omega, toks', by rw [List.map_append]; exact hA', by first | trivial | rfl⟩
theorem snIssT (m : Mem) (q : Nat) (l : List (List Int)) (tk : Tk) : snap m (q + 3) (.sl (l.map encIs) tk) = encIss l := by
  show AV.sl ((l.map encIs).map (snap m (q + 2))) .unk = _
  rw [List.map_map, show snap m (q + 2) ∘ encIs = encIs from funext (fun t => snIs m q t)]; rfl
theorem own_ok {v : Ev} (h : EV4 v) : RV ft 19 [encE v] (encIss (v.cs.map fun c => c.so)) := by
  have hn4 := h.n4
  refine RV_of ft19 rfl ?_
  simp only [c19, r19]
  simp only [go_sem, Nat.reduceEqDiff, Nat.reduceAdd, Nat.reduceLT, Nat.reduceLeDiff, reduceIte, ECells]
  refine WL_inv (α := Nat × List Ctr × AV) (fun q e mm => e 1 = .ptr 0 0 0 ∧ e 3 = q.2.2 ∧ e 4 = I64 q.1 ∧ v.cs.drop q.1 = q.2.1 ∧ q.1 ≤ v.cs.length ∧ ∃ toks, AppV 22 (((v.cs.map fun c => c.so).take q.1).map encIs) q.2.2 toks ∧ mm = ⟨[.live [encE v] 4], toks⟩) (fun q => q.2.1.length) (0, v.cs, .sl [] .tight) ?_ ?_
  · simp only [go_sem, Nat.reduceEqDiff, Nat.reduceAdd, Nat.reduceLT, Nat.reduceLeDiff, reduceIte]
    exact ⟨by first | trivial | rfl, by first | trivial | rfl, by first | trivial | rfl, by first | trivial | rfl, by first | trivial | exact Nat.zero_le _, [], .inl ⟨rfl, rfl⟩, by first | trivial | rfl⟩
  rintro ⟨k, r, A⟩ e m ⟨g1, g3, g4, hd, hkl, toks, hA, rfl⟩
  dsimp only at g3 g4 hd hkl hA
  cases r with
  | nil =>
    have h3 := drop_nil hd
    obtain ⟨tk', rfl⟩ := hA.sl
    simp only [go_sem, Nat.reduceEqDiff, Nat.reduceAdd, Nat.reduceLT, Nat.reduceLeDiff, reduceIte, g1, g3, g4, dec_ge h3, ECells]
    rw [List.take_of_length_le (by rw [List.length_map]; omega)]
    exact snIssT _ 9 _ .tight
  | cons c r =>
    obtain ⟨hk, hd2, hlt⟩ := drop_cons hd
    have htk : ((v.cs.map fun c => c.so).take (k + 1)).map encIs = ((v.cs.map fun c => c.so).take k).map encIs ++ [encIs c.so] := by
      rw [List.take_add_one, List.getElem?_map, hk, List.map_append]; rfl
    simp only [go_sem, Nat.reduceEqDiff, Nat.reduceAdd, Nat.reduceLT, Nat.reduceLeDiff, reduceIte, g1, g3, g4, dec_lt hlt, ECells, Cs_idx hk, CCells]
    refine hA.app (y := encIs c.so) (cellsIss _) rfl (by rw [List.length_map, List.length_take]; unfold limit; omega) fun A' toks' hA' _ => ?_
    simp only [go_sem, Nat.reduceEqDiff, Nat.reduceAdd, Nat.reduceLT, Nat.reduceLeDiff, reduceIte, g1, g3, g4, wrap_n1 k (by omega)]
    refine Nx_of (k + 1, r, A') (by simp) ?_
    simp only [go_sem, Nat.reduceEqDiff, Nat.reduceAdd, Nat.reduceLT, Nat.reduceLeDiff, reduceIte, g1]
    exact ⟨by first | trivial | rfl, by first | trivial | rfl, by first | trivial | rfl, hd2, hlt, toks', by rw [htk]; exact hA', by first | trivial | rfl⟩
theorem same_self {v : Ev} (h : SE v) : RV ft 36 [encE v, encE v] (.bool true) := by
  have hcn := h.n
  refine RV_of ft36 rfl ?_
  simp only [c36, r36]
  have hs : ∀ l : List Int, l.length < 1073741824 → RV ft 35 [encIs l, encIs l] (.bool true) := fun l hl => by have := sameInts_ok l l hl; rwa [decide_eq_true rfl] at this
  have hw6 : ∀ c : Ctr, writeCells (.agg [.sl [] .tight, I64 0, I64 0, I64 0, I64 0, I64 0]) 0 [encIs c.so, I64 c.fi, I64 c.la, I64 c.vo, I64 c.fl, I64 c.ca] = some (encC c) := fun _ => rfl
  have cA : ∀ c : Ctr, (encC c).isAgg = true := fun _ => rfl
  have gK : ∀ (j : List Blk) (y z : Blk), (j ++ [y] ++ [z])[j.length]? = some y := fun j y z => by simp
  have gL : ∀ (j : List Blk) (y z : Blk), (j ++ [y] ++ [z])[j.length + 1]? = some z := fun j y z => by simp
  have sK : ∀ (j : List Blk) (y z w : Blk), (j ++ [y] ++ [z]).set j.length w = j ++ [w] ++ [z] := fun j y z w => by simp
  have sL : ∀ (j : List Blk) (y z w : Blk), (j ++ [y] ++ [z]).set (j.length + 1) w = j ++ [y] ++ [w] := fun j y z w => by simp
  simp only [go_sem, Nat.reduceEqDiff, Nat.reduceAdd, Nat.reduceLT, Nat.reduceLeDiff, reduceIte, ECells, WB35, WVH_eq (hs v.pr h.p), WVH_eq (hs v.se h.s), WVH_eq (hs v.st h.t), true_and, Bool.not_true, bne_self_eq_false]
  refine WL_inv (α := Nat × List Ctr × List Blk) (fun q e mm => e 2 = .ptr 0 0 0 ∧ e 3 = .ptr 1 0 0 ∧ e 5 = I64 q.1 ∧ v.cs.drop q.1 = q.2.1 ∧ mm = ⟨.live [encE v] 4 :: .live [encE v] 4 :: q.2.2, []⟩) (fun q => q.2.1.length) (0, v.cs, []) ?_ ?_
  · simp only [go_sem, Nat.reduceEqDiff, Nat.reduceAdd, Nat.reduceLT, Nat.reduceLeDiff, reduceIte]
    ((repeat' apply And.intro) <;> first | trivial | rfl | assumption | omega)
  rintro ⟨k, r, j⟩ e m ⟨g2, g3, g5, hd, rfl⟩
  dsimp only at g5 hd
  cases r with
  | nil =>
    have h3 := drop_nil hd
    simp only [go_sem, Nat.reduceEqDiff, Nat.reduceAdd, Nat.reduceLT, Nat.reduceLeDiff, reduceIte, g2, g3, g5, dec_ge h3, ECells]
  | cons c r =>
    obtain ⟨hk, hd2, hlt⟩ := drop_cons hd
    have hc := h.c c (List.mem_of_getElem? hk)
    simp only [go_sem, Nat.reduceEqDiff, Nat.reduceAdd, Nat.reduceLT, Nat.reduceLeDiff, reduceIte, g2, g3, g5, dec_lt hlt, ECells, Cs_idx hk, CCells, cA, hw6, gK, gL, sK, sL, CEta, WB35, WVH_eq (hs c.so hc), true_and, Bool.not_true, bne_self_eq_false, wrap_n1 k (by omega)]
    refine Nx_of (k + 1, r, j ++ [.live [encC c] 6] ++ [.live [encC c] 6]) (by simp) ?_
    simp only [go_sem, Nat.reduceEqDiff, Nat.reduceAdd, Nat.reduceLT, Nat.reduceLeDiff, reduceIte, g2, g3]
    ((repeat' apply And.intro) <;> first | trivial | rfl | assumption | omega | (exact hd2) | (simp))
theorem appI {bl : List Blk} {tk : List (Nat × Nat)} {l : List Int} (hl : l.length ≤ 1000) {K : AV × Mem → Prop} (h : ∀ w tk', TkK 3 tk tk' → K (.sl (l.map I64) w, ⟨bl, tk'⟩)) : @OptH _ (appendAt ⟨bl, tk⟩ false (.sl [] .tight) (encIs l) 3 1 8) ⟨K⟩ := by
  cases l with
  | nil => exact h _ _ (TkK.refl _ _)
  | cons x r =>
    have h1 : hdSz ((x :: r).map I64) 1 = true := rfl
    have h2 : (x :: r).length * (8 + 1) ≤ limit := by unfold limit; omega
    have : appendAt ⟨bl, tk⟩ false (.sl [] .tight) (encIs (x :: r)) 3 1 8 = some (.sl ((x :: r).map I64) (.at tk.length), ⟨bl, tk ++ [((x :: r).length, 3)]⟩) := by
      unfold encIs
      simp only [appendAt, Mem.elems, h1, List.length_map, List.length_nil, Nat.zero_add]
      rw [if_neg (by simp), if_pos ⟨h2, rfl⟩]
      simp [appTk]
    rw [this]
    refine h _ _ fun t n T' hT ht => ?_
    rw [List.getElem?_append_left (List.getElem?_eq_some_iff.1 ht).1]; exact ht
def agC (c : Ctr) (w : Tk) : AV := .agg [.sl (c.so.map I64) w, I64 c.fi, I64 c.la, I64 c.vo, I64 c.fl, I64 c.ca]
structure Few (v : Ev) : Prop where
  p : v.pr.length ≤ 30
  s : v.se.length ≤ 30
  t : v.st.length ≤ 30
  n : v.cs.length ≤ 30
  c : ∀ c ∈ v.cs, c.so.length ≤ 30
theorem Few.of_far {v : Ev} (h : farB v = false) : Few v := by
  unfold farB bigB at h
  simp only [Bool.or_eq_false_iff, decide_eq_false_iff_not, List.any_eq_false] at h
  obtain ⟨⟨h1, h2, h3, h4⟩, h5, _⟩ := h
  exact ⟨by omega, by omega, by omega, by omega, fun c hc => by have := h5 c hc; unfold bigC at this; simp only [decide_eq_true_eq] at this; omega⟩
theorem snI10 (m : Mem) (q : Nat) (l : List Int) : (l.map I64).map (snap m (q + 1)) = l.map I64 := by
  rw [List.map_map, show snap m (q + 1) ∘ I64 = I64 from funext fun _ => rfl]
theorem snAgC (m : Mem) (q : Nat) (c : Ctr) (w : Tk) : snap m (q + 3) (agC c w) = encC c := by
  show AV.agg [.sl ((c.so.map I64).map (snap m (q + 1))) .unk, I64 c.fi, I64 c.la, I64 c.vo, I64 c.fl, I64 c.ca] = _
  rw [snI10]; rfl
theorem snCopy (m : Mem) (q : Nat) {v : Ev} (w1 w2 w3 tk : Tk) {D : List (Ctr × Tk)} (hD : D.map Prod.fst = v.cs) : snap m (q + 5) (.agg [.sl (v.pr.map I64) w1, .sl (v.se.map I64) w2, .sl (v.st.map I64) w3, .sl (D.map fun x => agC x.1 x.2) tk]) = encE v := by
  show AV.agg [.sl ((v.pr.map I64).map (snap m (q + 3))) .unk, .sl ((v.se.map I64).map (snap m (q + 3))) .unk, .sl ((v.st.map I64).map (snap m (q + 3))) .unk, .sl ((D.map fun x => agC x.1 x.2).map (snap m (q + 3))) .unk] = _
  rw [snI10 m (q + 2), snI10 m (q + 2), snI10 m (q + 2), List.map_map, show (snap m (q + 3) ∘ fun x : Ctr × Tk => agC x.1 x.2) = fun x => encC x.1 from funext fun x => snAgC m q x.1 x.2]
  show AV.agg [_, _, _, .sl (D.map fun x => encC x.1) .unk] = .agg [_, _, _, .sl ((v.cs).map encC) .unk]
  rw [← hD, List.map_map]
  rfl
theorem Copy_ok {v : Ev} (h : Few v) : RV ft 28 [encE v] (encE v) := by
  have hcn := h.n
  refine RV_of ft28 rfl ?_
  simp only [c28, r28]
  simp only [go_sem, Nat.reduceEqDiff, Nat.reduceAdd, Nat.reduceLT, Nat.reduceLeDiff, reduceIte, ECells]
  refine appI (by have := h.p; omega) fun w1 tk1 _ => ?_
  simp only [go_sem, Nat.reduceEqDiff, Nat.reduceAdd, Nat.reduceLT, Nat.reduceLeDiff, reduceIte, ECells]
  refine appI (by have := h.s; omega) fun w2 tk2 _ => ?_
  simp only [go_sem, Nat.reduceEqDiff, Nat.reduceAdd, Nat.reduceLT, Nat.reduceLeDiff, reduceIte, ECells]
  refine appI (by have := h.t; omega) fun w3 tk3 _ => ?_
  have hap : ∀ n : Nat, apart (.ptr 0 0 n) (.sl [] .tight) = true := fun _ => rfl
  have hw6 : ∀ c : Ctr, writeCells (.agg [.sl [] .tight, I64 0, I64 0, I64 0, I64 0, I64 0]) 0 [encIs c.so, I64 c.fi, I64 c.la, I64 c.vo, I64 c.fl, I64 c.ca] = some (encC c) := fun _ => rfl
  have hw1 : ∀ (c : Ctr) (w : Tk), writeCells (encC c) 0 [.sl (c.so.map I64) w] = some (agC c w) := fun _ _ => rfl
  have hc1 : ∀ (l : List AV) (w : Tk), (AV.sl l w).cells = [.sl l w] := fun _ _ => rfl
  have cA : ∀ c : Ctr, (encC c).isAgg = true := fun _ => rfl
  have cG : ∀ (c : Ctr) (w : Tk), (agC c w).isAgg = true := fun _ _ => rfl
  have cE : ∀ (c : Ctr) (w : Tk), (agC c w).cells = [.sl (c.so.map I64) w, I64 c.fi, I64 c.la, I64 c.vo, I64 c.fl, I64 c.ca] := fun _ _ => rfl
  have eE : ∀ (c : Ctr) (w : Tk), AV.agg [.sl (c.so.map I64) w, I64 c.fi, I64 c.la, I64 c.vo, I64 c.fl, I64 c.ca] = agC c w := fun _ _ => rfl
  have gJ : ∀ (j : List Blk) (y : Blk), (j ++ [y])[j.length]? = some y := fun j y => by simp
  have sJ : ∀ (j : List Blk) (y z : Blk), (j ++ [y]).set j.length z = j ++ [z] := fun j y z => by simp
  obtain ⟨oV, hoV⟩ : ∃ oV : AV → AV, oV = fun A => .agg [.sl (v.pr.map I64) w1, .sl (v.se.map I64) w2, .sl (v.st.map I64) w3, A] := ⟨_, rfl⟩
  have oE : ∀ A, AV.agg [.sl (v.pr.map I64) w1, .sl (v.se.map I64) w2, .sl (v.st.map I64) w3, A] = oV A := fun A => by rw [hoV]
  have oA : ∀ A, (oV A).isAgg = true := fun A => by rw [hoV]; rfl
  have oC : ∀ (l : List AV) (w : Tk), (oV (.sl l w)).cells = [.sl (v.pr.map I64) w1, .sl (v.se.map I64) w2, .sl (v.st.map I64) w3, .sl l w] := fun l w => by rw [hoV]; rfl
  have oW : ∀ (l0 : List AV) (w0 : Tk) (l : List AV) (w : Tk), writeCells (oV (.sl l0 w0)) 3 [.sl l w] = some (oV (.sl l w)) := fun l0 w0 l w => by rw [hoV]; rfl
  have oD : ∀ (l : List AV) (w : Tk), decide ((oV (.sl l w)).cells.length = 4 ∧ (oV (.sl l w)).cells.all AV.solid = true) = true := fun l w => by rw [hoV]; rfl
  simp only [go_sem, Nat.reduceEqDiff, Nat.reduceAdd, Nat.reduceLT, Nat.reduceLeDiff, reduceIte, ECells, hap, Bool.and_self, oE, oD]
  refine WL_inv (α := Nat × List Ctr × List (Ctr × Tk) × AV × List Blk) (fun q e mm => e 1 = .ptr 0 0 0 ∧ e 2 = .ptr 1 0 0 ∧ e 3 = .ptr 2 0 0 ∧ e 4 = I64 q.1 ∧ v.cs.drop q.1 = q.2.1 ∧ q.1 ≤ v.cs.length ∧ q.2.2.1.map Prod.fst = v.cs.take q.1 ∧
    ∃ toks, AppV 40 (q.2.2.1.map fun x => agC x.1 x.2) q.2.2.2.1 toks ∧ mm = ⟨.live [encE v] 4 :: .live [.agg [.sl [] .tight, .sl [] .tight, .sl [] .tight, .sl [] .tight]] 4 :: .live [oV q.2.2.2.1] 4 :: q.2.2.2.2, toks⟩) (fun q => q.2.1.length) (0, v.cs, [], .sl [] .tight, []) ?_ ?_
  · simp only [go_sem, Nat.reduceEqDiff, Nat.reduceAdd, Nat.reduceLT, Nat.reduceLeDiff, reduceIte]
    exact ⟨by first | trivial | rfl, by first | trivial | rfl, by first | trivial | rfl, by first | trivial | rfl, by first | trivial | rfl, by first | trivial | exact Nat.zero_le _, by first | trivial | rfl, _, .inl ⟨rfl, rfl⟩, by first | trivial | rfl⟩
  rintro ⟨k, r, D, A, j⟩ e m ⟨g1, g2, g3, g4, hd, hkl, hD, toks, hA, rfl⟩
  dsimp only at g4 hd hkl hD hA
  cases r with
  | nil =>
    have h3 := drop_nil hd
    rw [List.take_of_length_le (by omega)] at hD
    obtain ⟨tk', rfl⟩ := hA.sl
    simp only [go_sem, Nat.reduceEqDiff, Nat.reduceAdd, Nat.reduceLT, Nat.reduceLeDiff, reduceIte, g1, g2, g3, g4, dec_ge h3, ECells, oC, oA, oE]
    rw [hoV]
    exact snCopy _ 7 w1 w2 w3 tk' hD
  | cons c r =>
    obtain ⟨hk, hd2, hlt⟩ := drop_cons hd
    have hcl := h.c c (List.mem_of_getElem? hk)
    have hDl : D.length = k := by have := congrArg List.length hD; rw [List.length_map, List.length_take] at this; omega
    simp only [go_sem, Nat.reduceEqDiff, Nat.reduceAdd, Nat.reduceLT, Nat.reduceLeDiff, reduceIte, g1, g2, g3, g4, dec_lt hlt, ECells, Cs_idx hk, CCells, cA, hw6, gJ, sJ]
    refine appI (by omega) fun w tk' hT => ?_
    have hA2 := hA.keep (by decide) hT
    obtain ⟨tkA, hAe⟩ := hA2.sl
    subst hAe
    simp only [go_sem, Nat.reduceEqDiff, Nat.reduceAdd, Nat.reduceLT, Nat.reduceLeDiff, reduceIte, g1, g2, g3, g4, gJ, sJ, hc1, hw1, cE, cG, eE, oC, oA, oE]
    refine hA2.app (y := agC c w) (fun e he => by obtain ⟨x, _, rfl⟩ := List.mem_map.1 he; rfl) rfl (by rw [List.length_map]; unfold limit; omega) fun A' toks' hA' _ => ?_
    obtain ⟨tkB, hBe⟩ := hA'.sl
    rw [hBe] at hA' ⊢
    simp only [go_sem, Nat.reduceEqDiff, Nat.reduceAdd, Nat.reduceLT, Nat.reduceLeDiff, reduceIte, g1, g2, g3, g4, gJ, sJ, hc1, oW, wrap_n1 k (by omega)]
    refine Nx_of (k + 1, r, D ++ [(c, w)], .sl (D.map (fun x : Ctr × Tk => agC x.1 x.2) ++ [agC c w]) tkB, j ++ [.live [agC c w] 6]) (by simp) ?_
    simp only [go_sem, Nat.reduceEqDiff, Nat.reduceAdd, Nat.reduceLT, Nat.reduceLeDiff, reduceIte, g1, g2, g3]
    exact ⟨by first | trivial | rfl, by first | trivial | rfl, by first | trivial | rfl, by first | trivial | rfl, hd2, hlt, by rw [List.map_append, hD, List.take_add_one, hk]; rfl, toks', by rw [List.map_append]; exact hA', by first | trivial | rfl⟩
end Go.Ab.T
end
