/-
  A part of the proofs over this seat.
  (The texts KcK26, one behind the other.)
-/
import Derived.Test.YtaenhjnmmdaokaaP14
set_option linter.unusedSimpArgs false
set_option linter.unusedVariables false
set_option linter.unusedSectionVars false
section
namespace Go.Ab.T
set_option maxRecDepth 8000
set_option maxHeartbeats 1000000
def mixS (a b : List Int) (s : Nat) : List Int := (subL a b).take s ++ a.drop s
theorem mixS_0 (a b : List Int) : mixS a b 0 = a := by simp [mixS]
theorem mixS_len {a b : List Int} (h : b.length = a.length) {s : Nat} (hs : s ≤ a.length) : (mixS a b s).length = a.length := by
  simp [mixS, subL_len h]; omega
theorem mixS_all {a b : List Int} (h : b.length = a.length) : mixS a b a.length = subL a b := by
  unfold mixS; rw [List.drop_length, List.append_nil, List.take_of_length_le (by rw [subL_len h]; omega)]
theorem mixS_get {a b : List Int} (h : b.length = a.length) {s : Nat} (hs : s ≤ a.length) : (mixS a b s)[s]? = a[s]? := by
  unfold mixS
  rw [List.getElem?_append_right (by rw [List.length_take, subL_len h]; omega), List.length_take, subL_len h, Nat.min_eq_left hs, List.getElem?_drop]
  simp
theorem mixS_set {a b : List Int} (h : b.length = a.length) {s : Nat} {x y : Int} (hx : a[s]? = some x) (hy : b[s]? = some y) : (mixS a b s).set s (x - y) = mixS a b (s + 1) := by
  have hs := (List.getElem?_eq_some_iff.1 hx).1
  unfold mixS
  have hz : (subL a b)[s]? = some (x - y) := by unfold subL; rw [List.getElem?_zipWith, hx, hy]
  rw [List.set_append_right _ _ (by rw [List.length_take, subL_len h]; omega), List.length_take, subL_len h, Nat.min_eq_left (by omega), Nat.sub_self, List.take_add_one, hz]
  have hd : a.drop s = x :: a.drop (s + 1) := by
    rw [List.drop_eq_getElem_cons hs]
    have := List.getElem?_eq_some_iff.1 hx
    rw [this.2]
  rw [hd]
  simp
theorem app0_ints (m : Mem) {l : List Int} (hn : l ≠ []) (hl : l.length ≤ 1000000) : append0 m (.sl [] .tight) (encIs l) 1 8 = some (.ref m.blks.length 0 l.length, newBlk m (l.map I64) 1) := by
  simp only [append0, encIs, Mem.elems, List.length_map, Is_hd]
  rw [if_pos ⟨⟨by simp only [limit]; omega, trivial⟩, by simpa using hn⟩]
def tr2 (x : List (List Int) × Tk) : AV := .sl (x.1.map encIs) x.2
theorem snTr2 (m : Mem) (q : Nat) (D : List (List (List Int) × Tk)) (tk : Tk) : snap m (q + 4) (.sl (D.map tr2) tk) = encIsss (D.map Prod.fst) := by
  show AV.sl ((D.map tr2).map (snap m (q + 3))) .unk = _
  rw [List.map_map, show snap m (q + 3) ∘ tr2 = fun x => encIss x.1 from funext (fun t => snIssT m q t.1 t.2)]
  unfold encIsss
  rw [List.map_map]; rfl
theorem truthsR_ok {v : Ev} (h : EV v) : ∀ (cs : List Ctr) (t : Nat) (f : Int) (left : List Int), v.cs.drop t = cs → t ≤ v.cs.length → left.length = v.pr.length → (∀ x ∈ left, 0 ≤ x ∧ x ≤ 80) → 0 ≤ f → f ≤ 10 →
    RV ft 96 [encE v, I64 (t : Int), I64 f, encIs left] (encIsss (trL (toV v.pr) cs f left))
  | [], t, f, left, hd, ht, hl, hb, hf0, hf1 => by
    have h3 := drop_nil hd
    have hk3 := h.k3
    have htl : ((t : Int) == v.cs.length) = true := beq_iff_eq.2 (by omega)
    have hsum := sum_ok left (by omega) fun x hx => by have := hb x hx; omega
    refine RV_of ft96 rfl ?_
    simp only [c96, r96]
    simp only [trL]
    by_cases hz : left.sum = 0
    · rw [if_pos hz]
      simp only [go_sem, Nat.reduceEqDiff, Nat.reduceAdd, Nat.reduceLT, Nat.reduceLeDiff, reduceIte, ECells, htl, WB55, WVH_eq hsum, true_and, hz]
      rfl
    · rw [if_neg hz]
      simp only [go_sem, Nat.reduceEqDiff, Nat.reduceAdd, Nat.reduceLT, Nat.reduceLeDiff, reduceIte, ECells, htl, WB55, WVH_eq hsum, true_and, beq_eq_false_iff_ne.2 hz]
      rfl
  | c :: r, t, f, left, hd, ht, hl, hb, hf0, hf1 => by
    obtain ⟨hc, hd2, hlt⟩ := drop_cons hd
    have hk3 := h.k3
    have hk1 := h.k1
    have h4 := h.toEV4
    have hn3 := h.n3
    have hco := h.cs c (List.mem_of_getElem? hc)
    have hro := hco.ro
    have h7 := h.r7 c (List.mem_of_getElem? hc)
    have htl : ((t : Int) == v.cs.length) = false := beq_eq_false_iff_ne.2 (by omega)
    have hrl := Roll_ok hco.s
    have hsp := splitsR_ok left (roll c) hro.1 h7 (by omega)
    have ih := fun f' left' => truthsR_ok h r (t + 1) f' left' hd2 (by omega)
    have hlen : (trL (toV v.pr) (c :: r) f left).length ≤ 134217728 := by
      have := trL_len (toV v.pr) (c :: r) f left (by omega) fun x hx => h.r7 x (List.mem_of_mem_drop (by rw [hd]; exact hx))
      have hcl : (c :: r).length ≤ 3 := by rw [← hd, List.length_drop]; omega
      exact Nat.le_trans this (Nat.le_trans (Nat.pow_le_pow_right (by omega) hcl) (by decide))
    refine RV_of ft96 rfl ?_
    simp only [c96, r96]
    obtain ⟨W, hW⟩ : ∃ W, W = splL left (roll c) := ⟨_, rfl⟩
    rw [← hW] at hsp
    have hWl : W.length ≤ 512 := by rw [hW]; exact Nat.le_trans (splL_len _ _ h7) (Nat.le_trans (Nat.pow_le_pow_right (by omega) (show left.length ≤ 3 by omega)) (by decide))
    obtain ⟨g, hg⟩ : ∃ g : List Int → List (List (List Int)), g = fun s => if f < flw (toV v.pr) c (toV s) then [] else (trL (toV v.pr) r (f - flw (toV v.pr) c (toV s)) (subL left s)).map (s :: ·) := ⟨_, rfl⟩
    have hT : trL (toV v.pr) (c :: r) f left = W.flatMap g := by rw [hW, hg]; rfl
    rw [hT] at hlen ⊢
    simp only [go_sem, Nat.reduceEqDiff, Nat.reduceAdd, Nat.reduceLT, Nat.reduceLeDiff, reduceIte, ECells, htl, Cs_idx hc, CCells, CEta, WB26, WVH_eq hrl, true_and, WB103, WVH_eq hsp]
    refine WL_inv (α := Nat × List (List Int) × List (List (List Int) × Tk) × AV × List Blk) (fun q e mm => e 1 = I64 t ∧ e 2 = I64 f ∧ e 3 = encIs left ∧ e 4 = .ptr 0 0 0 ∧ e 9 = q.2.2.2.1 ∧ e 10 = encIss W ∧ e 11 = I64 q.1 ∧ W.drop q.1 = q.2.1 ∧ q.2.2.1.map Prod.fst ++ q.2.1.flatMap g = W.flatMap g ∧
      ∃ toks, AppV 42 (q.2.2.1.map tr2) q.2.2.2.1 toks ∧ mm = ⟨.live [encE v] 4 :: q.2.2.2.2, toks⟩) (fun q => q.2.1.length) (0, W, [], .sl [] .tight, []) ?_ ?_
    · simp only [go_sem, Nat.reduceEqDiff, Nat.reduceAdd, Nat.reduceLT, Nat.reduceLeDiff, reduceIte]
      exact ⟨by first | trivial | rfl, by first | trivial | rfl, by first | trivial | rfl, by first | trivial | rfl, by first | trivial | rfl, by first | trivial | rfl, by first | trivial | rfl, by first | trivial | rfl, by first | trivial | rfl, [], .inl ⟨rfl, rfl⟩, by first | trivial | rfl⟩
    rintro ⟨i, R, D, A, j⟩ e m ⟨g1, g2, g3, g4, g9, g10, g11, fd, hq, toks, hA, rfl⟩
    dsimp only at g9 g11 fd hq hA
    have hDl : D.length ≤ 134217728 := by
      have := congrArg List.length hq
      rw [List.length_append, List.length_map] at this
      omega
    cases R with
    | nil =>
      have h3 := drop_nil fd
      rw [List.flatMap_nil, List.append_nil] at hq
      obtain ⟨tk', rfl⟩ := hA.sl
      simp only [go_sem, Nat.reduceEqDiff, Nat.reduceAdd, Nat.reduceLT, Nat.reduceLeDiff, reduceIte, g1, g2, g3, g4, g9, g10, g11, dec_ge h3]
      rw [← hq]
      exact snTr2 _ 8 _ .tight
    | cons s R =>
      obtain ⟨hk, fd2, hlti⟩ := drop_cons fd
      have hs := mem_splL.1 (show s ∈ splL left (roll c) by rw [← hW]; exact List.mem_of_getElem? hk)
      obtain ⟨hs1, hs2⟩ := hs
      obtain ⟨e1, e2, e3⟩ := (leL_iff (by omega)).1 hs1
      have hTL : TL v s := ⟨by omega, fun x hx => by
        have := nn_mem (l := s) (by omega) e2 x hx
        rw [← toV_sum (by omega), hs2] at this
        omega⟩
      have hFl := Flaws_ok h4 hc hTL
      have hfb := flw_bd (toV v.pr) c (toV s)
      rw [List.flatMap_cons] at hq
      by_cases hlf : f < flw (toV v.pr) c (toV s)
      · have hgs : g s = [] := by rw [hg]; exact if_pos hlf
        rw [hgs, List.nil_append] at hq
        simp only [go_sem, Nat.reduceEqDiff, Nat.reduceAdd, Nat.reduceLT, Nat.reduceLeDiff, reduceIte, g1, g2, g3, g4, g9, g10, g11, dec_lt hlti, ECells, Iss_idx hk, WB22, WVH_eq hFl, true_and, decide_eq_true hlf, wrap_n1 i (by omega)]
        refine Nx_of (i + 1, R, D, A, j) (by simp) ?_
        simp only [go_sem, Nat.reduceEqDiff, Nat.reduceAdd, Nat.reduceLT, Nat.reduceLeDiff, reduceIte, g1, g2, g3, g4, g9, g10]
        exact ⟨by first | trivial | rfl, by first | trivial | rfl, by first | trivial | rfl, by first | trivial | rfl, by first | trivial | rfl, by first | trivial | rfl, by first | trivial | rfl, fd2, hq, toks, hA, by first | trivial | rfl⟩
      have hgs : g s = (trL (toV v.pr) r (f - flw (toV v.pr) c (toV s)) (subL left s)).map (s :: ·) := by rw [hg]; exact if_neg hlf
      rw [hgs] at hq
      have ha0 : ∀ m : Mem, append0 m (.sl [] .tight) (encIs left) 1 8 = some (.ref m.blks.length 0 left.length, newBlk m (left.map I64) 1) := fun m => app0_ints m (by intro e; rw [e] at hl; simp at hl; omega) (by omega)
      simp only [go_sem, Nat.reduceEqDiff, Nat.reduceAdd, Nat.reduceLT, Nat.reduceLeDiff, reduceIte, g1, g2, g3, g4, g9, g10, g11, dec_lt hlti, ECells, Iss_idx hk, WB22, WVH_eq hFl, true_and, decide_eq_false hlf, ha0]
      refine WL_inv (α := Nat) (fun q e mm => e 1 = I64 t ∧ e 2 = I64 f ∧ e 3 = encIs left ∧ e 4 = .ptr 0 0 0 ∧ e 9 = A ∧ e 10 = encIss W ∧ e 11 = I64 i ∧ e 12 = I64 (flw (toV v.pr) c (toV s)) ∧ e 13 = .ref (j.length + 1) 0 left.length ∧ e 14 = I64 q ∧ q ≤ left.length ∧ mm = ⟨.live [encE v] 4 :: (j ++ [.live ((mixS left s q).map I64) 1]), toks⟩) (fun q => left.length - q) 0 ?_ ?_
      · simp only [go_sem, Nat.reduceEqDiff, Nat.reduceAdd, Nat.reduceLT, Nat.reduceLeDiff, reduceIte, g1, g2, g3, g4, g9, g10, g11, mixS_0]
        exact ⟨by first | trivial | rfl, by first | trivial | rfl, by first | trivial | rfl, by first | trivial | rfl, by first | trivial | rfl, by first | trivial | rfl, by first | trivial | rfl, by first | trivial | rfl, by first | trivial | rfl, by first | trivial | rfl, by first | trivial | exact Nat.zero_le _, by first | trivial | rfl⟩
      clear g1 g2 g3 g4 g9 g10 g11
      rintro q e m ⟨g1, g2, g3, g4, g9, g10, g11, g12, g13, g14, hql, rfl⟩
      by_cases hqk : q < left.length
      · have ha : left[q]? = some left[q] := List.getElem?_eq_getElem (by omega)
        have hb' : s[q]? = some s[q] := List.getElem?_eq_getElem (by omega)
        have k1 := hb _ (List.mem_of_getElem? ha)
        have k2 := hTL.bd _ (List.mem_of_getElem? hb')
        have hgt : (mixS left s q)[q]? = some left[q] := by rw [mixS_get e1 hql]; exact ha
        have hset := mixS_set e1 ha hb'
        have hbk : ∀ x : Blk, (Blk.live [encE v] 4 :: (j ++ [x]))[j.length + 1]? = some x := fun x => by simp
        have f1 : idxAt ⟨.live [encE v] 4 :: (j ++ [.live ((mixS left s q).map I64) 1]), toks⟩ (.ref (j.length + 1) 0 left.length) (I64 (q : Int)) 1 = some (.ptr (j.length + 1) q 0) := idx_own (es := (mixS left s q).map I64) (hbk _) hqk
        have f2 : loadAt ⟨.live [encE v] 4 :: (j ++ [.live ((mixS left s q).map I64) 1]), toks⟩ (.ptr (j.length + 1) q 0) none = some (I64 left[q]) := load_own (es := (mixS left s q).map I64) (hbk _) (by rw [List.getElem?_map, hgt]; rfl) rfl
        have f3 : ∀ x, storeAt ⟨.live [encE v] 4 :: (j ++ [.live ((mixS left s q).map I64) 1]), toks⟩ (.ptr (j.length + 1) q 0) (I64 x) 1 = some ⟨.live [encE v] 4 :: (j ++ [.live (((mixS left s q).map I64).set q (I64 x)) 1]), toks⟩ := fun x => by
          have := store_own (m := ⟨.live [encE v] 4 :: (j ++ [.live ((mixS left s q).map I64) 1]), toks⟩) (id := j.length + 1) (es := (mixS left s q).map I64) (k := q) (x := x) (y := left[q]) (hbk _) (by rw [List.getElem?_map, hgt]; rfl)
          rw [this]
          simp
        have f4 : ((mixS left s q).map I64).set q (I64 (left[q] - s[q])) = (mixS left s (q + 1)).map I64 := by rw [← List.map_set, hset]
        simp only [go_sem, Nat.reduceEqDiff, Nat.reduceAdd, Nat.reduceLT, Nat.reduceLeDiff, reduceIte, g1, g2, g3, g4, g9, g10, g11, g12, g13, g14, dec_lt hqk, f1, f2, f3, f4, Iss_idx hk, Is_idx hb', wrap_i64 (left[q] - s[q]) (by omega) (by omega), wrap_n1 q (by omega)]
        refine Nx_of (q + 1) (by show left.length - (q + 1) < left.length - q; omega) ?_
        simp only [go_sem, Nat.reduceEqDiff, Nat.reduceAdd, Nat.reduceLT, Nat.reduceLeDiff, reduceIte, g1, g2, g3, g4, g9, g10, g11, g12, g13]
        exact ⟨by first | trivial | rfl, by first | trivial | rfl, by first | trivial | rfl, by first | trivial | rfl, by first | trivial | rfl, by first | trivial | rfl, by first | trivial | rfl, by first | trivial | rfl, by first | trivial | rfl, by first | trivial | rfl, hqk, by first | trivial | rfl⟩
      have : q = left.length := by omega
      subst this
      rw [mixS_all e1]
      have hbk : ∀ x : Blk, (Blk.live [encE v] 4 :: (j ++ [x]))[j.length + 1]? = some x := fun x => by simp
      have f5 : frzsAt ⟨.live [encE v] 4 :: (j ++ [.live ((subL left s).map I64) 1]), toks⟩ (.ref (j.length + 1) 0 left.length) = some (.sl ((subL left s).map I64) .unk, ⟨.live [encE v] 4 :: (j ++ [.dead]), toks⟩) := by
        rw [frzsAt_ref, hbk, fzRef_live, if_pos (by rw [List.length_map, subL_len e1]; omega), List.drop_zero, List.take_of_length_le (by rw [List.length_map, subL_len e1]; omega)]
        simp
      have hih := ih (f - flw (toV v.pr) c (toV s)) (subL left s) (by rw [subL_len e1]; exact hl) (fun x hx => ⟨leL_sub hs1 x hx, leL_le hs1 (fun n hn => (hb n hn).2) x hx⟩) (by omega) (by omega)
      simp only [go_sem, Nat.reduceEqDiff, Nat.reduceAdd, Nat.reduceLT, Nat.reduceLeDiff, reduceIte, g1, g2, g3, g4, g9, g10, g11, g12, g13, g14, dec_ge (Nat.le_refl left.length), f5, ECells, wrap_n1 t (by omega), wrap_i64 (f - flw (toV v.pr) c (toV s)) (by omega) (by omega), WB96, snIsT, hotIsT, WVH_eq hih, true_and]
      obtain ⟨L, hL⟩ : ∃ L, L = trL (toV v.pr) r (f - flw (toV v.pr) c (toV s)) (subL left s) := ⟨_, rfl⟩
      rw [← hL] at hq ⊢
      refine WL_inv (α := Nat × List (List (List Int)) × List (List (List Int) × Tk) × AV) (fun q e mm => e 1 = I64 t ∧ e 2 = I64 f ∧ e 3 = encIs left ∧ e 4 = .ptr 0 0 0 ∧ e 9 = q.2.2.2 ∧ e 10 = encIss W ∧ e 11 = I64 i ∧ e 15 = encIsss L ∧ e 16 = I64 q.1 ∧ L.drop q.1 = q.2.1 ∧ q.2.2.1.map Prod.fst ++ (q.2.1.map (s :: ·) ++ R.flatMap g) = W.flatMap g ∧
        ∃ toks, AppV 42 (q.2.2.1.map tr2) q.2.2.2 toks ∧ mm = ⟨.live [encE v] 4 :: (j ++ [.dead]), toks⟩) (fun q => q.2.1.length) (0, L, D, A) ?_ ?_
      · simp only [go_sem, Nat.reduceEqDiff, Nat.reduceAdd, Nat.reduceLT, Nat.reduceLeDiff, reduceIte, g1, g2, g3, g4, g9, g10, g11]
        exact ⟨by first | trivial | rfl, by first | trivial | rfl, by first | trivial | rfl, by first | trivial | rfl, by first | trivial | rfl, by first | trivial | rfl, by first | trivial | rfl, by first | trivial | rfl, by first | trivial | rfl, by first | trivial | rfl, hq, toks, hA, by first | trivial | rfl⟩
      clear g1 g2 g3 g4 g9 g10 g11 g12 g13 g14 hA hDl hq f5
      rintro ⟨q, r', D, A⟩ e m ⟨g1, g2, g3, g4, g9, g10, g11, g15, g16, ld, hq, toks, hA, rfl⟩
      dsimp only at g9 g16 ld hq hA
      have hDl : D.length ≤ 134217728 := by
        have := congrArg List.length hq
        rw [List.length_append, List.length_map] at this
        omega
      cases r' with
      | nil =>
        have h3 := drop_nil ld
        rw [List.map_nil, List.nil_append] at hq
        simp only [go_sem, Nat.reduceEqDiff, Nat.reduceAdd, Nat.reduceLT, Nat.reduceLeDiff, reduceIte, g1, g2, g3, g4, g9, g10, g11, g15, g16, dec_ge h3, wrap_n1 i (by omega)]
        refine Nx_of (i + 1, R, D, A, j ++ [.dead]) (by simp) ?_
        simp only [go_sem, Nat.reduceEqDiff, Nat.reduceAdd, Nat.reduceLT, Nat.reduceLeDiff, reduceIte, g1, g2, g3, g4, g9, g10]
        exact ⟨by first | trivial | rfl, by first | trivial | rfl, by first | trivial | rfl, by first | trivial | rfl, by first | trivial | rfl, by first | trivial | rfl, by first | trivial | rfl, fd2, hq, toks, hA, by first | trivial | rfl⟩
      | cons y r' =>
        obtain ⟨hy, ld2, hltq⟩ := drop_cons ld
        have hyl : y.length ≤ 1000 := by
          have := (mem_trL (toV v.pr) hk3 (cs := r) (f := f - flw (toV v.pr) c (toV s)) (l := subL left s) (by rw [subL_len e1]; exact hl) (leL_sub hs1) (by omega)).1 (by rw [← hL]; exact List.mem_of_getElem? hy)
          have h8 := IsT_len this.2.1
          have : r.length ≤ 3 := by rw [← hd2, List.length_drop]; omega
          rw [List.length_map] at h8
          omega
        have hLl : L.length ≤ 134217728 := by
          have := congrArg List.length hq
          rw [hL]
          have h9 := trL_len (toV v.pr) r (f - flw (toV v.pr) c (toV s)) (subL left s) (by rw [subL_len e1]; omega) fun x hx => h.r7 x (List.mem_of_mem_drop (by rw [hd2]; exact hx))
          have hcl : r.length ≤ 3 := by rw [← hd2, List.length_drop]; omega
          exact Nat.le_trans h9 (Nat.le_trans (Nat.pow_le_pow_right (by omega) hcl) (by decide))
        simp only [go_sem, Nat.reduceEqDiff, Nat.reduceAdd, Nat.reduceLT, Nat.reduceLeDiff, reduceIte, g1, g2, g3, g4, g9, g10, g11, g15, g16, dec_lt hltq, Iss_idx hk, Isss_idx hy]
        refine appG (a := encIs s) (es := y.map encIs) (tkk := .unk) rfl (cellsIss y) (by rw [List.length_map]; unfold limit; omega) fun w tk' hT' => ?_
        have hA2 := hA.keep (by decide) hT'
        simp only [go_sem, Nat.reduceEqDiff, Nat.reduceAdd, Nat.reduceLT, Nat.reduceLeDiff, reduceIte, g1, g2, g3, g4, g9, g10, g11, g15, g16]
        refine hA2.app (y := tr2 (s :: y, w)) (fun e he => by obtain ⟨x, _, rfl⟩ := List.mem_map.1 he; rfl) rfl (by rw [List.length_map]; unfold limit; omega) fun A' toks' hA' _ => ?_
        simp only [go_sem, Nat.reduceEqDiff, Nat.reduceAdd, Nat.reduceLT, Nat.reduceLeDiff, reduceIte, g1, g2, g3, g4, g10, g11, g15, g16, wrap_n1 q (by omega)]
        refine Nx_of (q + 1, r', D ++ [(s :: y, w)], A') (by simp) ?_
        simp only [go_sem, Nat.reduceEqDiff, Nat.reduceAdd, Nat.reduceLT, Nat.reduceLeDiff, reduceIte, g1, g2, g3, g4, g10, g11, g15]
        exact ⟨by first | trivial | rfl, by first | trivial | rfl, by first | trivial | rfl, by first | trivial | rfl, by first | trivial | rfl, by first | trivial | rfl, by first | trivial | rfl, by first | trivial | rfl, by first | trivial | rfl, ld2, by rw [← hq, List.map_append, List.map_cons]; simp, toks', by rw [List.map_append]; exact hA', by first | trivial | rfl⟩
end Go.Ab.T
end
