/-
  A part of the proofs over this seat.
  (The texts KcM9 KcK32, one behind the other.)
-/
import Derived.Test.YtaenhjnmmdaokaaP18
import Derived.Test.YtaenhjnmmdaokaaP8
set_option linter.unusedSimpArgs false
set_option linter.unusedVariables false
set_option linter.unusedSectionVars false
section
namespace Go.Ab.T
theorem bndF_at (f : Ch → Int) : ∀ (L : List Ch) (s : Int × Int), ((bndF f L s).1 = s.1 ∨ ∃ x ∈ L, (bndF f L s).1 = f x) ∧ ((bndF f L s).2 = s.2 ∨ ∃ x ∈ L, (bndF f L s).2 = f x)
  | [], s => ⟨.inl rfl, .inl rfl⟩
  | c :: r, s => by
    obtain ⟨h1, h2⟩ := bndF_at f r (min s.1 (f c), max s.2 (f c))
    simp only [bndF]
    constructor
    · rcases h1 with h | ⟨x, hx, h⟩
      · dsimp only at h
        by_cases hm : s.1 ≤ f c
        · exact .inl (by rw [h]; omega)
        · exact .inr ⟨c, by simp, by rw [h]; omega⟩
      · exact .inr ⟨x, by simp [hx], h⟩
    · rcases h2 with h | ⟨x, hx, h⟩
      · dsimp only at h
        by_cases hm : f c ≤ s.2
        · exact .inl (by rw [h]; omega)
        · exact .inr ⟨c, by simp, by rw [h]; omega⟩
      · exact .inr ⟨x, by simp [hx], h⟩
theorem bnd_at (f : Ch → Int) {L : List Ch} (hn : L ≠ []) : (∃ x ∈ L, (bnd f L).1 = f x) ∧ ∃ x ∈ L, (bnd f L).2 = f x := by
  match L, hn with
  | c :: r, _ =>
    obtain ⟨h1, h2⟩ := bndF_at f (c :: r) (f c, f c)
    exact ⟨h1.elim (fun h => ⟨c, by simp, h⟩) id, h2.elim (fun h => ⟨c, by simp, h⟩) id⟩
theorem at_bd {t s : V3} (h : t.nn ∧ t.le s) {i : Int} : 0 ≤ t.at i ∧ t.at i ≤ s.at i ∧ t.at i ≤ t.sum := by
  unfold V3.at
  simp only [V3.nn, V3.le, V3.sum] at h ⊢
  split
  · omega
  · split <;> omega
theorem likV_t {v : Ev} (h : EV4 v) (ht : hasTr v = true) {i : Nat} {c : Ctr} (hc : v.cs[i]? = some c) {x : Ch} (hx : x ∈ (likV v i).1) : (x.t.nn ∧ x.t.le (toV v.se)) ∧ x.t.sum = roll c := by
  obtain ⟨ts, t, h1, h2, h3, rfl⟩ := (likV_mem h ht hc).1 hx
  obtain ⟨t', h4, h5, _⟩ := IsT_erase hc h1
  rw [h3] at h4; cases h4
  exact ⟨(IsT_nn h1).2 t (List.mem_of_getElem? h3), h5.2⟩
theorem count_flaws (p : V3) : ∀ (cs : List Ctr) (ts : List V3) (P : Nat → Bool), ts.length = cs.length → (∀ i c t, cs[i]? = some c → ts[i]? = some t → P i = true → 0 < flw p c t) → ((((List.range cs.length).filter P).length : Nat) : Int) ≤ flT p cs ts
  | [], ts, P, _, _ => by
    cases ts <;> simp [flT]
  | c :: cs, [], P, hl, _ => by simp at hl
  | c :: cs, t :: ts, P, hl, h => by
    have ih := count_flaws p cs ts (fun i => P (i + 1)) (by simpa using hl) fun i c' t' h1 h2 h3 => h (i + 1) c' t' (by simpa using h1) (by simpa using h2) h3
    have hb := flw_bd p c t
    have e : ((List.range (c :: cs).length).filter P).length = (if P 0 = true then 1 else 0) + ((List.range cs.length).filter (fun i => P (i + 1))).length := by
      rw [List.length_cons, List.range_succ_eq_map, List.filter_cons, List.filter_map]
      split <;> simp [Function.comp_def] <;> omega
    rw [e]
    simp only [flT]
    by_cases hp : P 0 = true
    · have := h 0 c t rfl rfl hp
      rw [if_pos hp]
      omega
    · rw [if_neg hp]
      omega
theorem guilty_few {v : Ev} (h : EV4 v) {ls : List (List Int)} (hT : TrL v ls) (hf : flT (toV v.pr) v.cs (ls.map toV) = (likV v 0).2) : ((tillsM gP v).length : Int) ≤ (likV v 0).2 := by
  unfold tillsM
  rw [List.length_map, ← hf]
  refine count_flaws _ _ _ _ (IsT_len hT.2) fun i c t h1 h2 h3 => ?_
  rw [List.getElem?_map] at h2
  cases hl : ls[i]? with
  | none => rw [hl] at h2; cases h2
  | some l =>
    rw [hl] at h2
    simp only [Option.map_some, Option.some.injEq] at h2
    subst h2
    exact gP_at (few_mem h hT hf h1 hl) h3
end Go.Ab.T
end

section
namespace Go.Ab.T
set_option maxRecDepth 8000
set_option maxHeartbeats 1000000
theorem CountExplained_ok (v : Ev) : RV ft 6 [encE v] (.bool true) := by
  refine RV_of ft6 rfl ?_
  simp only [c6, r6]
  cases hv : (!farB v && evOK v)
  · simp only [go_sem, Nat.reduceEqDiff, Nat.reduceAdd, Nat.reduceLT, Nat.reduceLeDiff, reduceIte, WB12, WVH_eq (valid_ok v), true_and, hv, Bool.not_false, WB13, WVH_eq works_ok]
  have hv' := hv
  rw [Bool.and_eq_true, Bool.not_eq_true'] at hv'
  have hS := SE.of_far hv'.1
  have h := (EV_of hv'.1 hv'.2).toEV4
  have hk3 := h.k3
  have hn4 := h.n4
  have hsl := h.sl
  have hFe := Fewest_ok hS
  have hGu := Guilty_ok hS
  unfold tillR at hGu
  cases ht : hasTr v
  · have e0 : errT v 0 0 = 3 := by
      unfold errT
      rw [if_pos hv'.2, if_pos (by rw [Bool.and_eq_true, inR_iff, inR_iff]; have := h.n1; have := h.k1; omega), ht]; rfl
    have z3 : ¬ ((3 : Int) = 0) := by omega
    have hEx := Explain_no hS (by rw [e0]; exact z3)
    rw [e0, if_neg z3] at hFe hGu
    rw [e0] at hEx
    simp only [go_sem, Nat.reduceEqDiff, Nat.reduceAdd, Nat.reduceLT, Nat.reduceLeDiff, reduceIte, WB12, WVH_eq (valid_ok v), true_and, hv, Bool.not_true, WB27, WVH_eq hEx, WB15, WVH_eq hFe, WB21, WVH_eq hGu, bne_self_eq_false, show ((3 : Int) != 0) = true from rfl, WB13, WVH_eq works_ok]
  have e0 : errT v 0 0 = 0 := errT00 h ht
  rw [e0, if_pos rfl] at hFe hGu
  obtain ⟨ls, ⟨hT, hf⟩, hEx⟩ := Explain_ok h ht
  have hIs : RV ft 18 [encE v, encIss ls] (.bool true) := by have := IsTruth_ok h ls; rwa [(isTrB_iff h).2 hT] at this
  have hAl := All_ok h hT
  rw [hf] at hAl
  have hgf := guilty_few h hT hf
  have hlen : ls.length = v.cs.length := by have := IsT_len hT.2; rwa [List.length_map] at this
  simp only [go_sem, Nat.reduceEqDiff, Nat.reduceAdd, Nat.reduceLT, Nat.reduceLeDiff, reduceIte, WB12, WVH_eq (valid_ok v), true_and, hv, Bool.not_true, WB27, WVH_eq hEx, WB15, WVH_eq hFe, WB21, WVH_eq hGu, bne_self_eq_false, WB18, WVH_eq hIs, WB20, WVH_eq hAl, decide_eq_false (show ¬ (likV v 0).2 < ((tillsM gP v).length : Int) by omega)]
  have sC : ∀ a b : Int, (encS a b).cells = [I64 a, I64 b] := fun _ _ => rfl
  have sA : ∀ a b : Int, (encS a b).isAgg = true := fun _ _ => rfl
  have sE : ∀ a b : Int, AV.agg [I64 a, I64 b] = encS a b := fun _ _ => rfl
  have sw : ∀ a b c d : Int, writeCells (encS a b) 0 [I64 c, I64 d] = some (encS c d) := fun _ _ _ _ => rfl
  have gJ : ∀ (j : List Blk) (y : Blk), (j ++ [y])[j.length]? = some y := fun j y => by simp
  have sJ : ∀ (j : List Blk) (y z : Blk), (j ++ [y]).set j.length z = j ++ [z] := fun j y z => by simp
  refine WL_inv (α := Nat × List (List Int) × List Blk) (fun q e mm => e 1 = .ptr 0 0 0 ∧ e 3 = encIss ls ∧ e 9 = I64 q.1 ∧ ls.drop q.1 = q.2.1 ∧ mm = ⟨.live [encE v] 4 :: q.2.2, []⟩) (fun q => q.2.1.length) (0, ls, []) ?_ ?_
  · simp only [go_sem, Nat.reduceEqDiff, Nat.reduceAdd, Nat.reduceLT, Nat.reduceLeDiff, reduceIte]
    ((repeat' apply And.intro) <;> first | trivial | rfl | assumption | omega)
  rintro ⟨k, r, j⟩ e m ⟨g1, g3, g9, hd, rfl⟩
  dsimp only at g9 hd
  cases r with
  | nil =>
    have h3 := drop_nil hd
    simp only [go_sem, Nat.reduceEqDiff, Nat.reduceAdd, Nat.reduceLT, Nat.reduceLeDiff, reduceIte, g1, g3, g9, ECells, dec_ge (show v.cs.length ≤ k by omega), WB13, WVH_eq works_ok, true_and]
  | cons l r =>
    obtain ⟨hk, hd2, hltk⟩ := drop_cons hd
    have hkc : k < v.cs.length := by omega
    obtain ⟨c, hc⟩ : ∃ c, v.cs[k]? = some c := ⟨_, List.getElem?_eq_getElem hkc⟩
    have hTL := TL.of_tr h hT l (List.mem_of_getElem? hk)
    have hmem := few_mem h hT hf hc hk
    have hco := h.cs c (List.mem_of_getElem? hc)
    have hrl := Roll_ok hco.s
    have hR : ∀ i : Nat, i < v.pr.length → RV ft 16 [encE v, I64 (k : Int), I64 (i : Int)] (.tup [encS (bnd (fun c => c.t.at (i : Int)) (likV v k).1).1 (bnd (fun c => c.t.at (i : Int)) (likV v k).1).2, I64 0]) := by
      intro i hi
      have := Really_ok hS (k : Int) (i : Int)
      have e0 : errT v (k : Int) (i : Int) = 0 := errT_of h ht (by omega) (by omega)
      unfold bndR at this
      rw [if_pos e0, e0, Int.toNat_natCast] at this
      exact this
    have hx : ∀ i : Nat, ∀ x y : Int, l[i]? = some x → v.se[i]? = some y → ((bnd (fun c => c.t.at (i : Int)) (likV v k).1).1 ≤ x ∧ x ≤ (bnd (fun c => c.t.at (i : Int)) (likV v k).1).2) ∧ 0 ≤ (bnd (fun c => c.t.at (i : Int)) (likV v k).1).1 ∧ (bnd (fun c => c.t.at (i : Int)) (likV v k).1).2 ≤ min y (roll c) := by
      intro i x y hi hy
      have h1 := bnd_mem (fun c : Ch => c.t.at (i : Int)) hmem
      rw [show (mkc (toV v.pr) c (toV l)).t.at (i : Int) = x from toV_at (by rw [hTL.len]; omega) hi] at h1
      obtain ⟨⟨a, a1, a2⟩, b, b1, b2⟩ := bnd_at (fun c : Ch => c.t.at (i : Int)) (likV_ne h ht hkc)
      have ha := likV_t h ht hc a1
      have hb := likV_t h ht hc b1
      have ha' := at_bd ha.1 (i := (i : Int))
      have hb' := at_bd hb.1 (i := (i : Int))
      have hs : (toV v.se).at (i : Int) = y := toV_at (by omega) hy
      rw [hs] at ha' hb'
      rw [hb.2] at hb'
      try dsimp only at a2 b2
      exact ⟨h1, by omega, by omega⟩
    simp only [go_sem, Nat.reduceEqDiff, Nat.reduceAdd, Nat.reduceLT, Nat.reduceLeDiff, reduceIte, g1, g3, g9, ECells, dec_lt hkc]
    refine WL_inv (α := Nat × List Int × List Blk) (fun q e mm => e 1 = .ptr 0 0 0 ∧ e 3 = encIss ls ∧ e 9 = I64 k ∧ e 10 = I64 q.1 ∧ l.drop q.1 = q.2.1 ∧ mm = ⟨.live [encE v] 4 :: q.2.2, []⟩) (fun q => q.2.1.length) (0, l, j) ?_ ?_
    · simp only [go_sem, Nat.reduceEqDiff, Nat.reduceAdd, Nat.reduceLT, Nat.reduceLeDiff, reduceIte, g1, g3, g9]
      ((repeat' apply And.intro) <;> first | trivial | rfl | assumption | omega)
    clear g1 g3 g9
    rintro ⟨i, r', j2⟩ e m ⟨g1, g3, g9, g10, fd, rfl⟩
    dsimp only at g10 fd
    cases r' with
    | nil =>
      have h3 := drop_nil fd
      simp only [go_sem, Nat.reduceEqDiff, Nat.reduceAdd, Nat.reduceLT, Nat.reduceLeDiff, reduceIte, g1, g3, g9, g10, ECells, dec_ge (show v.pr.length ≤ i by have := hTL.len; omega), wrap_n1 k (by omega)]
      refine Nx_of (k + 1, r, j2) (by simp) ?_
      simp only [go_sem, Nat.reduceEqDiff, Nat.reduceAdd, Nat.reduceLT, Nat.reduceLeDiff, reduceIte, g1, g3]
      ((repeat' apply And.intro) <;> first | trivial | rfl | assumption | omega | (exact hd2))
    | cons x r' =>
      obtain ⟨hki, fd2, hlti⟩ := drop_cons fd
      have hip : i < v.pr.length := by rw [← hTL.len]; exact hlti
      obtain ⟨y, hy⟩ : ∃ y, v.se[i]? = some y := ⟨_, List.getElem?_eq_getElem (by omega)⟩
      obtain ⟨⟨hx1, hx2⟩, hx3, hx4⟩ := hx i x y hki hy
      simp only [go_sem, Nat.reduceEqDiff, Nat.reduceAdd, Nat.reduceLT, Nat.reduceLeDiff, reduceIte, g1, g3, g9, g10, ECells, dec_lt hip, Iss_idx hk, Is_idx hki, Is_idx hy, Cs_idx hc, CCells, CEta, WB16, WVH_eq (hR i hip), true_and, gJ, sJ, sC, sA, sE, sw, bne_self_eq_false, decide_eq_false (Int.not_lt.2 hx1), decide_eq_false (Int.not_lt.2 hx2), decide_eq_false (Int.not_lt.2 hx3), WB26, WVH_eq hrl, decide_eq_false (Int.not_lt.2 hx4), wrap_n1 i (by omega)]
      refine Nx_of (i + 1, r', j2 ++ [.live [encS (bnd (fun c => c.t.at (i : Int)) (likV v k).1).1 (bnd (fun c => c.t.at (i : Int)) (likV v k).1).2] 2]) (by simp) ?_
      simp only [go_sem, Nat.reduceEqDiff, Nat.reduceAdd, Nat.reduceLT, Nat.reduceLeDiff, reduceIte, g1, g3, g9]
      ((repeat' apply And.intro) <;> first | trivial | rfl | assumption | omega | (exact fd2))
end Go.Ab.T
end
