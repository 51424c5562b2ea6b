/-
  A part of the proofs over this seat.
  (The texts AxR20 AxR21, one behind the other.)
-/
import Derived.Test.YtbbpdlobjbpchaaDoorP3
set_option linter.unusedSimpArgs false
set_option linter.unusedVariables false
set_option linter.unusedSectionVars false
section
namespace Go.Ab.T
set_option maxRecDepth 8000
set_option linter.unusedSimpArgs false
set_option linter.unusedVariables false
set_option maxHeartbeats 1000000
/-! ### A mark less -/
def delR (r : Rl) (i : Nat) : Rl := ⟨r.feet, r.marks.take i ++ r.marks.drop (i + 1)⟩
theorem split_at {l : List Mk} {i : Nat} {x : Mk} (h : l[i]? = some x) : l = l.take i ++ x :: l.drop (i + 1) := by
  have hi := (List.getElem?_eq_some_iff.1 h).1
  have hx : l[i] = x := (List.getElem?_eq_some_iff.1 h).2
  have h2 := List.take_append_drop i l
  rw [List.drop_eq_getElem_cons hi, hx] at h2
  exact h2.symm
theorem choice_insert (x : Mk) : ∀ (T1 T2 : List Mk) (d u : Nat), Choice (T1 ++ T2) d u → Choice (T1 ++ x :: T2) (d + 1) u
  | [], T2, d, u, h => Or.inr ⟨d, rfl, h⟩
  | m :: T1, T2, d, u, h => by
    rcases h with ⟨b, u', h1, h2, rfl⟩ | ⟨d', rfl, h1⟩
    · exact Or.inl ⟨b, u', h1, choice_insert x T1 T2 d u' h2, rfl⟩
    · exact Or.inr ⟨d' + 1, rfl, choice_insert x T1 T2 d' u h1⟩
theorem choice_remove : ∀ (T : List Mk) (d u : Nat), Choice T (d + 1) u → ∃ T1 x T2, T = T1 ++ x :: T2 ∧ Choice (T1 ++ T2) d u
  | [], d, u, ⟨h, _⟩ => by omega
  | m :: T, d, u, h => by
    rcases h with ⟨b, u', h1, h2, rfl⟩ | ⟨d', h0, h1⟩
    · obtain ⟨T1, x, T2, rfl, h3⟩ := choice_remove T d u' h2
      exact ⟨m :: T1, x, T2, rfl, Or.inl ⟨b, u', h1, h3, rfl⟩⟩
    · obtain rfl : d' = d := by omega
      exact ⟨[], m, T, rfl, h1⟩
theorem untrue_app (a b : List Mk) (t : Nat) : untrueN (a ++ b) t = untrueN a t + untrueN b t := by
  unfold untrueN; rw [List.filter_append, List.length_append]
theorem untrue_cons (x : Mk) (b : List Mk) (t : Nat) : untrueN (x :: b) t = (if claimT x t then 0 else 1) + untrueN b t := by
  unfold untrueN
  rw [List.filter_cons]
  cases claimT x t <;> simp <;> omega
theorem del_ok {r : Rl} {L i : Nat} (h : Ok r L) : Ok (delR r i) L := by
  refine ⟨h.feet, h.one, h.nine, ?_, fun m hm => ?_⟩
  · have := h.ten
    simp only [delR, List.length_append, List.length_take, List.length_drop]; omega
  · rcases List.mem_append.1 hm with h1 | h1
    · exact h.marks m (List.mem_of_mem_take h1)
    · exact h.marks m (List.mem_of_mem_drop h1)
theorem ok_check {r : Rl} {L : Nat} (h : Ok r L) : checkR r = 0 := by
  have h1 := h.feet
  have h2 := h.one
  have h3 := h.nine
  have h4 := h.ten
  unfold checkR
  have c1 : ((decide (r.feet < 1) || decide (16 < r.feet)) || decide (10 < (r.marks.length : Int))) = false := by simp; omega
  have c2 : (r.marks.any fun m => !described m r.feet) = false := by
    rw [List.any_eq_false]; intro m hm; simp [h.marks m hm]
  rw [c1, c2]; rfl
theorem ok_near {r : Rl} {L : Nat} (h : Ok r L) : Near r := ⟨by have := h.ten; omega, fun _ => by have := h.nine; have := h.feet; omega⟩
theorem del_tears {r : Rl} {i : Nat} {x : Mk} (h : r.marks[i]? = some x) : tearsL r = (r.marks.take i).filter isTear ++ (if isTear x then [x] else []) ++ (r.marks.drop (i + 1)).filter isTear ∧ tearsL (delR r i) = (r.marks.take i).filter isTear ++ (r.marks.drop (i + 1)).filter isTear := by
  refine ⟨?_, by unfold tearsL delR; rw [List.filter_append]⟩
  unfold tearsL
  rw [show r.marks.filter isTear = (r.marks.take i ++ x :: r.marks.drop (i + 1)).filter isTear from by rw [← split_at h], List.filter_append, List.filter_cons, List.append_assoc]
  congr 1
  split <;> rfl
theorem del_claims {r : Rl} {i : Nat} {x : Mk} (h : r.marks[i]? = some x) (t : Nat) : untrueN (claimsL r) t = untrueN (claimsL (delR r i)) t + (if isTear x then 0 else if claimT x t then 0 else 1) := by
  have e1 : claimsL r = (r.marks.take i).filter (fun m => !isTear m) ++ ((if isTear x then [] else [x]) ++ (r.marks.drop (i + 1)).filter fun m => !isTear m) := by
    unfold claimsL
    rw [show (r.marks.filter fun m => !isTear m) = (r.marks.take i ++ x :: r.marks.drop (i + 1)).filter (fun m => !isTear m) from by rw [← split_at h], List.filter_append, List.filter_cons]
    congr 1
    cases isTear x <;> rfl
  have e2 : claimsL (delR r i) = (r.marks.take i).filter (fun m => !isTear m) ++ (r.marks.drop (i + 1)).filter fun m => !isTear m := by
    unfold claimsL delR; rw [List.filter_append]
  rw [e1, e2, untrue_app, untrue_app, untrue_app]
  cases isTear x
  · simp only [Bool.false_eq_true, if_false, untrue_cons]
    have : untrueN [] t = 0 := rfl
    rw [this]; omega
  · simp only [if_true]
    have : untrueN [] t = 0 := rfl
    rw [this]; omega
/-- Without one of the marks Fewest is not less by more than 1. -/
theorem del_low {r : Rl} {L i : Nat} {x : Mk} (h : Ok r L) (hx : r.marks[i]? = some x) : fewestL r L ≤ fewestL (delR r i) L + 1 := by
  obtain ⟨k, g, hc, hn⟩ := (fewest_spec (del_ok (i := i) h)).1
  obtain ⟨t1, t2⟩ := del_tears hx
  have hu := del_claims hx (andn (allN L) g)
  rw [t2] at hc
  cases ht : isTear x
  · rw [ht] at t1 hu
    simp only [Bool.false_eq_true, if_false, List.append_nil] at t1 hu
    rw [← t1] at hc
    have := (fewest_spec h).2 _ ⟨k, g, hc, rfl⟩
    split at hu <;> omega
  · rw [ht] at t1 hu
    simp only [if_true] at t1 hu
    have hc' := choice_insert x _ _ _ _ hc
    rw [show (r.marks.take i).filter isTear ++ x :: (r.marks.drop (i + 1)).filter isTear = tearsL r by rw [t1]; simp] at hc'
    have := (fewest_spec h).2 _ ⟨k + 1, g, hc', rfl⟩
    omega
/-- Without one that is no tear it is not greater. -/
theorem del_high {r : Rl} {L i : Nat} {x : Mk} (h : Ok r L) (hx : r.marks[i]? = some x) (ht : isTear x = false) : fewestL (delR r i) L ≤ fewestL r L := by
  obtain ⟨k, g, hc, hn⟩ := (fewest_spec h).1
  obtain ⟨t1, t2⟩ := del_tears hx
  have hu := del_claims hx (andn (allN L) g)
  rw [ht] at t1 hu
  simp only [Bool.false_eq_true, if_false, List.append_nil] at t1 hu
  rw [t1, ← t2] at hc
  have := (fewest_spec (del_ok (i := i) h)).2 _ ⟨k, g, hc, rfl⟩
  omega
/-- If it is above 0, it is less by 1 without some mark. -/
theorem del_some {r : Rl} {L : Nat} (h : Ok r L) (h0 : 0 < fewestL r L) : ∃ i, i < r.marks.length ∧ fewestL (delR r i) L + 1 = fewestL r L := by
  obtain ⟨k, g, hc, hn⟩ := (fewest_spec h).1
  have key : ∃ (i : Nat) (x : Mk), r.marks[i]? = some x ∧ Drops (delR r i) L (fewestL r L - 1) := by
    by_cases hk : k = 0
    · have hu : 0 < untrueN (claimsL r) (andn (allN L) g) := by omega
      unfold untrueN at hu
      obtain ⟨x, hx⟩ := List.exists_mem_of_length_pos hu
      obtain ⟨hx1, hx2⟩ := List.mem_filter.1 hx
      obtain ⟨hx3, hx4⟩ := List.mem_filter.1 hx1
      obtain ⟨i, hi⟩ := List.mem_iff_getElem?.1 hx3
      refine ⟨i, x, hi, k, g, ?_, ?_⟩
      · obtain ⟨t1, t2⟩ := del_tears hi
        have ht : isTear x = false := by simpa using hx4
        rw [ht] at t1
        simp only [Bool.false_eq_true, if_false, List.append_nil] at t1
        rw [t2, ← t1]; exact hc
      · have hu2 := del_claims hi (andn (allN L) g)
        have ht : isTear x = false := by simpa using hx4
        have hf : claimT x (andn (allN L) g) = false := by simpa using hx2
        rw [ht, hf] at hu2
        simp only [Bool.false_eq_true, if_false] at hu2
        omega
    · obtain ⟨k', rfl⟩ : ∃ k', k = k' + 1 := ⟨k - 1, by omega⟩
      obtain ⟨T1, x, T2, hT, hc2⟩ := choice_remove _ _ _ hc
      obtain ⟨A, B', hA, hA1, hB1⟩ := List.filter_eq_append_iff.1 hT
      obtain ⟨C, D, hC, hC1, hC2, hD⟩ := List.filter_eq_cons_iff.1 hB1
      have hm : r.marks = (A ++ C) ++ x :: D := by rw [hA, hC, List.append_assoc]
      have hCf : C.filter isTear = [] := by rw [List.filter_eq_nil_iff]; exact hC1
      have hi : r.marks[(A ++ C).length]? = some x := by rw [hm]; simp
      have htk : r.marks.take (A ++ C).length = A ++ C := by rw [hm]; exact List.take_left
      have hdr : r.marks.drop ((A ++ C).length + 1) = D := by
        rw [hm, ← List.drop_drop, List.drop_left]; rfl
      refine ⟨(A ++ C).length, x, hi, k', g, ?_, ?_⟩
      · rw [(del_tears hi).2, htk, hdr, List.filter_append, hA1, hCf, List.append_nil, hD]; exact hc2
      · have hu2 := del_claims hi (andn (allN L) g)
        rw [show isTear x = true from hC2] at hu2
        simp only [if_true] at hu2
        omega
  obtain ⟨i, x, hi, hd⟩ := key
  have h1 := (fewest_spec (del_ok (i := i) h)).2 _ hd
  have h2 := del_low h hi
  exact ⟨i, (List.getElem?_eq_some_iff.1 hi).1, by omega⟩
/-! ### A copy -/
theorem Copy_ok (r : Rl) (hl : r.marks.length < 1000000) (K : AV → Mem → Prop)
    (h0 : r.marks = [] → K (.agg [I64 r.feet, .sl [] .tight]) ⟨[.live [encR r] 2, .live [.agg [I64 r.feet, .sl [] .tight]] 2], []⟩)
    (h1 : r.marks ≠ [] → K (.agg [I64 r.feet, .ref 2 0 r.marks.length]) ⟨[.live [encR r] 2, .live [.agg [I64 r.feet, .ref 2 0 r.marks.length]] 2, .live (r.marks.map encM) 5], []⟩) : WR ft (.f 16) [encR r] .nil K := by
  rw [WR_f ft16 rfl]
  simp only [c16, r16]
  have hsz : hdSz (r.marks.map encM) 5 = true := hdSz_map' encM 5 _ fun _ => rfl
  have happ : ∀ m : Mem, append0 m (.sl [] .tight) (.sl (r.marks.map encM) .unk) 5 40 = if r.marks = [] then some (.sl [] .tight, m) else some (.ref m.blks.length 0 r.marks.length, newBlk m (r.marks.map encM) 5) := by
    intro m
    simp only [append0, Mem.elems, List.length_map, hsz]
    by_cases he : r.marks = []
    · rw [if_pos he, if_neg (by simp [he]), if_pos (by simp [he])]
    · rw [if_neg he, if_pos ⟨⟨by simp only [limit]; omega, trivial⟩, by simpa using he⟩]
  by_cases he : r.marks = []
  · have hk := h0 he
    have happ0 : ∀ m : Mem, append0 m (.sl [] .tight) (.sl [] .unk) 5 40 = some (.sl [] .tight, m) := fun m => by simp [append0, Mem.elems]
    have he2 : r.marks.map encM = [] := by rw [he]; rfl
    simp only [go_sem, Nat.reduceEqDiff, Nat.reduceAdd, Nat.reduceLT, Nat.reduceLeDiff, reduceIte, and_self, decide_true, decide_false, beq_self_eq_true, he2, happ0]
    simpa [he2] using hk
  · have := h1 he
    simp only [go_sem, Nat.reduceEqDiff, Nat.reduceAdd, Nat.reduceLT, Nat.reduceLeDiff, reduceIte, and_self, decide_true, decide_false, beq_self_eq_true, happ, he]
    exact this
end Go.Ab.T
end

section
namespace Go.Ab.T
set_option maxRecDepth 8000
set_option linter.unusedSimpArgs false
set_option linter.unusedVariables false
set_option maxHeartbeats 2000000
theorem join_copy (blks : List Blk) (r : Rl) : joinMem ⟨blks, []⟩ ⟨[.live [encR r] 2, .live [.agg [I64 r.feet, .ref 2 0 r.marks.length]] 2, .live (r.marks.map encM) 5], []⟩ 9 =
    ⟨blks ++ [.live [encR r] 2, .live [.agg [I64 r.feet, .ref (blks.length + 2) 0 r.marks.length]] 2, .live (r.marks.map encM) 5], []⟩ := by
  have h : ∀ (k : Nat), (r.marks.map encM).map (shift blks.length 0 (k + 2)) = r.marks.map encM := fun k => by rw [List.map_map]; rfl
  have h2 : shift blks.length 0 9 (encR r) = encR r := by
    show AV.agg [I64 r.feet, .sl ((r.marks.map encM).map (shift blks.length 0 7)) .unk] = _
    rw [h 5]
  simp only [joinMem, List.map_cons, List.map_nil, shiftB, List.length_nil, List.append_nil, h 7, h2]
  rfl
theorem shift_copy (n : Nat) (r : Rl) : shift n 0 9 (.agg [I64 r.feet, .ref 2 0 r.marks.length]) = .agg [I64 r.feet, .ref (n + 2) 0 r.marks.length] := rfl
theorem kind_tear (x : Mk) : (x.kind != 1) = !isTear x := rfl
theorem ReelLiars_run (r : Rl) (which : Int) : RV ft 12 [encR r, I64 which] (.bool true) := by
  refine RV_of ft12 rfl ?_
  simp only [c12, r12]
  cases hr : readyR r
  case false => simp only [go_sem, Nat.reduceEqDiff, Nat.reduceAdd, Nat.reduceLT, Nat.reduceLeDiff, reduceIte, and_self, decide_true, decide_false, beq_self_eq_true, sn_ms, WB40, WVH_eq (ready_ok r), true_and, hot_ms, hr, WB15, WVH_eq works_ok]
  obtain ⟨hn, h0, hok⟩ := ready_spec hr
  have h10 := hok.ten
  obtain ⟨N, hN⟩ : ∃ N, N = fewestL r r.feet.toNat := ⟨_, rfl⟩
  have eF := Fewest_ok r hn
  have eM := Many_ok r hn
  have hF : fewL r = (N : Int) := by unfold fewL; rw [if_pos h0, hN]
  have hM : manyL r = ((TL r).length : Nat) := by unfold manyL; rw [if_pos h0]
  rw [hF, h0] at eF
  rw [hM, h0] at eM
  have hNle : N ≤ r.marks.length := by
    have h2 := (fewest_spec hok).2 _ ⟨_, _, choice_all (tearsL r), rfl⟩
    have h3 := untrueN_le (claimsL r) (andn (allN r.feet.toNat) 0)
    have h4 := marks_len r
    omega
  have hiff := fewest_zero hok
  rw [← hN] at hiff
  have heq : (decide ((0 : Int) < ((TL r).length : Nat)) == ((N : Int) == 0)) = true := by
    by_cases hz : N = 0
    · have : TL r ≠ [] := hiff.1 hz
      have : 0 < (TL r).length := List.length_pos_iff.2 this
      rw [decide_eq_true (by omega), hz]; rfl
    · have : TL r = [] := by
        refine Classical.byContradiction fun h => hz (hiff.2 h)
      rw [this, show ((N : Int) == 0) = false by simpa using hz]; rfl
  have e1 : decide ((N : Int) < 0) = false := decide_eq_false (by omega)
  have e2 : decide ((r.marks.length : Int) < (N : Int)) = false := decide_eq_false (by omega)
  simp only [go_sem, Nat.reduceEqDiff, Nat.reduceAdd, Nat.reduceLT, Nat.reduceLeDiff, reduceIte, and_self, decide_true, decide_false, beq_self_eq_true, sn_ms, WB40, WVH_eq (ready_ok r), true_and, hot_ms, hr, WB19, WVH_eq eF, WB17, WVH_eq eM, show ((0 : Int) != 0) = false from rfl, heq, Bool.not_true, e1, e2, List.length_map]
  refine WL_inv (α := Nat × Bool) (fun a e mm => e 1 = I64 which ∧ e 2 = .ptr 0 0 0 ∧ e 5 = I64 N ∧ e 9 = .bool a.2 ∧ e 10 = I64 a.1 ∧ a.1 ≤ r.marks.length ∧ mm.toks = [] ∧ mm.blks[0]? = some (.live [encR r] 2) ∧
    (N = 0 → a.2 = true) ∧ (0 < N → ∀ j, j < a.1 → fewestL (delR r j) r.feet.toNat + 1 = N → a.2 = true)) (fun a => r.marks.length - a.1) (0, (N : Int) == 0) ?_ ?_
  · simp only [go_sem, Nat.reduceEqDiff, Nat.reduceAdd, Nat.reduceLT, Nat.reduceLeDiff, reduceIte, and_self, decide_true, decide_false, beq_self_eq_true]
    exact ⟨trivial, trivial, trivial, trivial, rfl, by omega, trivial, trivial, fun h => by rw [h]; rfl, fun _ j hj => by omega⟩
  · rintro ⟨i, b⟩ e ⟨blks, toks⟩ ⟨g1, g2, g5, g9, g10, hi, htk, hb0, hz, hp⟩
    dsimp only at g9 g10 hi htk hb0 hz hp
    subst htk
    by_cases hlt : i < r.marks.length
    · have hw : IntKind.i64.wrap ((i : Int) + 1) = ((i + 1 : Nat) : Int) := by rw [wrap_i64 _ (by omega) (by omega)]; rfl
      simp only [go_sem, Nat.reduceEqDiff, Nat.reduceAdd, Nat.reduceLT, Nat.reduceLeDiff, reduceIte, and_self, decide_true, decide_false, beq_self_eq_true, g1, g2, g5, g9, g10, hb0, List.length_map, dec_lt hlt]
      obtain ⟨x, hg⟩ : ∃ x, r.marks[i]? = some x := ⟨r.marks[i], by simp [hlt]⟩
      have hdok := del_ok (i := i) hok
      have hlow := del_low hok hg
      rw [← hN] at hlow
      obtain ⟨k, hk⟩ : ∃ k, k = fewestL (delR r i) r.feet.toNat := ⟨_, rfl⟩
      have hlen : (delR r i).marks.length = r.marks.length - 1 := by
        simp only [delR, List.length_append, List.length_take, List.length_drop]; omega
      have hkle : k ≤ r.marks.length - 1 := by
        have h2 := (fewest_spec hdok).2 _ ⟨_, _, choice_all (tearsL (delR r i)), rfl⟩
        have h3 := untrueN_le (claimsL (delR r i)) (andn (allN r.feet.toNat) 0)
        have h4 := marks_len (delR r i)
        omega
      have hkf : fewL (delR r i) = (k : Int) := by unfold fewL; rw [if_pos (ok_check hdok), hk]; rfl
      have eD := Fewest_ok (delR r i) (ok_near hdok)
      rw [hkf, ok_check hdok] at eD
      have hdel : RV ft 19 [.agg [.int .i64 r.feet, .sl ((r.marks.take i ++ r.marks.drop (i + 1)).map encM) .unk]] (.tup [I64 k, I64 0]) := eD
      have hgt : isTear x = true ∨ k ≤ N := by
        cases ht : isTear x
        · have := del_high hok hg ht; exact Or.inr (by omega)
        · exact Or.inl rfl
      have hwN : IntKind.i64.wrap ((N : Int) - 1) = (N : Int) - 1 := wrap_i64 _ (by omega) (by omega)
      have hbnd : bounds r.marks.length Option.none (some (.int .i64 (i : Int))) = some (0, i) := by
        rw [bounds_ns, if_pos ⟨by omega, by omega, by omega⟩, Int.toNat_natCast]
      have hbnd2 : bounds r.marks.length (some (.int .i64 ((i + 1 : Nat) : Int))) Option.none = some (i + 1, r.marks.length) := by
        rw [bounds_sn, if_pos ⟨by omega, by omega, by omega⟩, Int.toNat_natCast]
      have hsz : hdSz (r.marks.map encM) 5 = true := hdSz_map' encM 5 _ fun _ => rfl
      have htk2 : (r.marks.map encM).drop (i + 1) = (r.marks.drop (i + 1)).map encM := by rw [List.map_drop]
      have htk3 : ((r.marks.drop (i + 1)).map encM).take (r.marks.length - (i + 1)) = (r.marks.drop (i + 1)).map encM := List.take_of_length_le (by simp)
      have hfz : N = 0 → (b || ((k : Int) == (N : Int) - 1)) = true := fun h => by rw [hz h]; rfl
      have hfp : 0 < N → ∀ j, j < i + 1 → fewestL (delR r j) r.feet.toNat + 1 = N → (b || ((k : Int) == (N : Int) - 1)) = true := by
        intro hN0 j hj he
        by_cases hji : j = i
        · subst hji
          have : ((k : Int) == (N : Int) - 1) = true := by simp; omega
          rw [this, Bool.or_true]
        · rw [hp hN0 j (by omega) he]; rfl
      cases hz1 : ((N : Int) == 0)
      all_goals cases hw1 : ((i : Int) != which)
      case true.true =>
        simp only [go_sem, Nat.reduceEqDiff, Nat.reduceAdd, Nat.reduceLT, Nat.reduceLeDiff, reduceIte, and_self, decide_true, decide_false, beq_self_eq_true, g1, g10, hw1, hw]
        refine Nx_of (i + 1, b) (by simp; omega) ?_
        simp only [go_sem, Nat.reduceEqDiff, Nat.reduceAdd, Nat.reduceLT, Nat.reduceLeDiff, reduceIte, and_self, decide_true, decide_false, beq_self_eq_true, g1, g2, g5, g9]
        have hN0 : N = 0 := by have : (N : Int) = 0 := by simpa using hz1
                               omega
        exact ⟨trivial, trivial, trivial, trivial, trivial, by omega, trivial, hb0, hz, fun h => by omega⟩
      all_goals
        simp only [go_sem, Nat.reduceEqDiff, Nat.reduceAdd, Nat.reduceLT, Nat.reduceLeDiff, reduceIte, and_self, decide_true, decide_false, beq_self_eq_true, g1, g2, g5, g9, g10, hb0, hw1, WB16, sn_ms]
        refine Copy_ok r hn.few _ (fun he => by rw [he] at hlt; simp at hlt) fun _ => ?_
        have hl0 := (List.getElem?_eq_some_iff.1 hb0).1
        have hC : (blks ++ [Blk.live [encR r] 2, .live [.agg [I64 r.feet, .ref (blks.length + 2) 0 r.marks.length]] 2, .live (r.marks.map encM) 5] ++ [Blk.live [.agg [I64 r.feet, .ref (blks.length + 2) 0 r.marks.length]] 2])[blks.length + 2]? = some (.live (r.marks.map encM) 5) := by
          refine get_app ?_
          rw [List.getElem?_append_right (by omega), show blks.length + 2 - blks.length = 2 by omega]; rfl
        have hD : (blks ++ [Blk.live [encR r] 2, .live [.agg [I64 r.feet, .ref (blks.length + 2) 0 r.marks.length]] 2, .live (r.marks.map encM) 5] ++ [Blk.live [.agg [I64 r.feet, .ref (blks.length + 2) 0 r.marks.length]] 2])[blks.length + 3]? = some (.live [.agg [I64 r.feet, .ref (blks.length + 2) 0 r.marks.length]] 2) := by
          have := get_last (blks ++ [Blk.live [encR r] 2, .live [.agg [I64 r.feet, .ref (blks.length + 2) 0 r.marks.length]] 2, .live (r.marks.map encM) 5]) (Blk.live [.agg [I64 r.feet, .ref (blks.length + 2) 0 r.marks.length]] 2)
          rwa [show (blks ++ [Blk.live [encR r] 2, .live [.agg [I64 r.feet, .ref (blks.length + 2) 0 r.marks.length]] 2, .live (r.marks.map encM) 5]).length = blks.length + 3 by simp] at this
        have hE : (blks ++ [Blk.live [encR r] 2, .live [.agg [I64 r.feet, .ref (blks.length + 2) 0 r.marks.length]] 2, .live (r.marks.map encM) 5] ++ [Blk.live [.agg [I64 r.feet, .ref (blks.length + 2) 0 r.marks.length]] 2])[0]? = some (.live [encR r] 2) := get_app (get_app hb0)
        have hlen4 : ∀ (A B C : Blk), (blks ++ [A, B, C]).length = blks.length + 3 := by simp
        simp only [go_sem, Nat.reduceEqDiff, Nat.reduceAdd, Nat.reduceLT, Nat.reduceLeDiff, reduceIte, and_self, decide_true, decide_false, beq_self_eq_true, hot_ms, true_and, join_copy, shift_copy]
        have hCl := (List.getElem?_eq_some_iff.1 hC).1
        have hDl := (List.getElem?_eq_some_iff.1 hD).1
        have hsl : sliceAt ⟨(blks ++ [Blk.live [encR r] 2, .live [.agg [I64 r.feet, .ref (blks.length + 2) 0 r.marks.length]] 2, .live (r.marks.map encM) 5] ++ [Blk.live [.agg [I64 r.feet, .ref (blks.length + 2) 0 r.marks.length]] 2]), []⟩ (.ref (blks.length + 2) 0 r.marks.length) Option.none (some (.int .i64 (i : Int))) 5 = some (.ref (blks.length + 2) 0 i) := by
          simp only [sliceAt, lsz, hC, if_true, hbnd, Option.map_some]
          rw [if_neg (by simp)]; simp
        have happ : appendAt ⟨(blks ++ [Blk.live [encR r] 2, .live [.agg [I64 r.feet, .ref (blks.length + 2) 0 r.marks.length]] 2, .live (r.marks.map encM) 5] ++ [Blk.live [.agg [I64 r.feet, .ref (blks.length + 2) 0 r.marks.length]] 2]), []⟩ false (.ref (blks.length + 2) 0 i) (.sl ((r.marks.drop (i + 1)).map encM) .unk) 37 5 40 = some (.ref (blks.length + 2) 0 (r.marks.length - 1), ⟨((blks ++ [Blk.live [encR r] 2, .live [.agg [I64 r.feet, .ref (blks.length + 2) 0 r.marks.length]] 2, .live (r.marks.map encM) 5] ++ [Blk.live [.agg [I64 r.feet, .ref (blks.length + 2) 0 r.marks.length]] 2]).set (blks.length + 2) (Blk.live ((r.marks.take i).map encM ++ (r.marks.drop (i + 1)).map encM ++ (r.marks.map encM).drop (i + (r.marks.length - (i + 1)))) 5)), []⟩) := by
          have hsz2 : hdSz ((r.marks.drop (i + 1)).map encM) 5 = true := hdSz_map' encM 5 _ fun _ => rfl
          simp only [appendAt, Mem.elems, hsz2, hC, List.length_map, List.length_drop]
          rw [if_neg (by simp), if_neg (by simp), if_pos ⟨trivial, by omega⟩, List.map_take]
          simp only [Option.some.injEq, Prod.mk.injEq, AV.ref.injEq, true_and, and_true]
          omega
        have hD3 : ((blks ++ [Blk.live [encR r] 2, .live [.agg [I64 r.feet, .ref (blks.length + 2) 0 r.marks.length]] 2, .live (r.marks.map encM) 5] ++ [Blk.live [.agg [I64 r.feet, .ref (blks.length + 2) 0 r.marks.length]] 2]).set (blks.length + 2) (Blk.live ((r.marks.take i).map encM ++ (r.marks.drop (i + 1)).map encM ++ (r.marks.map encM).drop (i + (r.marks.length - (i + 1)))) 5))[blks.length + 3]? = some (.live [.agg [I64 r.feet, .ref (blks.length + 2) 0 r.marks.length]] 2) := (List.getElem?_set_ne (by omega)).trans hD
        have hC4 : (((blks ++ [Blk.live [encR r] 2, .live [.agg [I64 r.feet, .ref (blks.length + 2) 0 r.marks.length]] 2, .live (r.marks.map encM) 5] ++ [Blk.live [.agg [I64 r.feet, .ref (blks.length + 2) 0 r.marks.length]] 2]).set (blks.length + 2) (Blk.live ((r.marks.take i).map encM ++ (r.marks.drop (i + 1)).map encM ++ (r.marks.map encM).drop (i + (r.marks.length - (i + 1)))) 5)).set (blks.length + 3) (Blk.live [.agg [I64 r.feet, .ref (blks.length + 2) 0 (r.marks.length - 1)]] 2))[blks.length + 2]? = some (Blk.live ((r.marks.take i).map encM ++ (r.marks.drop (i + 1)).map encM ++ (r.marks.map encM).drop (i + (r.marks.length - (i + 1)))) 5) := (List.getElem?_set_ne (by omega)).trans (List.getElem?_set_self hCl)
        have hD4 : (((blks ++ [Blk.live [encR r] 2, .live [.agg [I64 r.feet, .ref (blks.length + 2) 0 r.marks.length]] 2, .live (r.marks.map encM) 5] ++ [Blk.live [.agg [I64 r.feet, .ref (blks.length + 2) 0 r.marks.length]] 2]).set (blks.length + 2) (Blk.live ((r.marks.take i).map encM ++ (r.marks.drop (i + 1)).map encM ++ (r.marks.map encM).drop (i + (r.marks.length - (i + 1)))) 5)).set (blks.length + 3) (Blk.live [.agg [I64 r.feet, .ref (blks.length + 2) 0 (r.marks.length - 1)]] 2))[blks.length + 3]? = some (Blk.live [.agg [I64 r.feet, .ref (blks.length + 2) 0 (r.marks.length - 1)]] 2) := List.getElem?_set_self (by rw [List.length_set]; exact hDl)
        have hE4 : (((blks ++ [Blk.live [encR r] 2, .live [.agg [I64 r.feet, .ref (blks.length + 2) 0 r.marks.length]] 2, .live (r.marks.map encM) 5] ++ [Blk.live [.agg [I64 r.feet, .ref (blks.length + 2) 0 r.marks.length]] 2]).set (blks.length + 2) (Blk.live ((r.marks.take i).map encM ++ (r.marks.drop (i + 1)).map encM ++ (r.marks.map encM).drop (i + (r.marks.length - (i + 1)))) 5)).set (blks.length + 3) (Blk.live [.agg [I64 r.feet, .ref (blks.length + 2) 0 (r.marks.length - 1)]] 2))[0]? = some (.live [encR r] 2) := (List.getElem?_set_ne (by omega)).trans ((List.getElem?_set_ne (by omega)).trans hE)
        have hels : ((r.marks.take i).map encM ++ (r.marks.drop (i + 1)).map encM ++ (r.marks.map encM).drop (i + (r.marks.length - (i + 1)))).take (r.marks.length - 1) = (r.marks.take i ++ r.marks.drop (i + 1)).map encM := by
          rw [List.map_append, List.take_append_of_le_length (by simp; omega), List.take_of_length_le (by simp; omega)]
        have hln : decide (0 + (r.marks.length - 1) ≤ ((r.marks.take i).map encM ++ (r.marks.drop (i + 1)).map encM ++ (r.marks.map encM).drop (i + (r.marks.length - (i + 1)))).length) = true := decide_eq_true (by simp; omega)
        have hln2 : (r.marks.length - 1 ≤ ((r.marks.take i).map encM ++ (r.marks.drop (i + 1)).map encM ++ (r.marks.map encM).drop (i + (r.marks.length - (i + 1)))).length) = True := eq_true (by simp; omega)
        have hJ : (joinMem ⟨blks, []⟩ ⟨[.live [encR r] 2, .live [.agg [I64 r.feet, .ref 2 0 r.marks.length]] 2, .live (r.marks.map encM) 5], []⟩ 9).blks.length = blks.length + 3 := by rw [join_copy]; exact hlen4 _ _ _
        simp only [go_sem, Nat.reduceEqDiff, Nat.reduceAdd, Nat.reduceLT, Nat.reduceLeDiff, reduceIte, and_self, decide_true, decide_false, beq_self_eq_true, hlen4, hJ, g1, g2, g5, g9, g10, hE, hD, hsl, hsz, List.length_map, hw, hbnd2, htk2, htk3, happ, hD3, hD4, hC4, hE4, Nat.zero_add, hln2, hels, WB19]
        have hsn : ∀ (M : Mem) (l : List Mk), (l.map encM).map (snap M 7) = l.map encM := fun M l => by rw [List.map_map]; rfl
        have hkl : decide ((k : Int) < (N : Int) - 1) = false := decide_eq_false (by omega)
        have hgg : (r.marks.map encM)[i]? = some (encM x) := by rw [List.getElem?_map, hg]; rfl
        have hdg : (x.kind != 1) = true → decide ((N : Int) < (k : Int)) = false := by
          rw [kind_tear]
          rcases hgt with h | h
          · rw [h]; simp
          · exact fun _ => decide_eq_false (by omega)
        simp only [go_sem, Nat.reduceEqDiff, Nat.reduceAdd, Nat.reduceLT, Nat.reduceLeDiff, reduceIte, and_self, decide_true, decide_false, beq_self_eq_true, hsn, WVH_eq hdel, hwN, hkl, hgg, g1, g2, g5, g9, g10, hE4, show ((0 : Int) != 0) = false from rfl, true_and, dec_nn, Int.toNat_natCast]
        cases hkk : (x.kind != 1)
        case' true =>
          have hdg' := hdg hkk
          simp only [go_sem, Nat.reduceEqDiff, Nat.reduceAdd, Nat.reduceLT, Nat.reduceLeDiff, reduceIte, and_self, decide_true, decide_false, beq_self_eq_true, hkk, hdg', g1, g2, g5, g9, g10]
        case' false =>
          simp only [go_sem, Nat.reduceEqDiff, Nat.reduceAdd, Nat.reduceLT, Nat.reduceLeDiff, reduceIte, and_self, decide_true, decide_false, beq_self_eq_true, hkk, g1, g2, g5, g9, g10]
        all_goals cases b
        all_goals
          simp only [go_sem, Nat.reduceEqDiff, Nat.reduceAdd, Nat.reduceLT, Nat.reduceLeDiff, reduceIte, and_self, decide_true, decide_false, beq_self_eq_true, g1, g2, g5, g9, g10, hwN]
        all_goals
          first
            | (refine Nx_of (i + 1, (k : Int) == (N : Int) - 1) (by simp; omega) ?_
               simp only [go_sem, Nat.reduceEqDiff, Nat.reduceAdd, Nat.reduceLT, Nat.reduceLeDiff, reduceIte, and_self, decide_true, decide_false, beq_self_eq_true, g1, g2, g5, g9, g10, hw]
               exact ⟨trivial, trivial, trivial, trivial, trivial, by omega, trivial, hE4, hfz, hfp⟩)
            | (refine Nx_of (i + 1, true) (by simp; omega) ?_
               simp only [go_sem, Nat.reduceEqDiff, Nat.reduceAdd, Nat.reduceLT, Nat.reduceLeDiff, reduceIte, and_self, decide_true, decide_false, beq_self_eq_true, g1, g2, g5, g9, g10, hw]
               exact ⟨trivial, trivial, trivial, trivial, trivial, by omega, trivial, hE4, fun _ => trivial, fun _ _ _ _ => trivial⟩)
    · obtain rfl : i = r.marks.length := by omega
      have hbt : b = true := by
        by_cases hz0 : N = 0
        · exact hz hz0
        · obtain ⟨j, hj1, hj2⟩ := del_some hok (by omega)
          exact hp (by omega) j hj1 (by rw [hN]; exact hj2)
      subst hbt
      simp only [go_sem, Nat.reduceEqDiff, Nat.reduceAdd, Nat.reduceLT, Nat.reduceLeDiff, reduceIte, and_self, decide_true, decide_false, beq_self_eq_true, g2, g9, g10, hb0, List.length_map, dec_ge (Nat.le_refl _), WB15, WVH_eq works_ok, true_and]
end Go.Ab.T
end
