/-
  A part of the proofs over this seat.
  (The texts AxR29, one behind the other.)
-/
import Derived.Test.YtbbpdlobjbpchaaDoorP6
set_option linter.unusedSimpArgs false
set_option linter.unusedVariables false
set_option linter.unusedSectionVars false
section
namespace Go.Ab.T
set_option maxRecDepth 8000
set_option linter.unusedSimpArgs false
set_option linter.unusedVariables false
set_option maxHeartbeats 4000000
/-- A slice that is built by appending, behind other tokens. -/
def AccP (pre : List (Nat × Nat)) (T : Nat) (es : List AV) (v : AV) (toks : List (Nat × Nat)) : Prop := (es = [] ∧ v = .sl [] .tight ∧ toks = pre) ∨ (es ≠ [] ∧ v = .sl es (.at pre.length) ∧ toks = pre ++ [(es.length, T)])
theorem AccP_nil (pre : List (Nat × Nat)) (T : Nat) : AccP pre T [] (.sl [] .tight) pre := Or.inl ⟨rfl, rfl, rfl⟩
theorem AccP.app {pre : List (Nat × Nat)} {T : Nat} {es : List AV} {v : AV} {toks : List (Nat × Nat)} (h : AccP pre T es v toks) {y : AV} {tk : Tk} {sz bytes : Nat} {blks : List Blk} {K : AV × Mem → Prop}
    (hs : ∀ e ∈ es, e.cells.length = sz) (hy : y.cells.length = sz) (hl : (es.length + 1) * (bytes + 1) ≤ limit)
    (hk : ∀ v' toks', AccP pre T (es ++ [y]) v' toks' → K (v', ⟨blks, toks'⟩)) : @OptH _ (appendAt ⟨blks, toks⟩ false v (.sl [y] tk) T sz bytes) ⟨K⟩ := by
  have h1 : hdSz [y] sz = true := by simp [hdSz, hy]
  have h2 : hdSz es sz = true := by
    cases es with
    | nil => rfl
    | cons e r => simp [hdSz, hs e (by simp)]
  rcases h with ⟨rfl, rfl, rfl⟩ | ⟨hne, rfl, rfl⟩
  · simp only [appendAt, Mem.elems, h1, h2, OptH, List.length_cons, List.length_nil, List.nil_append, appTk]
    simp only [List.length_nil] at hl
    rw [if_neg (by simp), if_pos ⟨by simpa using hl, trivial⟩]
    exact hk _ _ (Or.inr ⟨by simp, rfl, by simp⟩)
  · simp only [appendAt, Mem.elems, h1, h2, OptH, List.length_cons, List.length_nil, appTk]
    rw [if_neg (by simp), if_pos ⟨by simpa using hl, trivial⟩]
    have h3 : es.length ≠ 0 := by simpa using hne
    have h4 : (pre ++ [(es.length, T)])[pre.length]? = some (es.length, T) := by simp
    have h5 : (pre ++ [(es.length, T)]).set pre.length (es.length + 1, T) = pre ++ [(es.length + 1, T)] := by simp
    simp only [Bool.false_eq_true, if_false, Nat.zero_add, Nat.succ_ne_zero, h4, h5]
    rw [if_pos ⟨trivial, h3⟩]
    exact hk _ _ (Or.inr ⟨by simp, rfl, by simp⟩)
theorem AccP.snap {pre : List (Nat × Nat)} {T : Nat} {es : List AV} {v : AV} {toks : List (Nat × Nat)} (h : AccP pre T es v toks) (m : Mem) (k : Nat) : snap m (k + 1) v = .sl (es.map (snap m k)) .unk := by
  rcases h with ⟨rfl, rfl, _⟩ | ⟨_, rfl, _⟩ <;> rfl
theorem rs_get (l : List Rl) (k : Nat) : (l.map encR)[k]? = l[k]?.map encR := List.getElem?_map
def encNs (l : List (List Nat)) : List AV := l.map fun x => .sl (x.map fun (i : Nat) => I64 i) .unk
theorem Ns_get (l : List (List Nat)) (k : Nat) : (encNs l)[k]? = l[k]?.map fun x => .sl (x.map fun (i : Nat) => I64 i) .unk := List.getElem?_map
theorem Ns_len (l : List (List Nat)) : (encNs l).length = l.length := List.length_map _
def sureF (all : List (List Nat)) (n : Nat) : Bool := all.any fun l => l.all fun t => t.testBit n
theorem foot_one (l : List Nat) (n : Nat) : (footOf l n == 1) = l.all fun t => t.testBit n := by
  unfold footOf
  cases l.all fun t => t.testBit n
  · simp only [Bool.false_eq_true, if_false]; split <;> rfl
  · rfl
theorem lacks_filter {l : List Rl} {q : Rl} (hq : l[0]? = some q) (hl : lacksE l = 0) (hn : ∀ r ∈ l, Near r) : lacksL l = (List.range q.feet.toNat).filter fun n => !sureF (l.map knownL) n := by
  have hf : firstE l = 0 := by
    refine Classical.byContradiction fun hf => ?_
    unfold lacksE at hl; rw [if_neg hf] at hl; exact hf hl
  have hsame : sameL l = true := by
    refine Classical.byContradiction fun hf2 => ?_
    unfold lacksE at hl; rw [if_pos hf, if_neg hf2] at hl; cases hl
  have hall := firstE_all hf
  have h0 : feet0 l = q.feet.toNat := by unfold feet0; rw [hq]
  have hqm := List.mem_of_getElem? hq
  have hqok := (hn q hqm).ok (hall q hqm)
  have h9 := hqok.nine
  have hfe : ∀ r ∈ l, r.feet = q.feet := fun r hr => by
    unfold sameL at hsame
    rw [hq] at hsame
    simp only [Bool.and_eq_true, Bool.not_eq_true', List.any_eq_false] at hsame
    have := hsame.2 r hr
    simpa using this
  unfold lacksL listL
  rw [if_pos hl, h0]
  refine List.filter_congr fun n hnm => ?_
  have hlt := List.mem_range.1 hnm
  rw [andn_bit _ _ _ (by omega)]
  have h1 : (allN q.feet.toNat).testBit n = true := by unfold allN; rw [Nat.testBit_two_pow_sub_one, decide_eq_true hlt]
  have h2 : (haveL l).testBit n = sureF (l.map knownL) n := by
    unfold haveL sureF
    rw [have_bit, Nat.zero_testBit, Bool.false_or, List.any_map]
    refine Bool.eq_iff_iff.2 ?_
    rw [List.any_eq_true, List.any_eq_true]
    have hr : ∀ r ∈ l, (sureL r).testBit n = ((knownL r).all fun t => t.testBit n) := fun r hr => by
      rw [sure_bit r n (by rw [hfe r hr]; exact hlt), Bool.eq_iff_iff, List.all_eq_true, List.all_eq_true]
      exact ⟨fun h t ht => h t ((known_mem (hn r hr) (hall r hr) t).1 ht), fun h t ht => h t ((known_mem (hn r hr) (hall r hr) t).2 ht)⟩
    exact ⟨fun ⟨r, h3, h4⟩ => ⟨r, h3, (hr r h3).symm.trans h4⟩, fun ⟨r, h3, h4⟩ => ⟨r, h3, (hr r h3).trans h4⟩⟩
  rw [h1, h2, Bool.true_and]
theorem firstE_drop : ∀ {l : List Rl} {r : Rl}, firstE (r :: l) = if checkR r = 0 then firstE l else checkR r := fun {l r} => rfl
theorem refLacks_ok (l : List Rl) (hl : l.length < 1000000) (hn : ∀ r ∈ l, Near r) : RV ft 38 [encRs l] (.tup [.sl ((lacksL l).map fun (i : Nat) => I64 i) .unk, I64 (lacksE l)]) := by
  refine RV_of ft38 rfl ?_
  simp only [c38, r38]
  simp only [go_sem, Nat.reduceEqDiff, Nat.reduceAdd, Nat.reduceLT, Nat.reduceLeDiff, reduceIte, and_self, decide_true, decide_false, beq_self_eq_true]
  refine WL_inv (α := Nat × List Rl) (fun a e m => e 0 = encRs l ∧ e 4 = I64 a.1 ∧ l.drop a.1 = a.2 ∧ a.1 ≤ l.length ∧ m = ⟨[], []⟩ ∧ firstE a.2 = firstE l) (fun a => l.length - a.1) (0, l) ?_ ?_
  · simp only [go_sem, Nat.reduceEqDiff, Nat.reduceAdd, Nat.reduceLT, Nat.reduceLeDiff, reduceIte, and_self, decide_true, decide_false, beq_self_eq_true]
    exact ⟨trivial, rfl, trivial, Nat.zero_le _, trivial⟩
  rintro ⟨k, ls⟩ e m ⟨g0, g4, hd, hk, rfl, hE⟩
  dsimp only at g4 hd hk hE
  rcases ls with _ | ⟨r, ls⟩
  case cons =>
    obtain ⟨hg, hd', hlt⟩ := drop_cons hd
    have hw : IntKind.i64.wrap ((k : Int) + 1) = ((k + 1 : Nat) : Int) := by rw [wrap_i64 _ (by omega) (by omega)]; rfl
    have hr := hn r (List.mem_of_getElem? hg)
    simp only [go_sem, Nat.reduceEqDiff, Nat.reduceAdd, Nat.reduceLT, Nat.reduceLeDiff, reduceIte, and_self, decide_true, decide_false, beq_self_eq_true, g0, g4, List.length_map, dec_lt hlt, dec_nn, Int.toNat_natCast, rs_get, hg, WB22, sn_ms, WVH_eq (refCheck_ok r hr.few), true_and]
    by_cases h0 : checkR r = 0
    · simp only [go_sem, Nat.reduceEqDiff, Nat.reduceAdd, Nat.reduceLT, Nat.reduceLeDiff, reduceIte, and_self, decide_true, decide_false, beq_self_eq_true, h0, show ((0 : Int) != 0) = false from rfl, g4, hw]
      refine Nx_of (k + 1, ls) (by simp; omega) ?_
      simp only [go_sem, Nat.reduceEqDiff, Nat.reduceAdd, Nat.reduceLT, Nat.reduceLeDiff, reduceIte, and_self, decide_true, decide_false, beq_self_eq_true, g0]
      refine ⟨trivial, trivial, hd', by omega, trivial, ?_⟩
      rw [← hE, firstE_drop, if_pos h0]
    · have hF : firstE l = checkR r := by rw [← hE, firstE_drop, if_neg h0]
      have hL : lacksE l = checkR r := by unfold lacksE; rw [if_neg (by rw [hF]; exact h0), hF]
      have hLL : lacksL l = [] := by unfold lacksL; rw [if_neg (by rw [hL]; exact h0)]
      simp only [go_sem, Nat.reduceEqDiff, Nat.reduceAdd, Nat.reduceLT, Nat.reduceLeDiff, reduceIte, and_self, decide_true, decide_false, beq_self_eq_true, check_ne h0, hL, hLL, List.map_nil]
  have hk' := drop_nil hd
  have hF : firstE l = 0 := hE.symm
  have hall := firstE_all hF
  simp only [go_sem, Nat.reduceEqDiff, Nat.reduceAdd, Nat.reduceLT, Nat.reduceLeDiff, reduceIte, and_self, decide_true, decide_false, beq_self_eq_true, g0, g4, List.length_map, dec_ge hk', WB59, WVH_eq (within_ok _ _ _), true_and]
  cases hin : (decide ((1 : Int) ≤ (l.length : Int)) && decide ((l.length : Int) ≤ 4))
  case false =>
    have hs : sameL l = false := by
      unfold sameL
      cases hq : l[0]? with
      | none => rfl
      | some q =>
        have := (List.getElem?_eq_some_iff.1 hq).1
        rw [decide_eq_true (show (1 : Int) ≤ (l.length : Int) by omega), Bool.true_and] at hin
        have : ¬ (l.length : Int) ≤ 4 := by simpa using hin
        rw [decide_eq_false (show ¬ l.length ≤ 4 by omega)]; rfl
    have hL : lacksE l = 1 := by unfold lacksE; rw [if_pos hF, hs]; rfl
    have hLL : lacksL l = [] := by unfold lacksL; rw [if_neg (by rw [hL]; decide)]
    simp only [go_sem, Nat.reduceEqDiff, Nat.reduceAdd, Nat.reduceLT, Nat.reduceLeDiff, reduceIte, and_self, decide_true, decide_false, beq_self_eq_true, Bool.not_false, hL, hLL, List.map_nil]
  have hlen : 1 ≤ l.length ∧ l.length ≤ 4 := by simp only [Bool.and_eq_true, decide_eq_true_eq] at hin; omega
  obtain ⟨q, hq⟩ : ∃ q, l[0]? = some q := ⟨l[0], by simp [hlen.1]⟩
  have hqm := List.mem_of_getElem? hq
  have hqok := (hn q hqm).ok (hall q hqm)
  have h9 := hqok.nine
  have hqf := hqok.feet
  simp only [go_sem, Nat.reduceEqDiff, Nat.reduceAdd, Nat.reduceLT, Nat.reduceLeDiff, reduceIte, and_self, decide_true, decide_false, beq_self_eq_true, Bool.not_true]
  refine WL_inv (α := Nat × List Rl) (fun a e m => e 0 = encRs l ∧ e 6 = I64 a.1 ∧ l.drop a.1 = a.2 ∧ a.1 ≤ l.length ∧ m = ⟨[], []⟩ ∧ (l.any fun r => r.feet != q.feet) = a.2.any fun r => r.feet != q.feet) (fun a => l.length - a.1) (0, l) ?_ ?_
  · simp only [go_sem, Nat.reduceEqDiff, Nat.reduceAdd, Nat.reduceLT, Nat.reduceLeDiff, reduceIte, and_self, decide_true, decide_false, beq_self_eq_true, g0]
    exact ⟨trivial, rfl, trivial, Nat.zero_le _, trivial⟩
  rintro ⟨k2, ls⟩ e m ⟨g0, g6, hd, hk, rfl, hA⟩
  dsimp only at g6 hd hk hA
  rcases ls with _ | ⟨r, ls⟩
  case cons =>
    obtain ⟨hg, hd', hlt⟩ := drop_cons hd
    have hw : IntKind.i64.wrap ((k2 : Int) + 1) = ((k2 + 1 : Nat) : Int) := by rw [wrap_i64 _ (by omega) (by omega)]; rfl
    simp only [go_sem, Nat.reduceEqDiff, Nat.reduceAdd, Nat.reduceLT, Nat.reduceLeDiff, reduceIte, and_self, decide_true, decide_false, beq_self_eq_true, g0, g6, List.length_map, dec_lt hlt, dec_nn, Int.toNat_natCast, rs_get, hg, hq, show decide ((0 : Int) ≤ 0) = true from rfl, show Int.toNat 0 = 0 from rfl]
    cases hf : (r.feet != q.feet)
    · simp only [go_sem, Nat.reduceEqDiff, Nat.reduceAdd, Nat.reduceLT, Nat.reduceLeDiff, reduceIte, and_self, decide_true, decide_false, beq_self_eq_true, g6, hw]
      refine Nx_of (k2 + 1, ls) (by simp; omega) ?_
      simp only [go_sem, Nat.reduceEqDiff, Nat.reduceAdd, Nat.reduceLT, Nat.reduceLeDiff, reduceIte, and_self, decide_true, decide_false, beq_self_eq_true, g0]
      refine ⟨trivial, trivial, hd', by omega, trivial, ?_⟩
      rw [hA, List.any_cons, hf, Bool.false_or]
    · have hs : sameL l = false := by
        unfold sameL
        rw [hq]
        simp only [hA, List.any_cons, hf, Bool.true_or, Bool.not_true, Bool.and_false]
      have hL : lacksE l = 1 := by unfold lacksE; rw [if_pos hF, hs]; rfl
      have hLL : lacksL l = [] := by unfold lacksL; rw [if_neg (by rw [hL]; decide)]
      simp only [go_sem, Nat.reduceEqDiff, Nat.reduceAdd, Nat.reduceLT, Nat.reduceLeDiff, reduceIte, and_self, decide_true, decide_false, beq_self_eq_true, hL, hLL, List.map_nil]
  have hk2 := drop_nil hd
  have hs : sameL l = true := by
    unfold sameL
    rw [hq]
    simp only [hA, List.any_nil, Bool.not_false, Bool.and_true, decide_eq_true_eq]
    exact hlen.2
  have hLE : lacksE l = if noneL l then 3 else 0 := by unfold lacksE; rw [if_pos hF, if_pos hs]
  simp only [go_sem, Nat.reduceEqDiff, Nat.reduceAdd, Nat.reduceLT, Nat.reduceLeDiff, reduceIte, and_self, decide_true, decide_false, beq_self_eq_true, g0, g6, List.length_map, dec_ge hk2]
  refine WL_inv (α := Nat × List Rl) (fun a e m => e 0 = encRs l ∧ e 8 = I64 a.1 ∧ l.drop a.1 = a.2 ∧ a.1 ≤ l.length ∧ m.blks = [] ∧ Acc 43 (encNs ((l.take a.1).map knownL)) (e 7) m.toks ∧ noneL l = noneL a.2) (fun a => l.length - a.1) (0, l) ?_ ?_
  · simp only [go_sem, Nat.reduceEqDiff, Nat.reduceAdd, Nat.reduceLT, Nat.reduceLeDiff, reduceIte, and_self, decide_true, decide_false, beq_self_eq_true, g0]
    exact ⟨trivial, rfl, trivial, Nat.zero_le _, trivial, Acc_nil _, trivial⟩
  rintro ⟨k3, ls⟩ e ⟨blks, toks⟩ ⟨g0, g8, hd, hk, hb, hacc, hN⟩
  dsimp only at g8 hd hk hb hacc hN
  subst hb
  rcases ls with _ | ⟨r, ls⟩
  case cons =>
    obtain ⟨hg, hd', hlt⟩ := drop_cons hd
    have hw : IntKind.i64.wrap ((k3 : Int) + 1) = ((k3 + 1 : Nat) : Int) := by rw [wrap_i64 _ (by omega) (by omega)]; rfl
    have hrm := List.mem_of_getElem? hg
    have hr := hn r hrm
    have h0 := hall r hrm
    by_cases ht : TL r = []
    · have hkn := known_ok r hr
      rw [errT_none h0 ht] at hkn
      have hL : lacksE l = 3 := by
        rw [hLE, hN]
        have : noneL (r :: ls) = true := by unfold noneL; rw [List.any_cons, ht]; rfl
        rw [this]; rfl
      have hLL : lacksL l = [] := by unfold lacksL; rw [if_neg (by rw [hL]; decide)]
      simp only [go_sem, Nat.reduceEqDiff, Nat.reduceAdd, Nat.reduceLT, Nat.reduceLeDiff, reduceIte, and_self, decide_true, decide_false, beq_self_eq_true, g0, g8, List.length_map, dec_lt hlt, dec_nn, Int.toNat_natCast, rs_get, hg, WB65, sn_ms, hot_ms, WVH_eq hkn, true_and, show ((3 : Int) != 0) = true from rfl, hL, hLL, List.map_nil]
    · have hkn := known_ok r hr
      rw [errT_ne h0 ht] at hkn
      have htk : l.take (k3 + 1) = l.take k3 ++ [r] := by rw [List.take_add_one, hg]; rfl
      simp only [go_sem, Nat.reduceEqDiff, Nat.reduceAdd, Nat.reduceLT, Nat.reduceLeDiff, reduceIte, and_self, decide_true, decide_false, beq_self_eq_true, g0, g8, List.length_map, dec_lt hlt, dec_nn, Int.toNat_natCast, rs_get, hg, WB65, sn_ms, hot_ms, WVH_eq hkn, true_and, show ((0 : Int) != 0) = false from rfl]
      refine hacc.app (y := .sl ((knownL r).map fun (i : Nat) => I64 i) .unk) (sz := 1) (bytes := 24) (fun e he => by obtain ⟨a, _, rfl⟩ := List.mem_map.1 he; rfl) rfl (by rw [Ns_len, List.length_map, List.length_take]; unfold limit; omega) fun v' toks' ha' => ?_
      simp only [go_sem, Nat.reduceEqDiff, Nat.reduceAdd, Nat.reduceLT, Nat.reduceLeDiff, reduceIte, and_self, decide_true, decide_false, beq_self_eq_true, g8, hw]
      refine Nx_of (k3 + 1, ls) (by simp; omega) ?_
      simp only [go_sem, Nat.reduceEqDiff, Nat.reduceAdd, Nat.reduceLT, Nat.reduceLeDiff, reduceIte, and_self, decide_true, decide_false, beq_self_eq_true, g0]
      refine ⟨trivial, trivial, hd', by omega, trivial, ?_, ?_⟩
      · rw [htk, List.map_append]
        unfold encNs at ha' ⊢
        rw [List.map_append]; exact ha'
      · rw [hN]
        unfold noneL
        have : ((TL r).length == 0) = false := by
          have : (TL r).length ≠ 0 := fun h => ht (List.length_eq_zero_iff.1 h)
          simpa using this
        rw [List.any_cons, this, Bool.false_or]
  have hk3 := drop_nil hd
  have hL : lacksE l = 0 := by rw [hLE, hN]; rfl
  have hlf := lacks_filter hq hL hn
  rw [List.take_of_length_le hk3] at hacc
  obtain ⟨hne, hv7, htk⟩ : encNs (l.map knownL) ≠ [] ∧ e 7 = .sl (encNs (l.map knownL)) (.at 0) ∧ toks = [((encNs (l.map knownL)).length, 43)] := by
    rcases hacc with ⟨h1, _⟩ | h1
    · have := congrArg List.length h1
      rw [Ns_len, List.length_map, List.length_nil] at this
      omega
    · exact h1
  obtain ⟨all, hal⟩ : ∃ all, all = l.map knownL := ⟨_, rfl⟩
  have hallen : all.length = l.length := by rw [hal, List.length_map]
  have hal512 : ∀ x ∈ all, x.length ≤ 512 := fun x hx => by
    rw [hal] at hx
    obtain ⟨r, h1, rfl⟩ := List.mem_map.1 hx
    exact known_len (hn r h1)
  rw [← hal] at hv7 htk hlf
  simp only [go_sem, Nat.reduceEqDiff, Nat.reduceAdd, Nat.reduceLT, Nat.reduceLeDiff, reduceIte, and_self, decide_true, decide_false, beq_self_eq_true, g0, g8, List.length_map, dec_ge hk3]
  refine WL_inv (α := Nat) (fun n e m => e 0 = encRs l ∧ e 7 = .sl (encNs all) (.at 0) ∧ e 12 = I64 n ∧ n ≤ q.feet.toNat ∧ m.blks = [] ∧ ∃ es : List Nat, AccP [(all.length, 43)] 3 (es.map fun (i : Nat) => I64 i) (e 11) m.toks ∧ es = (List.range n).filter fun n => !sureF all n) (fun n => q.feet.toNat - n) 0 ?_ ?_
  · simp only [go_sem, Nat.reduceEqDiff, Nat.reduceAdd, Nat.reduceLT, Nat.reduceLeDiff, reduceIte, and_self, decide_true, decide_false, beq_self_eq_true, g0, hv7, htk, Ns_len]
    exact ⟨trivial, trivial, rfl, Nat.zero_le _, trivial, [], AccP_nil _ _, rfl⟩
  rintro n e ⟨blks, toks⟩ ⟨g0, g7, g12, hnq, hb, es, hacc2, hes⟩
  dsimp only at hb hacc2
  subst hb
  by_cases hnl : n < q.feet.toNat
  case neg =>
    obtain rfl : n = q.feet.toNat := by omega
    simp only [go_sem, Nat.reduceEqDiff, Nat.reduceAdd, Nat.reduceLT, Nat.reduceLeDiff, reduceIte, and_self, decide_true, decide_false, beq_self_eq_true, g0, g7, g12, rs_get, hq, show decide ((0 : Int) ≤ 0) = true from rfl, show Int.toNat 0 = 0 from rfl, decide_eq_false (show ¬ ((q.feet.toNat : Nat) : Int) < q.feet by omega), hacc2.snap, List.map_map, hL, hlf, ← hes]
    rfl
  have hw : IntKind.i64.wrap ((n : Int) + 1) = ((n + 1 : Nat) : Int) := by rw [wrap_i64 _ (by omega) (by omega)]; rfl
  simp only [go_sem, Nat.reduceEqDiff, Nat.reduceAdd, Nat.reduceLT, Nat.reduceLeDiff, reduceIte, and_self, decide_true, decide_false, beq_self_eq_true, g0, g7, g12, rs_get, hq, show decide ((0 : Int) ≤ 0) = true from rfl, show Int.toNat 0 = 0 from rfl, decide_eq_true (show (n : Int) < q.feet by omega)]
  refine WL_inv (α := Nat × List (List Nat) × Bool) (fun a e m => e 0 = encRs l ∧ e 7 = .sl (encNs all) (.at 0) ∧ e 12 = I64 n ∧ e 13 = .bool a.2.2 ∧ e 14 = I64 a.1 ∧ all.drop a.1 = a.2.1 ∧ a.1 ≤ all.length ∧ m = ⟨[], toks⟩ ∧ AccP [(all.length, 43)] 3 (es.map fun (i : Nat) => I64 i) (e 11) toks ∧ sureF all n = (a.2.2 || sureF a.2.1 n)) (fun a => all.length - a.1) (0, all, false) ?_ ?_
  · simp only [go_sem, Nat.reduceEqDiff, Nat.reduceAdd, Nat.reduceLT, Nat.reduceLeDiff, reduceIte, and_self, decide_true, decide_false, beq_self_eq_true, g0, g7, g12]
    exact ⟨trivial, trivial, trivial, trivial, rfl, trivial, Nat.zero_le _, trivial, hacc2, trivial⟩
  rintro ⟨j, xs, s⟩ e m ⟨g0, g7, g12, g13, g14, hd, hj, rfl, hacc2, hS⟩
  dsimp only at g13 g14 hd hj hS
  rcases xs with _ | ⟨x, xs⟩
  case cons =>
    obtain ⟨hg, hd', hlt⟩ := drop_cons hd
    have hwj : IntKind.i64.wrap ((j : Int) + 1) = ((j + 1 : Nat) : Int) := by rw [wrap_i64 _ (by omega) (by omega)]; rfl
    have hf := foot68 x n (by omega) (hal512 x (List.mem_of_getElem? hg))
    cases s
    · simp only [go_sem, Nat.reduceEqDiff, Nat.reduceAdd, Nat.reduceLT, Nat.reduceLeDiff, reduceIte, and_self, decide_true, decide_false, beq_self_eq_true, g0, g7, g12, g13, g14, Ns_len, dec_lt hlt, dec_nn, Int.toNat_natCast, Ns_get, hg, WB68, sn_nats, hot_nats, WVH_eq hf, true_and, foot_one, hwj]
      refine Nx_of (j + 1, xs, x.all fun t => t.testBit n) (by simp; omega) ?_
      simp only [go_sem, Nat.reduceEqDiff, Nat.reduceAdd, Nat.reduceLT, Nat.reduceLeDiff, reduceIte, and_self, decide_true, decide_false, beq_self_eq_true, g0, g7, g12]
      refine ⟨trivial, trivial, trivial, trivial, trivial, hd', by omega, trivial, hacc2, ?_⟩
      rw [hS, Bool.false_or]; rfl
    · simp only [go_sem, Nat.reduceEqDiff, Nat.reduceAdd, Nat.reduceLT, Nat.reduceLeDiff, reduceIte, and_self, decide_true, decide_false, beq_self_eq_true, g0, g7, g12, g13, g14, Ns_len, dec_lt hlt, hwj]
      refine Nx_of (j + 1, xs, true) (by simp; omega) ?_
      simp only [go_sem, Nat.reduceEqDiff, Nat.reduceAdd, Nat.reduceLT, Nat.reduceLeDiff, reduceIte, and_self, decide_true, decide_false, beq_self_eq_true, g0, g7, g12]
      refine ⟨trivial, trivial, trivial, trivial, trivial, hd', by omega, trivial, hacc2, ?_⟩
      first | (rw [hS, Bool.true_or]) | (rw [hS, Bool.true_or, Bool.true_or])
  have hj' := drop_nil hd
  have hS' : sureF all n = s := by rw [hS]; show (s || false) = s; rw [Bool.or_false]
  have hx : ((List.range n ++ [n]).filter fun n => !sureF all n) = ((List.range n).filter fun n => !sureF all n) ++ if s then [] else [n] := by
    rw [List.filter_append, List.filter_cons, List.filter_nil, hS']
    cases s <;> rfl
  have hlen' : es.length ≤ n := by rw [hes]; exact Nat.le_trans (List.length_filter_le _ _) (by simp)
  cases s
  · simp only [go_sem, Nat.reduceEqDiff, Nat.reduceAdd, Nat.reduceLT, Nat.reduceLeDiff, reduceIte, and_self, decide_true, decide_false, beq_self_eq_true, g0, g7, g12, g13, g14, Ns_len, dec_ge hj', Bool.not_false]
    refine hacc2.app (y := I64 n) (sz := 1) (bytes := 8) (fun e he => by obtain ⟨a, _, rfl⟩ := List.mem_map.1 he; rfl) rfl (by simp only [List.length_map, limit]; omega) fun v' toks' ha' => ?_
    simp only [go_sem, Nat.reduceEqDiff, Nat.reduceAdd, Nat.reduceLT, Nat.reduceLeDiff, reduceIte, and_self, decide_true, decide_false, beq_self_eq_true, g12, hw]
    refine Nx_of (n + 1) (by omega) ?_
    simp only [go_sem, Nat.reduceEqDiff, Nat.reduceAdd, Nat.reduceLT, Nat.reduceLeDiff, reduceIte, and_self, decide_true, decide_false, beq_self_eq_true, g0, g7]
    refine ⟨trivial, trivial, trivial, by omega, trivial, es ++ [n], ?_, ?_⟩
    · rw [List.map_append]; exact ha'
    · first | (rw [hx, hes]; rfl) | (rw [List.range_succ, hx, hes]; rfl)
  · simp only [go_sem, Nat.reduceEqDiff, Nat.reduceAdd, Nat.reduceLT, Nat.reduceLeDiff, reduceIte, and_self, decide_true, decide_false, beq_self_eq_true, g0, g7, g12, g13, g14, Ns_len, dec_ge hj', Bool.not_true, hw]
    refine Nx_of (n + 1) (by omega) ?_
    simp only [go_sem, Nat.reduceEqDiff, Nat.reduceAdd, Nat.reduceLT, Nat.reduceLeDiff, reduceIte, and_self, decide_true, decide_false, beq_self_eq_true, g0, g7]
    refine ⟨trivial, trivial, trivial, by omega, trivial, es, hacc2, ?_⟩
    first | (rw [hx, hes]; simp) | (rw [List.range_succ, hx, hes]; simp)
theorem ReelLacks_run (l : List Rl) : RV ft 6 [encRs l] (.bool true) := by
  refine RV_of ft6 rfl ?_
  simp only [c6, r6]
  cases c1 : decide (8 < (l.length : Int))
  case true => simp only [go_sem, Nat.reduceEqDiff, Nat.reduceAdd, Nat.reduceLT, Nat.reduceLeDiff, reduceIte, and_self, decide_true, decide_false, beq_self_eq_true, List.length_map, c1, WB15, WVH_eq works_ok, true_and]
  have hlen : l.length ≤ 8 := by have := of_decide_eq_false c1; omega
  simp only [go_sem, Nat.reduceEqDiff, Nat.reduceAdd, Nat.reduceLT, Nat.reduceLeDiff, reduceIte, and_self, decide_true, decide_false, beq_self_eq_true, List.length_map, c1]
  refine WL_inv (α := Nat × List Rl) (fun a e m => e 0 = encRs l ∧ e 4 = I64 a.1 ∧ l.drop a.1 = a.2 ∧ a.1 ≤ l.length ∧ m.blks = [] ∧ Acc 24 ((l.take a.1).map encR) (e 3) m.toks ∧ ∀ r ∈ l.take a.1, Near r) (fun a => l.length - a.1) (0, l) ?_ ?_
  · simp only [go_sem, Nat.reduceEqDiff, Nat.reduceAdd, Nat.reduceLT, Nat.reduceLeDiff, reduceIte, and_self, decide_true, decide_false, beq_self_eq_true]
    exact ⟨trivial, rfl, trivial, Nat.zero_le _, trivial, Acc_nil _, fun r hr => by simp at hr⟩
  rintro ⟨k, ls⟩ e ⟨blks, toks⟩ ⟨g0, g4, hd, hk, hb, hacc, hN⟩
  dsimp only at g4 hd hk hb hacc hN
  subst hb
  rcases ls with _ | ⟨r, ls⟩
  case cons =>
    obtain ⟨hg, hd', hlt⟩ := drop_cons hd
    have hw : IntKind.i64.wrap ((k : Int) + 1) = ((k + 1 : Nat) : Int) := by rw [wrap_i64 _ (by omega) (by omega)]; rfl
    have htk : l.take (k + 1) = l.take k ++ [r] := by rw [List.take_add_one, hg]; rfl
    have hc := Far_ok r
    cases hr : farR r
    case true =>
      rw [hr] at hc
      simp only [go_sem, Nat.reduceEqDiff, Nat.reduceAdd, Nat.reduceLT, Nat.reduceLeDiff, reduceIte, and_self, decide_true, decide_false, beq_self_eq_true, g0, g4, List.length_map, dec_lt hlt, dec_nn, Int.toNat_natCast, rs_get, hg, WB14, sn_ms, hot_ms, WVH_eq hc, true_and, WB15, WVH_eq works_ok]
    case false =>
      have hn := near_of hr
      rw [hr] at hc
      simp only [go_sem, Nat.reduceEqDiff, Nat.reduceAdd, Nat.reduceLT, Nat.reduceLeDiff, reduceIte, and_self, decide_true, decide_false, beq_self_eq_true, g0, g4, List.length_map, dec_lt hlt, dec_nn, Int.toNat_natCast, rs_get, hg, WB14, sn_ms, hot_ms, WVH_eq hc, true_and, WF16, WVH_eq (CopyV_ok r hn.few)]
      refine hacc.app (y := encR r) (sz := 2) (bytes := 32) (fun e he => by obtain ⟨a, _, rfl⟩ := List.mem_map.1 he; rfl) rfl (by rw [List.length_map, List.length_take]; unfold limit; omega) fun v' toks' ha' => ?_
      simp only [go_sem, Nat.reduceEqDiff, Nat.reduceAdd, Nat.reduceLT, Nat.reduceLeDiff, reduceIte, and_self, decide_true, decide_false, beq_self_eq_true, g4, hw]
      refine Nx_of (k + 1, ls) (by simp; omega) ?_
      simp only [go_sem, Nat.reduceEqDiff, Nat.reduceAdd, Nat.reduceLT, Nat.reduceLeDiff, reduceIte, and_self, decide_true, decide_false, beq_self_eq_true, g0]
      refine ⟨trivial, trivial, hd', by omega, trivial, ?_, fun r' hr' => ?_⟩
      · rw [htk, List.map_append]; exact ha'
      · rw [htk] at hr'
        rcases List.mem_append.1 hr' with h | h
        · exact hN r' h
        · simp at h; subst h; exact hn
  have hk' := drop_nil hd
  rw [List.take_of_length_le hk'] at hN hacc
  have h3 : ∀ m : Mem, snap m 9 (e 3) = encRs l := fun m => by rw [hacc.snap, sn_rs]
  have h3h : hot 9 (e 3) = false := by
    rcases hacc with ⟨h1, h2, _⟩ | ⟨h1, h2, _⟩
    · rw [h2]; rfl
    · rw [h2]; exact hot_rs 4 l
  have hlb : (lacksL l).length < 1000000 := by
    have h1 := lacksL_len l
    by_cases hE : lacksE l = 0
    · have hf : firstE l = 0 := by
        refine Classical.byContradiction fun hf => ?_
        unfold lacksE at hE; rw [if_neg hf] at hE; exact hf hE
      have : feet0 l ≤ 9 := by
        unfold feet0
        cases hq : l[0]? with
        | none => simp
        | some q => exact ((hN q (List.mem_of_getElem? hq)).ok (firstE_all hf q (List.mem_of_getElem? hq))).nine
      omega
    · have : lacksL l = [] := by unfold lacksL; rw [if_neg hE]
      rw [this]; simp
  have hsame := sameInts_ok ((lacksL l).map fun (i : Nat) => (i : Int)) ((lacksL l).map fun (i : Nat) => (i : Int)) (by simpa using hlb)
  rw [(sameI_iff _ _).2 rfl] at hsame
  unfold encI at hsame
  rw [← i64_id] at hsame
  have he : (lacksE l == lacksE l) = true := by simp
  simp only [go_sem, Nat.reduceEqDiff, Nat.reduceAdd, Nat.reduceLT, Nat.reduceLeDiff, reduceIte, and_self, decide_true, decide_false, beq_self_eq_true, g0, g4, List.length_map, dec_ge hk', WB37, h3, WVH_eq (Lacks_ok l (by omega) hN), List.all_cons, List.all_nil, h3h, Bool.not_false, true_and, WB38, sn_rs, hot_rs, WVH_eq (refLacks_ok l (by omega) hN), WB39, sn_nats, hot_nats, WVH_eq hsame, he, WB15, WVH_eq works_ok]
end Go.Ab.T
end
