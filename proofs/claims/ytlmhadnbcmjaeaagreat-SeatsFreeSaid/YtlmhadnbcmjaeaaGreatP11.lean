/-
 A part of the proofs over this seat.
 (The texts KqK40 KqK41 KqK42 KqK43 KqK44, one behind the other.)
-/
import Derived.Test.YtlmhadnbcmjaeaaGreatP10
set_option linter.unusedSimpArgs false
set_option linter.unusedVariables false
set_option linter.unusedSectionVars false
section
namespace Go.Ab.T
set_option maxRecDepth 8000
set_option maxHeartbeats 4000000
theorem lexP_tri (a b : Nat × Nat) : lexP a b ∨ a = b ∨ lexP b a := by
 unfold lexP
 by_cases h1 : a.1 = b.1
 ·by_cases h2 : a.2 = b.2
  ·exact .inr (.inl (Prod.ext h1 h2))
  ·omega
 ·omega
theorem find_first {l : List (Nat × Nat)} (hp : l.Pairwise lexP) {p : Nat × Nat → Bool} {q : Nat × Nat} (hm : q ∈ l) (hq : p q = true) (hb : ∀ q' ∈ l, lexP q' q → p q' = false) : l.find? p = some q := by
 cases hf : l.find? p with
 | none => rw [List.find?_eq_none] at hf; exact absurd hq (by simpa using hf q hm)
 | some q' =>
  obtain ⟨h1, as, bs, e, hall⟩ := List.find?_eq_some_iff_append.1 hf
  have hm' := List.mem_of_find?_eq_some hf
  rcases lexP_tri q' q with h | h | h
  ·rw [hb q' hm' h] at h1; cases h1
  ·rw [h]
  ·have := hall q (lex_before hp e hm h)
   rw [hq] at this; cases this
theorem bestS_gap0 {s : List (List Int)} {z : Nat} (hz : 1 ≤ z) {r i : Nat} {row : List Int} (hr : s[r]? = some row) (hp : plcR row z (i : Int) = true) (hg : gapR row (i : Int) z = false) (hb : ∀ (r' i' : Nat) (row' : List Int), lexP (r', i') (r, i) → s[r']? = some row' → plcR row' z (i' : Int) = true → gapR row' (i' : Int) z = true) : bestS s z = some (r, i) := by
 unfold bestS bestM
 rw [find_first (plcs_lex hz s 0) ((plcs_iff hz s 0 (r, i)).2 ⟨Nat.zero_le _, row, by rw [Nat.sub_zero]; exact hr, hp⟩) (by rw [noGap_ids s z (r, i) hr, hg]; rfl) (fun q' hq' hl => by
  obtain ⟨_, row', h1, h2⟩ := (plcs_iff hz s 0 q').1 hq'
  rw [Nat.sub_zero] at h1
  rw [noGap_ids s z q' h1, hb q'.1 q'.2 row' hl h1 h2]; rfl)]
 rfl
theorem bestS_gap1 {s : List (List Int)} {z : Nat} (hz : 1 ≤ z) {r i : Nat} {row : List Int} (hr : s[r]? = some row) (hp : plcR row z (i : Int) = true) (hall : ∀ (r' i' : Nat) (row' : List Int), s[r']? = some row' → plcR row' z (i' : Int) = true → gapR row' (i' : Int) z = true) (hb : ∀ (r' i' : Nat) (row' : List Int), lexP (r', i') (r, i) → s[r']? = some row' → plcR row' z (i' : Int) = false) : bestS s z = some (r, i) := by
 have hm := (plcs_iff hz s 0 (r, i)).2 ⟨Nat.zero_le _, row, by rw [Nat.sub_zero]; exact hr, hp⟩
 have hn : (plcs z (idsM s) 0).find? (noGap (idsM s) z) = none := by
  rw [List.find?_eq_none]
  intro q' hq'
  obtain ⟨_, row', h1, h2⟩ := (plcs_iff hz s 0 q').1 hq'
  rw [Nat.sub_zero] at h1
  rw [noGap_ids s z q' h1, hall q'.1 q'.2 row' h1 h2]; decide
 unfold bestS bestM
 rw [hn, Option.none_or]
 have hl := plcs_lex hz s 0
 cases he : plcs z (idsM s) 0 with
 | nil => rw [he] at hm; cases hm
 | cons a l =>
  rw [he] at hm hl
  rw [List.head?_cons]
  rcases List.mem_cons.1 hm with e | e
  ·rw [e]
  ·have h1 := (List.pairwise_cons.1 hl).1 _ e
   obtain ⟨_, row', h2, h3⟩ := (plcs_iff hz s 0 a).1 (by rw [he]; simp)
   rw [Nat.sub_zero] at h2
   rw [hb a.1 a.2 row' h1 h2] at h3; cases h3
theorem bestR_ok (s : List (List Int)) (z : Nat) (hz : 1 ≤ z) (hz2 : z ≤ 12) (hs : s.length ≤ 6) (hr12 : ∀ r ∈ s, r.length ≤ 12) : RV ft 41 [encRows s, I64 (z : Int)] (bestA (bestS s z)) := by
 refine RV_of ft41 rfl ?_
 simp only [c41, r41]
 simp only [go_sem, Nat.reduceEqDiff, Nat.reduceAdd, Nat.reduceLT, Nat.reduceLeDiff, reduceIte]
 refine WL_inv (α := Nat) (fun q e mm => e 0 = encRows s ∧ e 1 = I64 (z : Int) ∧ e 7 = I64 q ∧ q ≤ 2 ∧ (1 ≤ q → ∀ (r' i' : Nat) (row' : List Int), s[r']? = some row' → plcR row' z (i' : Int) = true → gapR row' (i' : Int) z = true) ∧ (q = 2 → ∀ (r' i' : Nat), ¬isPl s z r' i') ∧ mm = .nil) (fun q => 2 - q) 0 ?_ ?_
 ·simp only [go_sem, Nat.reduceEqDiff, Nat.reduceAdd, Nat.reduceLT, Nat.reduceLeDiff, reduceIte]
  exact ⟨t_, t_, rfl, by first | trivial | omega, fun h => absurd h (by simp), fun h => absurd h (by simp), by trivial⟩
 rintro g e mm ⟨g0, g1, g7, hg2, hgap, hnone, rfl⟩
 by_cases hgl : g < 2
 case neg =>
  have e2 : g = 2 := by omega
  have hn := (bestS_none (s := s) hz).2 (hnone e2)
  simp only [go_sem, Nat.reduceEqDiff, Nat.reduceAdd, Nat.reduceLT, Nat.reduceLeDiff, reduceIte, g0, g1, g7, show decide ((g : Int) < 2) = false from decide_eq_false (by omega)]
  rw [hn]; rfl
 have dg : decide ((g : Int) < 2) = true := decide_eq_true (by omega)
 simp only [go_sem, Nat.reduceEqDiff, Nat.reduceAdd, Nat.reduceLT, Nat.reduceLeDiff, reduceIte, g0, g1, g7, dg]
 refine WL_inv (α := Nat × List (List Int)) (fun q e mm => e 0 = encRows s ∧ e 1 = I64 (z : Int) ∧ e 7 = I64 g ∧ e 8 = I64 q.1 ∧ s.drop q.1 = q.2 ∧ (∀ (r' i' : Nat) (row' : List Int), r' < q.1 → s[r']? = some row' → plcR row' z (i' : Int) = true → g = 0 ∧ gapR row' (i' : Int) z = true) ∧ mm = .nil) (fun q => q.2.length) (0, s) ?_ ?_
 ·simp only [go_sem, Nat.reduceEqDiff, Nat.reduceAdd, Nat.reduceLT, Nat.reduceLeDiff, reduceIte, g0, g1, g7]
  exact ⟨t_, t_, t_, rfl, t_, fun r' _ _ h => absurd h (by simp), by trivial⟩
 clear g0 g1 g7 e
 rintro ⟨r, rest⟩ e mm ⟨g0, g1, g7, g8, hd, hbef, rfl⟩
 dsimp only at g8 hd hbef
 cases rest with
 | nil =>
  have h3 := drop_nil hd
  simp only [go_sem, Nat.reduceEqDiff, Nat.reduceAdd, Nat.reduceLT, Nat.reduceLeDiff, reduceIte, g0, g1, g7, g8, Rows_len, dec_ge h3, wrap_n1 g (by omega)]
  refine Nx_of (g + 1) (by omega) ?_
  simp only [go_sem, Nat.reduceEqDiff, Nat.reduceAdd, Nat.reduceLT, Nat.reduceLeDiff, reduceIte, g0, g1]
  have hall : ∀ (r' i' : Nat) (row' : List Int), s[r']? = some row' → plcR row' z (i' : Int) = true → g = 0 ∧ gapR row' (i' : Int) z = true := fun r' i' row' h1 h2 => hbef r' i' row' (by have := (List.getElem?_eq_some_iff.1 h1).1; omega) h1 h2
  refine ⟨t_, t_, t_, by first | trivial | omega, fun _ r' i' row' h1 h2 => (hall r' i' row' h1 h2).2, fun h2 r' i' hp => ?_, t_⟩
  obtain ⟨row', h1, h3⟩ := hp
  have := (hall r' i' row' h1 h3).1
  omega
 | cons row rest =>
  obtain ⟨hk, hd2, hlt⟩ := drop_cons hd
  have hrl := hr12 row (List.mem_of_getElem? hk)
  simp only [go_sem, Nat.reduceEqDiff, Nat.reduceAdd, Nat.reduceLT, Nat.reduceLeDiff, reduceIte, g0, g1, g7, g8, Rows_len, dec_lt hlt]
  refine WL_inv (α := Nat) (fun q e mm => e 0 = encRows s ∧ e 1 = I64 (z : Int) ∧ e 7 = I64 g ∧ e 8 = I64 r ∧ e 9 = I64 q ∧ q ≤ 13 ∧ (∀ i' : Nat, i' < q → plcR row z (i' : Int) = true → g = 0 ∧ gapR row (i' : Int) z = true) ∧ mm = .nil) (fun q => 13 - q) 0 ?_ ?_
  ·simp only [go_sem, Nat.reduceEqDiff, Nat.reduceAdd, Nat.reduceLT, Nat.reduceLeDiff, reduceIte, g0, g1, g7, g8]
   exact ⟨t_, t_, t_, t_, rfl, by first | trivial | omega, fun i' h => absurd h (by simp), by trivial⟩
  clear g0 g1 g7 g8 e
  rintro i e mm ⟨g0, g1, g7, g8, g9, hi, hbi, rfl⟩
  have w1 : IntKind.i64.wrap ((i : Int) + (z : Int)) = (i : Int) + z := wrap_i64 _ (by omega) (by omega)
  cases hle : decide ((i : Int) + (z : Int) ≤ (row.length : Int))
  ·have hle' := of_decide_eq_false hle
   simp only [go_sem, Nat.reduceEqDiff, Nat.reduceAdd, Nat.reduceLT, Nat.reduceLeDiff, reduceIte, g0, g1, g7, g8, g9, w1, Rows_idx hk, Is_len, hle, wrap_n1 r (by omega)]
   refine Nx_of (r + 1, rest) (by simp) ?_
   simp only [go_sem, Nat.reduceEqDiff, Nat.reduceAdd, Nat.reduceLT, Nat.reduceLeDiff, reduceIte, g0, g1, g7]
   refine ⟨t_, t_, t_, t_, hd2, fun r' i' row' h1 h2 h3 => ?_, t_⟩
   by_cases hrr : r' < r
   ·exact hbef r' i' row' hrr h2 h3
   ·have e1 : r' = r := by omega
    rw [e1, hk] at h2
    cases h2
    have := plcR_fit hz h3
    exact hbi i' (by omega) h3
  ·have hle' := of_decide_eq_true hle
   have hP := IsPlace_ok row (i : Int) z (by omega) (by omega) (by omega)
   have hG := Gap_ok row (i : Int) (z : Int) (by omega) (by omega) (by omega) (by omega)
   have hnext : ∀ (ho : plcR row z (i : Int) = true → g = 0 ∧ gapR row (i : Int) z = true), ∀ i' : Nat, i' < i + 1 → plcR row z (i' : Int) = true → g = 0 ∧ gapR row (i' : Int) z = true := fun ho i' h1 h2 => by
    by_cases e1 : i' = i
    ·rw [e1] at h2 ⊢; exact ho h2
    ·exact hbi i' (by omega) h2
   cases hp : plcR row z (i : Int)
   ·rw [hp] at hP
    simp only [go_sem, Nat.reduceEqDiff, Nat.reduceAdd, Nat.reduceLT, Nat.reduceLeDiff, reduceIte, g0, g1, g7, g8, g9, w1, Rows_idx hk, Is_len, hle, WB43, snIs, hotIs, WVH_eq hP, true_and, wrap_n1 i (by omega)]
    refine Nx_of (i + 1) (by omega) ?_
    simp only [go_sem, Nat.reduceEqDiff, Nat.reduceAdd, Nat.reduceLT, Nat.reduceLeDiff, reduceIte, g0, g1, g7, g8]
    exact ⟨t_, t_, t_, t_, t_, by first | trivial | omega, hnext (fun h => by rw [hp] at h; cases h), t_⟩
   rw [hp] at hP
   have hbl : ∀ (r' i' : Nat) (row' : List Int), lexP (r', i') (r, i) → s[r']? = some row' → plcR row' z (i' : Int) = true → g = 0 ∧ gapR row' (i' : Int) z = true := fun r' i' row' hl h1 h2 => by
    rcases hl with hl | ⟨e1, hl⟩
    ·exact hbef r' i' row' hl h1 h2
    ·dsimp only at e1 hl
     rw [e1, hk] at h1
     cases h1
     exact hbi i' hl h2
   cases hge : ((g : Int) == 1)
   ·have g0' : g = 0 := by
     have : (g : Int) ≠ 1 := by simpa using hge
     omega
    cases hgp : gapR row (i : Int) z
    ·rw [hgp] at hG
     simp only [go_sem, Nat.reduceEqDiff, Nat.reduceAdd, Nat.reduceLT, Nat.reduceLeDiff, reduceIte, g0, g1, g7, g8, g9, w1, Rows_idx hk, Is_len, hle, WB43, snIs, hotIs, WVH_eq hP, true_and, hge, WB62, WVH_eq hG]
     rw [bestS_gap0 hz hk hp hgp fun r' i' row' hl h1 h2 => (hbl r' i' row' hl h1 h2).2]
     rfl
    ·rw [hgp] at hG
     simp only [go_sem, Nat.reduceEqDiff, Nat.reduceAdd, Nat.reduceLT, Nat.reduceLeDiff, reduceIte, g0, g1, g7, g8, g9, w1, Rows_idx hk, Is_len, hle, WB43, snIs, hotIs, WVH_eq hP, true_and, hge, WB62, WVH_eq hG, wrap_n1 i (by omega)]
     refine Nx_of (i + 1) (by omega) ?_
     simp only [go_sem, Nat.reduceEqDiff, Nat.reduceAdd, Nat.reduceLT, Nat.reduceLeDiff, reduceIte, g0, g1, g7, g8]
     exact ⟨t_, t_, t_, t_, t_, by first | trivial | omega, hnext (fun _ => ⟨g0', hgp⟩), t_⟩
   ·have g1' : g = 1 := by
     have : (g : Int) = 1 := by simpa using hge
     omega
    simp only [go_sem, Nat.reduceEqDiff, Nat.reduceAdd, Nat.reduceLT, Nat.reduceLeDiff, reduceIte, g0, g1, g7, g8, g9, w1, Rows_idx hk, Is_len, hle, WB43, snIs, hotIs, WVH_eq hP, true_and, hge]
    rw [bestS_gap1 hz hk hp (hgap (by omega)) fun r' i' row' hl h1 => by
     cases h2 : plcR row' z (i' : Int)
     ·rfl
     ·have := (hbl r' i' row' hl h1 h2).1; omega]
    rfl
def AppV (T : Nat) (es : List AV) (v : AV) (toks : List (Nat × Nat)) : Prop := (es = [] ∧ v = .sl [] .tight) ∨ (es ≠ [] ∧ ∃ t, v = .sl es (.at t) ∧ toks[t]? = some (es.length, T))
def TkK (T : Nat) (toks toks' : List (Nat × Nat)) : Prop := ∀ (t n T' : Nat), T' ≠ T → toks[t]? = some (n, T') → toks'[t]? = some (n, T')
theorem AppV.keep {T T2 : Nat} {es : List AV} {v : AV} {toks toks' : List (Nat × Nat)} (h : AppV T es v toks) (hne : T ≠ T2) (hk : TkK T2 toks toks') : AppV T es v toks' := by
 rcases h with h | ⟨h1, t, h2, h3⟩
 ·exact .inl h
 ·exact .inr ⟨h1, t, h2, hk t _ _ hne h3⟩
theorem AppV.sl {T : Nat} {es : List AV} {v : AV} {toks : List (Nat × Nat)} (h : AppV T es v toks) : ∃ tk, v = .sl es tk := by
 rcases h with ⟨rfl, rfl⟩ | ⟨_, t, rfl, _⟩ <;> exact ⟨_, rfl⟩
theorem AppV.app {T : Nat} {es : List AV} {v : AV} {toks : List (Nat × Nat)} (h : AppV T es v toks) {y : AV} {tk : Tk} {sz bytes : Nat} {blks : List Blk} {K : AV × Mem → Prop}
  (hs : ∀ e ∈ es, e.cells.length = sz) (hy : y.cells.length = sz) (hl : (es.length + 1) * (bytes + 1) ≤ limit)
  (hk : ∀ v' toks', AppV T (es ++ [y]) v' toks' → TkK T toks toks' → K (v', ⟨blks, toks'⟩)) : @OptH _ (appendAt ⟨blks, toks⟩ false v (.sl [y] tk) T sz bytes) ⟨K⟩ := by
 have h1 : hdSz [y] sz = true := by simp [hdSz, hy]
 have h2 : hdSz es sz = true := by
  cases es with
  | nil => rfl
  | cons e r => simp [hdSz, hs e (by simp)]
 rcases h with ⟨rfl, rfl⟩ | ⟨hne, t, rfl, ht⟩
 ·simp only [appendAt, Mem.elems, h1, h2, OptH, List.length_cons, List.length_nil, List.nil_append, appTk]
  simp only [List.length_nil] at hl
  rw [if_neg (by simp), if_pos ⟨by simpa using hl, t_⟩]
  refine hk _ _ (.inr ⟨by simp, toks.length, rfl, by simp⟩) fun t n T' hT ht => ?_
  rw [List.getElem?_append_left (List.getElem?_eq_some_iff.1 ht).1]; exact ht
 ·simp only [appendAt, Mem.elems, h1, h2, OptH, List.length_cons, List.length_nil, appTk]
  rw [if_neg (by simp), if_pos ⟨by simpa using hl, t_⟩]
  have : es.length ≠ 0 := by simpa using hne
  simp only [Bool.false_eq_true, if_false, Nat.zero_add, Nat.succ_ne_zero]
  rw [if_pos ⟨ht, this⟩]
  have hlt := (List.getElem?_eq_some_iff.1 ht).1
  refine hk _ _ (.inr ⟨by simp, t, rfl, by simp [hlt]⟩) fun t' n T' hT ht' => ?_
  have hne' : t ≠ t' := by rintro rfl; rw [ht] at ht'; cases ht'; exact hT rfl
  rw [List.getElem?_set_ne hne']; exact ht'
theorem AppV.copy {T : Nat} {ys : List AV} {toks : List (Nat × Nat)} {tk : Tk} {sz bytes : Nat} {blks : List Blk} {K : AV × Mem → Prop}
  (hs : hdSz ys sz = true) (hl : ys.length * (bytes + 1) ≤ limit)
  (hk : ∀ v' toks', AppV T ys v' toks' → (∀ T2, T ≠ T2 → TkK T toks toks') → (∀ (t : Nat) (x : Nat × Nat), toks[t]? = some x → toks'[t]? = some x) → K (v', ⟨blks, toks'⟩)) : @OptH _ (appendAt ⟨blks, toks⟩ false (.sl [] .tight) (.sl ys tk) T sz bytes) ⟨K⟩ := by
 simp only [appendAt, Mem.elems, hs, OptH, List.length_nil, Nat.zero_add, appTk, List.nil_append]
 rw [if_neg (by simp), if_pos ⟨by simpa using hl, rfl⟩]
 by_cases hy : ys = []
 ·subst hy
  exact hk _ _ (.inl ⟨rfl, rfl⟩) (fun _ _ t n T' _ h => h) fun t x h => h
 ·have : ys.length ≠ 0 := by simpa using hy
  simp only [Bool.false_eq_true, if_false]
  rw [if_neg this]
  refine hk _ _ (.inr ⟨hy, toks.length, rfl, by simp⟩) (fun _ _ t n T' _ h => ?_) fun t x h => ?_ <;>
  ·rw [List.getElem?_append_left (List.getElem?_eq_some_iff.1 h).1]; exact h
theorem AppV.appL {T : Nat} {es ys : List AV} {v : AV} {toks : List (Nat × Nat)} (h : AppV T es v toks) {tk : Tk} {sz bytes : Nat} {blks : List Blk} {K : AV × Mem → Prop}
  (hs : hdSz es sz = true) (hy : hdSz ys sz = true) (hl : (es.length + ys.length) * (bytes + 1) ≤ limit)
  (hk : ∀ v' toks', AppV T (es ++ ys) v' toks' → K (v', ⟨blks, toks'⟩)) : @OptH _ (appendAt ⟨blks, toks⟩ false v (.sl ys tk) T sz bytes) ⟨K⟩ := by
 rcases h with ⟨rfl, rfl⟩ | ⟨hne, t, rfl, ht⟩
 ·exact AppV.copy hy (by simpa using hl) fun v' toks' h _ _ => hk v' toks' h
 ·simp only [appendAt, Mem.elems, hy, hs, OptH, appTk]
  rw [if_neg (by simp), if_pos ⟨hl, t_⟩]
  simp only [Bool.false_eq_true, if_false]
  by_cases hy0 : ys = []
  ·subst hy0
   rw [List.append_nil] at hk ⊢
   exact hk _ _ (.inr ⟨hne, t, rfl, ht⟩)
  ·have h1 : ys.length ≠ 0 := by simpa using hy0
   have h2 : es.length ≠ 0 := by simpa using hne
   rw [if_neg h1, if_pos ⟨ht, h2⟩]
   have hlt := (List.getElem?_eq_some_iff.1 ht).1
   exact hk _ _ (.inr ⟨by simp [hne], t, rfl, by simp [hlt]⟩)
theorem snCsA' (m : Mem) (q : Nat) (l : List Cl) (t : Tk) : Ab.snap m (q + 3) (.sl (l.map encC) t) = encCs l := by
 show AV.sl ((l.map encC).map (Ab.snap m (q + 2))) .unk = _
 rw [List.map_map, show Ab.snap m (q + 2) ∘ encC = encC from funext fun c => snC m q c]; rfl
theorem hdC (l : List Cl) : hdSz (l.map encC) 5 = true := by
 cases l with
 | nil => rfl
 | cons c r => rfl
theorem app_lit {T : Nat} {y : AV} {ys : List AV} {toks : List (Nat × Nat)} {tk : Tk} {sz bytes : Nat} {blks : List Blk} {K : AV × Mem → Prop} (hy : y.cells.length = sz) (hs : hdSz ys sz = true) (hl : (1 + ys.length) * (bytes + 1) ≤ limit)
  (hk : ∀ tk' toks', K (.sl (y :: ys) tk', ⟨blks, toks'⟩)) : @OptH _ (appendAt ⟨blks, toks⟩ false (.sl [y] .tight) (.sl ys tk) T sz bytes) ⟨K⟩ := by
 have h1 : hdSz [y] sz = true := by simp [hdSz, hy]
 simp only [appendAt, Mem.elems, hs, h1, OptH, List.length_cons, List.length_nil, appTk]
 rw [if_neg (by simp), if_pos ⟨by simpa using hl, t_⟩]
 simp only [Bool.false_eq_true, if_false]
 by_cases h0 : ys.length = 0
 ·rw [if_pos h0]; exact hk _ _
 ·rw [if_neg h0]; exact hk _ _
theorem take_C (m : Mem) (l : List Cl) (tk : Tk) {k : Nat} (hk : k ≤ l.length) : sliceAt m (.sl (l.map encC) tk) none (some (I64 (k : Int))) 5 = some (.sl ((l.take k).map encC) (sltk (l.map encC) tk)) := by
 rw [sliceAt_sl, if_pos (hdC l), bounds_ns, List.length_map, if_pos ⟨by omega, by omega, by omega⟩]
 simp
theorem drop_C (m : Mem) (l : List Cl) (tk : Tk) {k : Nat} (hk : k ≤ l.length) : sliceAt m (.sl (l.map encC) tk) (some (I64 (k : Int))) none 5 = some (.sl ((l.drop k).map encC) (sltk (l.map encC) tk)) := by
 rw [sliceAt_sl, if_pos (hdC l), bounds_sn, List.length_map, if_pos ⟨by omega, by omega, by omega⟩]
 simp
 exact List.take_of_length_le (by simp)
theorem Cs_lenT (m : Mem) (l : List Cl) (tk : Tk) : lenAt m (.sl (l.map encC) tk) = some (I64 l.length) := by rw [lenAt_sl, List.length_map]
theorem Cs_idxT {l : List Cl} {k : Nat} {x : Cl} (h : l[k]? = some x) (m : Mem) (tk : Tk) : idxAt m (.sl (l.map encC) tk) (I64 (k : Int)) 5 = some (.pv (encC x) 0) := by
 rw [idxAt_sl]
 simp [h]
 rfl
theorem asc_at {H : List Cl} (h : asc H) (k : Int) : ∃ a, a ≤ H.length ∧ (∀ c ∈ H.take a, keyC c < k) ∧ ∀ c ∈ H.drop a, k ≤ keyC c := by
 induction H with
 | nil => exact ⟨0, Nat.le_refl 0, fun c hc => (nomatch hc), fun c hc => (nomatch hc)⟩
 | cons x r ih =>
  unfold asc at h
  rw [List.pairwise_cons] at h
  by_cases hx : keyC x < k
  ·obtain ⟨a, h1, h2, h3⟩ := ih h.2
   refine ⟨a + 1, by simp; omega, fun c hc => ?_, h3⟩
   rw [List.take_succ_cons] at hc
   rcases List.mem_cons.1 hc with e | e
   ·rw [e]; exact hx
   ·exact h2 c e
  ·refine ⟨0, Nat.zero_le _, fun c hc => (nomatch hc), fun c hc => ?_⟩
   rcases List.mem_cons.1 hc with e | e
   ·rw [e]; omega
   ·have := h.1 c e; omega
theorem heardR_ok (l : List Cl) (hl : l.length ≤ 1000) (hn : noCl l) (hv : ∀ c ∈ l, CV c) : RV ft 55 [encCs l] (encCs (heardM l)) := by
 refine RV_of ft55 rfl ?_
 simp only [c55, r55]
 simp only [go_sem, Nat.reduceEqDiff, Nat.reduceAdd, Nat.reduceLT, Nat.reduceLeDiff, reduceIte]
 refine WL_inv (α := Nat × List Cl × List Cl) (fun q e mm => e 0 = encCs l ∧ e 4 = I64 q.1 ∧ l.drop q.1 = q.2.1 ∧ asc q.2.2 ∧ (∀ x, x ∈ q.2.2 ↔ x ∈ l.take q.1) ∧ q.2.2.length ≤ q.1 ∧ ∃ v tk, e 3 = v ∧ AppV 57 (q.2.2.map encC) v tk ∧ mm = ⟨[], tk⟩) (fun q => q.2.1.length) (0, l, []) ?_ ?_
 ·simp only [go_sem, Nat.reduceEqDiff, Nat.reduceAdd, Nat.reduceLT, Nat.reduceLeDiff, reduceIte]
  exact ⟨t_, rfl, t_, List.Pairwise.nil, fun x => by simp, by first | trivial | omega, _, _, rfl, .inl ⟨rfl, rfl⟩, rfl⟩
 rintro ⟨i, r, H⟩ e mm ⟨g0, g4, hd, hasc, hmem, hHl, v, tk, g3, hA, rfl⟩
 dsimp only at g4 hd hasc hmem hHl hA
 obtain ⟨t0, rfl⟩ := hA.sl
 cases r with
 | nil =>
  have h3 := drop_nil hd
  have htk : l.take i = l := List.take_of_length_le h3
  rw [htk] at hmem
  simp only [go_sem, Nat.reduceEqDiff, Nat.reduceAdd, Nat.reduceLT, Nat.reduceLeDiff, reduceIte, g0, g3, g4, Cs_len, dec_ge h3]
  rw [heard_uniq hn hv hasc hmem]
  exact snCsA' _ 9 H t0
 | cons c r =>
  obtain ⟨hk, hd2, hlt⟩ := drop_cons hd
  have hcl : c ∈ l := List.mem_of_getElem? hk
  have hcv := hv c hcl
  obtain ⟨a, ha1, ha2, ha3⟩ := asc_at hasc (keyC c)
  have hHv : ∀ d ∈ H, CV d ∧ d ∈ l := fun d hd' => by
   have := List.mem_of_mem_take ((hmem d).1 hd')
   exact ⟨hv d this, this⟩
  simp only [go_sem, Nat.reduceEqDiff, Nat.reduceAdd, Nat.reduceLT, Nat.reduceLeDiff, reduceIte, g0, g3, g4, Cs_len, dec_lt hlt]
  refine WL_inv (α := Nat × List Cl) (fun q e mm => e 0 = encCs l ∧ e 3 = .sl (H.map encC) t0 ∧ e 4 = I64 i ∧ e 5 = I64 (min q.1 a : Nat) ∧ e 6 = .bool (decide (c ∈ H.take q.1)) ∧ e 7 = I64 q.1 ∧ H.drop q.1 = q.2 ∧ mm = ⟨[], tk⟩) (fun q => q.2.length) (0, H) ?_ ?_
  ·simp only [go_sem, Nat.reduceEqDiff, Nat.reduceAdd, Nat.reduceLT, Nat.reduceLeDiff, reduceIte, g0, g3, g4]
   exact ⟨t_, t_, t_, by simp, by simp, rfl, by trivial⟩
  clear g0 g3 g4 e
  rintro ⟨k, r2⟩ e mm ⟨g0, g3, g4, g5, g6, g7, hdk, rfl⟩
  dsimp only at g5 g6 g7 hdk
  cases r2 with
  | cons d r2 =>
   obtain ⟨hkd, hdk2, hltk⟩ := drop_cons hdk
   obtain ⟨hdv, hdl⟩ := hHv d (List.mem_of_getElem? hkd)
   have htk : decide (c ∈ H.take (k + 1)) = (decide (c ∈ H.take k) || decide (d = c)) := by
    rw [take_snoc hkd, Bool.eq_iff_iff, Bool.or_eq_true, decide_eq_true_eq, decide_eq_true_eq, decide_eq_true_eq, List.mem_append, List.mem_singleton]
    exact or_congr_right eq_comm
   have hlt2 : (d.at' < c.at' ∨ (d.at' = c.at' ∧ d.id < c.id)) ↔ keyC d < keyC c := by
    have := hdv.i0; have := hdv.i1; have := hcv.i0; have := hcv.i1
    unfold keyC; omega
   have hka : k < a ↔ keyC d < keyC c := by
    constructor
    ·intro h
     exact ha2 d (by rw [List.mem_iff_getElem?]; exact ⟨k, by rw [List.getElem?_take, if_pos h]; exact hkd⟩)
    ·intro h
     refine Classical.byContradiction fun hn' => ?_
     have : d ∈ H.drop a := by
      rw [List.mem_iff_getElem?]
      exact ⟨k - a, by rw [List.getElem?_drop, show a + (k - a) = k by omega]; exact hkd⟩
     have := ha3 d this
     omega
   have w1 := wrap_n1 k (by omega)
   cases e6 : decide (c ∈ H.take k) <;> cases e8 : decide (d = c) <;> cases e7 : decide (d.at' < c.at') <;> cases e9 : (d.at' == c.at') <;> cases e10 : decide (d.id < c.id)
   all_goals
    simp only [go_sem, Nat.reduceEqDiff, Nat.reduceAdd, Nat.reduceLT, Nat.reduceLeDiff, reduceIte, g0, g3, g4, g5, g6, g7, Cs_lenT, dec_lt hltk, Cs_idxT hkd, Cs_idx hk, CCells, CEta, eqvC, e6, e8, e7, e9, e10, w1, Bool.false_eq_true, if_false, if_true]
    refine Nx_of (k + 1, r2) (by simp) ?_
    simp only [go_sem, Nat.reduceEqDiff, Nat.reduceAdd, Nat.reduceLT, Nat.reduceLeDiff, reduceIte, g0, g3, g4]
    rw [htk, e6, e8]
    simp only [decide_eq_true_eq, decide_eq_false_iff_not, beq_iff_eq, beq_eq_false_iff_ne, ne_eq] at e7 e9 e10
    refine ⟨t_, t_, t_, ?_, by first | trivial | rfl, t_, hdk2, by trivial⟩
    first
    | (rw [g5, show min (k + 1) a = min k a from by omega]; done)
    | rw [show min (k + 1) a = k + 1 from by omega]
  | nil =>
   have h3k := drop_nil hdk
   rw [List.take_of_length_le h3k] at g6
   have ha : min k a = a := by omega
   rw [ha] at g5
   have htk : l.take (i + 1) = l.take i ++ [c] := take_snoc hk
   cases hin : decide (c ∈ H)
   ·have hin' := of_decide_eq_false hin
    rw [hin] at g6
    simp only [go_sem, Nat.reduceEqDiff, Nat.reduceAdd, Nat.reduceLT, Nat.reduceLeDiff, reduceIte, g0, g3, g4, g5, g6, g7, Cs_lenT, dec_ge h3k, Cs_idx hk, CCells, CEta, drop_C _ H t0 ha1, take_C _ H t0 ha1]
    refine app_lit (y := encC c) rfl (hdC _) (by rw [List.length_map, List.length_drop]; unfold limit; omega) fun tk1 toks1 => ?_
    simp only [go_sem, Nat.reduceEqDiff, Nat.reduceAdd, Nat.reduceLT, Nat.reduceLeDiff, reduceIte, g0, g3, g4, g5, take_C _ H t0 ha1]
    refine AppV.copy (T := 57) (ys := (H.take a).map encC) (hdC _) (by rw [List.length_map, List.length_take]; unfold limit; omega) fun v2 toks2 hv2 _ _ => ?_
    simp only [go_sem, Nat.reduceEqDiff, Nat.reduceAdd, Nat.reduceLT, Nat.reduceLeDiff, reduceIte]
    refine AppV.appL hv2 (ys := encC c :: (H.drop a).map encC) (hdC _) rfl (by simp only [List.length_map, List.length_take, List.length_cons, List.length_drop]; unfold limit; omega) fun v3 toks3 hv3 => ?_
    simp only [go_sem, Nat.reduceEqDiff, Nat.reduceAdd, Nat.reduceLT, Nat.reduceLeDiff, reduceIte, g0, g4, wrap_n1 i (by omega)]
    refine Nx_of (i + 1, r, H.take a ++ c :: H.drop a) (by simp) ?_
    simp only [go_sem, Nat.reduceEqDiff, Nat.reduceAdd, Nat.reduceLT, Nat.reduceLeDiff, reduceIte, g0]
    have hne : ∀ d ∈ H, keyC d ≠ keyC c := fun d hd' e' => hin' (by rw [← key_id hn hv (hHv d hd').2 hcl e']; exact hd')
    refine ⟨t_, t_, hd2, ?_, fun x => ?_, ?_, v3, toks3, by first | trivial | rfl, by rw [List.map_append]; exact hv3, rfl⟩
    ·unfold asc at hasc ⊢
     rw [← List.take_append_drop a H, List.pairwise_append] at hasc
     rw [List.pairwise_append, List.pairwise_cons]
     refine ⟨hasc.1, ⟨fun d hd' => ?_, hasc.2.1⟩, fun x hx y hy => ?_⟩
     ·have h1 := ha3 d hd'
      have h2 := hne d (List.mem_of_mem_drop hd')
      omega
     ·rcases List.mem_cons.1 hy with e' | e'
      ·rw [e']; exact ha2 x hx
      ·exact hasc.2.2 x hx y e'
    ·rw [htk, List.mem_append, List.mem_cons, List.mem_append, List.mem_singleton, ← hmem x]
     have : x ∈ H ↔ x ∈ H.take a ∨ x ∈ H.drop a := by rw [← List.mem_append, List.take_append_drop]
     rw [this]
     constructor
     ·rintro (h | h | h)
      ·exact .inl (.inl h)
      ·exact .inr h
      ·exact .inl (.inr h)
     ·rintro ((h | h) | h)
      ·exact .inl h
      ·exact .inr (.inr h)
      ·exact .inr (.inl h)
    ·simp only [List.length_append, List.length_take, List.length_cons, List.length_drop]; omega
   ·have hin' := of_decide_eq_true hin
    rw [hin] at g6
    simp only [go_sem, Nat.reduceEqDiff, Nat.reduceAdd, Nat.reduceLT, Nat.reduceLeDiff, reduceIte, g0, g3, g4, g5, g6, g7, Cs_lenT, dec_ge h3k, wrap_n1 i (by omega)]
    refine Nx_of (i + 1, r, H) (by simp) ?_
    simp only [go_sem, Nat.reduceEqDiff, Nat.reduceAdd, Nat.reduceLT, Nat.reduceLeDiff, reduceIte, g0]
    refine ⟨t_, t_, hd2, hasc, fun x => ?_, by omega, .sl (H.map encC) t0, tk, by first | trivial | rfl | exact g3, hA, rfl⟩
    rw [htk, List.mem_append, List.mem_singleton, ← hmem x]
    constructor
    ·exact .inl
    ·rintro (h | h)
     ·exact h
     ·rw [h]; exact hin'
structure RH (fr : List (Nat × Blk)) (sid pid nid : Nat) (rows : List Rw) (pcs : List Pc) (sn : List Int) (bl : List Blk) : Prop where
 hs : bl[sid]? = some (.live (rows.map refR) 1)
 hr : ∀ p ∈ rows, bl[p.1]? = some (.live (iL p.2) 1)
 hp : bl[pid]? = some (.live (pcs.map encPc) 4)
 hn : bl[nid]? = some (.live (iL sn) 1)
 nd : (rows.map Prod.fst).Nodup
 rs : ∀ p ∈ rows, p.1 ≠ sid ∧ p.1 ≠ nid
 dn : sid ≠ nid
 fr' : ∀ p ∈ fr, bl[p.1]? = some p.2 ∧ p.1 ≠ sid ∧ p.1 ≠ pid ∧ p.1 ≠ nid ∧ ∀ q ∈ rows, q.1 ≠ p.1
theorem RH.pne {fr : List (Nat × Blk)} {sid pid nid : Nat} {rows : List Rw} {pcs : List Pc} {sn : List Int} {bl : List Blk} (h : RH fr sid pid nid rows pcs sn bl) : pid ≠ sid ∧ pid ≠ nid ∧ ∀ q ∈ rows, q.1 ≠ pid := by
 refine ⟨fun e => ?_, fun e => ?_, fun q hq e => ?_⟩
 ·have := h.hp; rw [e, h.hs] at this; simp at this
 ·have := h.hp; rw [e, h.hn] at this; simp at this
 ·have := h.hr q hq; rw [e, h.hp] at this; simp at this
theorem RH.row {fr : List (Nat × Blk)} {sid pid nid : Nat} {rows : List Rw} {pcs : List Pc} {sn : List Int} {bl : List Blk} (h : RH fr sid pid nid rows pcs sn bl) {r : Nat} {q : Rw} (hq : rows[r]? = some q) {row : List Int} (hl : row.length = q.2.length) : RH fr sid pid nid (rows.set r (q.1, row)) pcs sn (bl.set q.1 (.live (iL row) 1)) := by
 have hqm := List.mem_of_getElem? hq
 have hb := h.hr q hqm
 have hlt : q.1 < bl.length := (List.getElem?_eq_some_iff.1 hb).1
 have hrl : r < rows.length := (List.getElem?_eq_some_iff.1 hq).1
 obtain ⟨p1, p2, p3⟩ := h.pne
 have hfst : (rows.set r (q.1, row)).map Prod.fst = rows.map Prod.fst := by
  rw [List.map_set]; apply set_same'; rw [List.getElem?_map, hq]; rfl
 have href : (rows.set r (q.1, row)).map refR = rows.map refR := by
  rw [List.map_set]
  apply set_same'
  rw [List.getElem?_map, hq]
  show some (refR q) = some (refR (q.1, row))
  unfold refR; rw [hl]
 have hin : ∀ p ∈ rows.set r (q.1, row), ∃ p0 ∈ rows, p0.1 = p.1 := fun p hp => by
  have : p.1 ∈ rows.map Prod.fst := by rw [← hfst]; exact List.mem_map.2 ⟨p, hp, rfl⟩
  obtain ⟨p0, h0, e⟩ := List.mem_map.1 this
  exact ⟨p0, h0, e⟩
 refine ⟨by rw [href, List.getElem?_set_ne (h.rs q hqm).1]; exact h.hs, fun p hp => ?_, by rw [List.getElem?_set_ne (p3 q hqm)]; exact h.hp, by rw [List.getElem?_set_ne (h.rs q hqm).2]; exact h.hn, by rw [hfst]; exact h.nd, fun p hp => ?_, h.dn, fun p hp => ?_⟩
 ·obtain ⟨i, hi, rfl⟩ := List.getElem_of_mem hp
  rw [List.length_set] at hi
  rw [List.getElem_set]
  by_cases he : r = i
  ·rw [if_pos he]; dsimp only; rw [List.getElem?_set_self hlt]
  ·rw [if_neg he]
   have hne : q.1 ≠ rows[i].1 := fun e => by
    have h1 : (rows.map Prod.fst)[r]? = some q.1 := by rw [List.getElem?_map, hq]; rfl
    have h2 : (rows.map Prod.fst)[i]? = some q.1 := by rw [List.getElem?_map, List.getElem?_eq_getElem hi, Option.map_some, e]
    exact he ((List.getElem?_inj (by simpa using hrl) h.nd).1 (h1.trans h2.symm))
   rw [List.getElem?_set_ne hne]; exact h.hr _ (List.getElem_mem hi)
 ·obtain ⟨p0, h0, e⟩ := hin p hp
  rw [← e]; exact h.rs p0 h0
 ·obtain ⟨f1, f2, f3, f4, f5⟩ := h.fr' p hp
  refine ⟨by rw [List.getElem?_set_ne (f5 q hqm)]; exact f1, f2, f3, f4, fun q' hq' => ?_⟩
  obtain ⟨p0, h0, e⟩ := hin q' hq'
  rw [← e]; exact f5 p0 h0
theorem RH.setP {fr : List (Nat × Blk)} {sid pid nid : Nat} {rows : List Rw} {pcs : List Pc} {sn : List Int} {bl : List Blk} (h : RH fr sid pid nid rows pcs sn bl) (pcs' : List Pc) : RH fr sid pid nid rows pcs' sn (bl.set pid (.live (pcs'.map encPc) 4)) := by
 obtain ⟨p1, p2, p3⟩ := h.pne
 have hlt : pid < bl.length := (List.getElem?_eq_some_iff.1 h.hp).1
 refine ⟨by rw [List.getElem?_set_ne p1]; exact h.hs, fun p hp => by rw [List.getElem?_set_ne (fun e => p3 p hp e.symm)]; exact h.hr p hp, by rw [List.getElem?_set_self hlt], by rw [List.getElem?_set_ne p2]; exact h.hn, h.nd, h.rs, h.dn, fun p hp => ?_⟩
 obtain ⟨f1, f2, f3, f4⟩ := h.fr' p hp
 exact ⟨by rw [List.getElem?_set_ne (fun e => f3 e.symm)]; exact f1, f2, f3, f4⟩
theorem RH.setN {fr : List (Nat × Blk)} {sid pid nid : Nat} {rows : List Rw} {pcs : List Pc} {sn : List Int} {bl : List Blk} (h : RH fr sid pid nid rows pcs sn bl) (sn' : List Int) : RH fr sid pid nid rows pcs sn' (bl.set nid (.live (iL sn') 1)) := by
 obtain ⟨p1, p2, p3⟩ := h.pne
 have hlt : nid < bl.length := (List.getElem?_eq_some_iff.1 h.hn).1
 refine ⟨by rw [List.getElem?_set_ne h.dn.symm]; exact h.hs, fun p hp => by rw [List.getElem?_set_ne (h.rs p hp).2.symm]; exact h.hr p hp, by rw [List.getElem?_set_ne p2.symm]; exact h.hp, by rw [List.getElem?_set_self hlt], h.nd, h.rs, h.dn, fun p hp => ?_⟩
 obtain ⟨f1, f2, f3, f4, f5⟩ := h.fr' p hp
 exact ⟨by rw [List.getElem?_set_ne (fun e => f4 e.symm)]; exact f1, f2, f3, f4, f5⟩
theorem RH.ext {fr : List (Nat × Blk)} {sid pid nid : Nat} {rows : List Rw} {pcs : List Pc} {sn : List Int} {bl : List Blk} (h : RH fr sid pid nid rows pcs sn bl) (l : List Blk) : RH fr sid pid nid rows pcs sn (bl ++ l) :=
 ⟨gB h.hs l, fun p hp => gB (h.hr p hp) l, gB h.hp l, gB h.hn l, h.nd, h.rs, h.dn, fun p hp => ⟨gB (h.fr' p hp).1 l, (h.fr' p hp).2⟩⟩
theorem RH.addF {fr : List (Nat × Blk)} {sid pid nid : Nat} {rows : List Rw} {pcs : List Pc} {sn : List Int} {bl : List Blk} (h : RH fr sid pid nid rows pcs sn bl) {l : List Blk} {k : Nat} {b : Blk} (hb : l[k]? = some b) : RH ((bl.length + k, b) :: fr) sid pid nid rows pcs sn (bl ++ l) := by
 have h2 := h.ext l
 refine ⟨h2.hs, h2.hr, h2.hp, h2.hn, h.nd, h.rs, h.dn, fun p hp => ?_⟩
 rcases List.mem_cons.1 hp with e | hp
 ·subst e
  have l1 := (List.getElem?_eq_some_iff.1 h.hs).1
  have l2 := (List.getElem?_eq_some_iff.1 h.hp).1
  have l3 := (List.getElem?_eq_some_iff.1 h.hn).1
  refine ⟨by dsimp only; rw [gA]; exact hb, by dsimp only; omega, by dsimp only; omega, by dsimp only; omega, fun q hq => ?_⟩
  have := (List.getElem?_eq_some_iff.1 (h.hr q hq)).1
  dsimp only; omega
 ·exact h2.fr' p hp
theorem RH.sub {fr fr2 : List (Nat × Blk)} {sid pid nid : Nat} {rows : List Rw} {pcs : List Pc} {sn : List Int} {bl : List Blk} (h : RH fr sid pid nid rows pcs sn bl) (hs : ∀ p ∈ fr2, p ∈ fr) : RH fr2 sid pid nid rows pcs sn bl :=
 ⟨h.hs, h.hr, h.hp, h.hn, h.nd, h.rs, h.dn, fun p hp => h.fr' p (hs p hp)⟩
def encHo (sid pid nid nr : Nat) (vn : AV) : AV := .agg [.ref sid 0 nr, .ref pid 0 100, .ref nid 0 100, vn]
theorem HoCells (sid pid nid nr : Nat) (vn : AV) : (encHo sid pid nid nr vn).cells = [.ref sid 0 nr, .ref pid 0 100, .ref nid 0 100, vn] := rfl
theorem part_step {q : Int → Bool} {row : List Int} {j : Nat} {v : Int} (hv : row[j]? = some v) : (offR q (row.take j) ++ row.drop j)[j]? = some v ∧ (offR q (row.take j) ++ row.drop j).set j (if q v = true then -1 else v) = offR q (row.take (j + 1)) ++ row.drop (j + 1) := by
 obtain ⟨hj, e⟩ := List.getElem?_eq_some_iff.1 hv
 have hl : (offR q (row.take j)).length = j := by rw [offR_len, List.length_take]; omega
 have hd : row.drop j = v :: row.drop (j + 1) := by rw [List.drop_eq_getElem_cons hj, e]
 constructor
 ·rw [List.getElem?_append_right (by omega), hl, Nat.sub_self, hd]; rfl
 ·rw [List.set_append_right _ _ (by omega), hl, Nat.sub_self, hd, List.set_cons_zero, take_snoc hv]
  unfold offR
  rw [List.map_append]
  simp
theorem part_same {q : Int → Bool} {row : List Int} {j : Nat} {v : Int} (hv : row[j]? = some v) (hq : q v = false) : offR q (row.take (j + 1)) ++ row.drop (j + 1) = offR q (row.take j) ++ row.drop j := by
 obtain ⟨h1, h2⟩ := part_step (q := q) hv
 rw [← h2, hq, if_neg (by decide)]
 apply set_same' h1
def rowsP (q : Int → Bool) (rows : List Rw) (k j : Nat) : List Rw := rows.mapIdx fun i p => (p.1, if i < k then offR q p.2 else if i = k then offR q (p.2.take j) ++ p.2.drop j else p.2)
theorem rowsP_get (q : Int → Bool) (rows : List Rw) (k j i : Nat) : (rowsP q rows k j)[i]? = rows[i]?.map fun p => (p.1, if i < k then offR q p.2 else if i = k then offR q (p.2.take j) ++ p.2.drop j else p.2) := by
 unfold rowsP; rw [List.getElem?_mapIdx]
theorem rowsP_len (q : Int → Bool) (rows : List Rw) (k j : Nat) : (rowsP q rows k j).length = rows.length := by unfold rowsP; simp
theorem rowsP_next {q : Int → Bool} {rows : List Rw} {k j : Nat} {p : Rw} (hk : rows[k]? = some p) (hj : p.2.length ≤ j) : rowsP q rows k j = rowsP q rows (k + 1) 0 := by
 apply List.ext_getElem?
 intro i
 rw [rowsP_get, rowsP_get]
 cases hi : rows[i]? with
 | none => rfl
 | some x =>
  rw [Option.map_some, Option.map_some]
  congr 2
  by_cases h1 : i < k
  ·rw [if_pos h1, if_pos (by omega)]
  ·by_cases h2 : i = k
   ·rw [h2, hk] at hi
    cases hi
    rw [if_neg h1, if_pos h2, if_pos (by omega), List.take_of_length_le hj, List.drop_of_length_le hj, List.append_nil]
   ·rw [if_neg h1, if_neg h2, if_neg (by omega)]
    by_cases h3 : i = k + 1
    ·rw [if_pos h3]; simp [offR]
    ·rw [if_neg h3]
theorem rowsP_zero (q : Int → Bool) (rows : List Rw) : rowsP q rows 0 0 = rows := by
 apply List.ext_getElem?
 intro i
 rw [rowsP_get]
 cases rows[i]? with
 | none => rfl
 | some x =>
  rw [Option.map_some, if_neg (by omega)]
  by_cases h : i = 0
  ·rw [if_pos h]; simp [offR]
  ·rw [if_neg h]
theorem rowsP_all {q : Int → Bool} {rows : List Rw} {k j : Nat} (hk : rows.length ≤ k) : rowsP q rows k j = rowsD q rows := by
 apply List.ext_getElem?
 intro i
 rw [rowsP_get]
 unfold rowsD
 rw [List.getElem?_map]
 cases hi : rows[i]? with
 | none => rfl
 | some x =>
  have := (List.getElem?_eq_some_iff.1 hi).1
  rw [Option.map_some, Option.map_some, if_pos (by omega)]
theorem rowsP_set {q : Int → Bool} {rows : List Rw} {k j : Nat} {p : Rw} {v : Int} (hk : rows[k]? = some p) (hv : p.2[j]? = some v) (hq : q v = true) : (rowsP q rows k j).set k (p.1, (offR q (p.2.take j) ++ p.2.drop j).set j (-1)) = rowsP q rows k (j + 1) := by
 have h2 := (part_step (q := q) hv).2
 rw [hq, if_pos rfl] at h2
 have hlt := (List.getElem?_eq_some_iff.1 hk).1
 apply List.ext_getElem?
 intro i
 rw [List.getElem?_set, rowsP_len, rowsP_get, rowsP_get]
 by_cases h : k = i
 ·subst h
  rw [if_pos rfl, if_pos hlt, hk, Option.map_some, if_neg (by omega), if_pos rfl, h2]
 ·rw [if_neg h]
  cases rows[i]? with
  | none => rfl
  | some x => rw [Option.map_some, Option.map_some, if_neg (show ¬i = k from fun e => h e.symm), if_neg (show ¬i = k from fun e => h e.symm)]
theorem rowsP_same {q : Int → Bool} {rows : List Rw} {k j : Nat} {p : Rw} {v : Int} (hk : rows[k]? = some p) (hv : p.2[j]? = some v) (hq : q v = false) : rowsP q rows k (j + 1) = rowsP q rows k j := by
 apply List.ext_getElem?
 intro i
 rw [rowsP_get, rowsP_get]
 cases hi : rows[i]? with
 | none => rfl
 | some x =>
  rw [Option.map_some, Option.map_some]
  congr 2
  by_cases h1 : i < k
  ·rw [if_pos h1, if_pos h1]
  ·by_cases h2 : i = k
   ·rw [h2, hk] at hi
    cases hi
    rw [if_neg h1, if_pos h2, if_neg h1, if_pos h2, part_same hv hq]
   ·rw [if_neg h1, if_neg h2, if_neg h1, if_neg h2]
theorem idx_rf {m : Mem} {b n sz : Nat} {es : List AV} (hb : m.blks[b]? = some (.live es sz)) {k : Nat} (hk : k < n) : idxAt m (.ref b 0 n) (I64 (k : Int)) sz = some (.ptr b k 0) := by
 rw [idxAt_ref, if_pos ⟨⟨by omega, by omega⟩, by rw [lsz_eq, hb]; rfl⟩, Int.toNat_natCast, Nat.zero_add]
theorem len_rf {m : Mem} {b n sz : Nat} {es : List AV} (hb : m.blks[b]? = some (.live es sz)) : lenAt m (.ref b 0 n) = some (I64 (n : Int)) := by
 rw [lenAt_ref, if_pos (by rw [lsz_eq, hb]; rfl)]
theorem refs_get {rows : List Rw} {k : Nat} {p : Rw} (h : rows[k]? = some p) : (rows.map refR)[k]? = some (.ref p.1 0 p.2.length) := by rw [List.getElem?_map, h]; rfl
theorem iL_at {l : List Int} {k : Nat} {v : Int} (h : l[k]? = some v) : (iL l)[k]? = some (I64 v) := by unfold iL; rw [List.getElem?_map, h]; rfl
theorem pcs_at {l : List Pc} {k : Nat} {v : Pc} (h : l[k]? = some v) : (l.map encPc)[k]? = some (encPc v) := by rw [List.getElem?_map, h]; rfl
theorem pcs_set (l : List Pc) (k : Nat) (v : Pc) : (l.map encPc).set k (encPc v) = (l.set k v).map encPc := by rw [List.map_set]
theorem iL_set' (l : List Int) (k : Nat) (v : Int) : (iL l).set k (I64 v) = iL (l.set k v) := by unfold iL; rw [List.map_set]
theorem leave_WR {fr : List (Nat × Blk)} {sid pid nid : Nat} {rows : List Rw} {pcs : List Pc} {sn : List Int} {bl : List Blk} (h : RH fr sid pid nid rows pcs sn bl) (vn : AV) (hvc : vn.cells = [vn]) (hvs : vn.solid = true) (hp100 : pcs.length = 100) (hrl : rows.length ≤ 6) (hr12 : ∀ p ∈ rows, p.2.length ≤ 12) {n : Nat} (hn : n < 100) {pc : Pc} (hpc : pcs[n]? = some pc) (st : Int) (tk : List (Nat × Nat)) (K : AV → Mem → Prop)
  (hK : ∀ bl', RH fr sid pid nid (rowsD (· == (n : Int)) rows) (pcs.set n ⟨st, -1, -1, pc.size⟩) sn bl' → K (.tup []) ⟨bl', tk⟩) : WR ft (.f 57) [encHo sid pid nid rows.length vn, I64 (n : Int), I64 st] ⟨bl, tk⟩ K := by
 rw [WR_f ft57 rfl]
 simp only [c57, r57]
 have h1 := h.addF (l := [.live [encHo sid pid nid rows.length vn] 4]) (k := 0) rfl
 rw [Nat.add_zero] at h1
 have hCs : (encHo sid pid nid rows.length vn).cells = [.ref sid 0 rows.length, .ref pid 0 100, .ref nid 0 100, vn] := rfl
 simp only [go_sem, Nat.reduceEqDiff, Nat.reduceAdd, Nat.reduceLT, Nat.reduceLeDiff, reduceIte, hCs, hvs]
 refine WL_inv (α := Nat × List Rw) (fun q e mm => e 1 = I64 (n : Int) ∧ e 2 = I64 st ∧ e 3 = .ptr bl.length 0 0 ∧ e 6 = I64 q.1 ∧ rows.drop q.1 = q.2 ∧ ∃ bl', mm = ⟨bl', tk⟩ ∧ RH ((bl.length, .live [encHo sid pid nid rows.length vn] 4) :: fr) sid pid nid (rowsP (· == (n : Int)) rows q.1 0) pcs sn bl') (fun q => q.2.length) (0, rows) ?_ ?_
 ·simp only [go_sem, Nat.reduceEqDiff, Nat.reduceAdd, Nat.reduceLT, Nat.reduceLeDiff, reduceIte]
  exact ⟨t_, t_, t_, rfl, t_, _, rfl, by rw [rowsP_zero]; exact h1⟩
 rintro ⟨k, rest⟩ e mm ⟨g1, g2, g3, g6, hd, bl', rfl, hR⟩
 dsimp only at g6 hd hR
 have hbox : bl'[bl.length]? = some (.live [encHo sid pid nid rows.length vn] 4) := (hR.fr' _ (List.mem_cons_self ..)).1
 cases rest with
 | nil =>
  have h3 := drop_nil hd
  rw [rowsP_all h3] at hR
  have hpl : pid < bl'.length := (List.getElem?_eq_some_iff.1 hR.hp).1
  have hi := idx_rf (m := ⟨bl', tk⟩) hR.hp (n := 100) hn
  have hpa := pcs_at hpc
  have eP : AV.agg [I64 st, I64 (-1), I64 (-1), I64 pc.size] = encPc ⟨st, -1, -1, pc.size⟩ := rfl
  simp only [go_sem, Nat.reduceEqDiff, Nat.reduceAdd, Nat.reduceLT, Nat.reduceLeDiff, reduceIte, g1, g2, g3, g6, hbox, hCs, len_rf (m := ⟨bl', tk⟩) hR.hs, dec_ge h3, hi, hR.hp, hpa, PcCells, eP, wPc, pcs_set]
  refine hK _ ((hR.setP _).sub fun p hp => List.mem_cons_of_mem _ hp)
 | cons p rest =>
  obtain ⟨hk, hd2, hlt⟩ := drop_cons hd
  have hpr := hr12 p (List.mem_of_getElem? hk)
  have hik := idx_rf (m := ⟨bl', tk⟩) hR.hs hlt
  simp only [go_sem, Nat.reduceEqDiff, Nat.reduceAdd, Nat.reduceLT, Nat.reduceLeDiff, reduceIte, g1, g2, g3, g6, hbox, hCs, len_rf (m := ⟨bl', tk⟩) hR.hs, dec_lt hlt]
  refine WL_inv (α := Nat × List Int) (fun q e mm => e 1 = I64 (n : Int) ∧ e 2 = I64 st ∧ e 3 = .ptr bl.length 0 0 ∧ e 6 = I64 k ∧ e 7 = I64 q.1 ∧ p.2.drop q.1 = q.2 ∧ q.1 ≤ p.2.length ∧ ∃ bl', mm = ⟨bl', tk⟩ ∧ RH ((bl.length, .live [encHo sid pid nid rows.length vn] 4) :: fr) sid pid nid (rowsP (· == (n : Int)) rows k q.1) pcs sn bl') (fun q => q.2.length) (0, p.2) ?_ ?_
  ·simp only [go_sem, Nat.reduceEqDiff, Nat.reduceAdd, Nat.reduceLT, Nat.reduceLeDiff, reduceIte, g1, g2, g3, g6]
   exact ⟨t_, t_, t_, t_, rfl, t_, Nat.zero_le _, bl', rfl, hR⟩
  clear g1 g2 g3 g6 e hbox hR hik
  rintro ⟨j, r2⟩ e mm ⟨g1, g2, g3, g6, g7, hdj, hjl, bl2, rfl, hR⟩
  dsimp only at g7 hdj hjl hR
  have hbox : bl2[bl.length]? = some (.live [encHo sid pid nid rows.length vn] 4) := (hR.fr' _ (List.mem_cons_self ..)).1
  have hik := idx_rf (m := ⟨bl2, tk⟩) hR.hs hlt
  have hgk : (rowsP (· == (n : Int)) rows k j)[k]? = some (p.1, offR (· == (n : Int)) (p.2.take j) ++ p.2.drop j) := by rw [rowsP_get, hk, Option.map_some, if_neg (by omega), if_pos rfl]
  have hlen : (offR (· == (n : Int)) (p.2.take j) ++ p.2.drop j).length = p.2.length := by rw [List.length_append, offR_len, List.length_take, List.length_drop]; omega
  have hrk := refs_get hgk
  dsimp only at hrk
  rw [hlen] at hrk
  have hrb := hR.hr _ (List.mem_of_getElem? hgk)
  dsimp only at hrb
  cases r2 with
  | nil =>
   have h3 := drop_nil hdj
   have hjl' : p.2.length ≤ j := h3
   simp only [go_sem, Nat.reduceEqDiff, Nat.reduceAdd, Nat.reduceLT, Nat.reduceLeDiff, reduceIte, g1, g2, g3, g6, g7, hbox, hCs, hik, hR.hs, hrk, len_rf (m := ⟨bl2, tk⟩) hrb, dec_ge h3, wrap_n1 k (by omega)]
   refine Nx_of (k + 1, rest) (by simp) ?_
   simp only [go_sem, Nat.reduceEqDiff, Nat.reduceAdd, Nat.reduceLT, Nat.reduceLeDiff, reduceIte, g1, g2, g3]
   exact ⟨t_, t_, t_, t_, hd2, bl2, rfl, by rw [← rowsP_next hk hjl']; exact hR⟩
  | cons v r2 =>
   obtain ⟨hv, hdj2, hltj⟩ := drop_cons hdj
   have hps := part_step (q := (· == (n : Int))) hv
   have hva := iL_at hps.1
   have hij := idx_rf (m := ⟨bl2, tk⟩) hrb hltj
   have hrlt : p.1 < bl2.length := (List.getElem?_eq_some_iff.1 hrb).1
   cases hc : (v == (n : Int))
   ·simp only [go_sem, Nat.reduceEqDiff, Nat.reduceAdd, Nat.reduceLT, Nat.reduceLeDiff, reduceIte, g1, g2, g3, g6, g7, hbox, hCs, hik, hR.hs, hrk, hrb, len_rf (m := ⟨bl2, tk⟩) hrb, dec_lt hltj, hij, hva, hc, wrap_n1 j (by omega)]
    refine Nx_of (j + 1, r2) (by simp) ?_
    simp only [go_sem, Nat.reduceEqDiff, Nat.reduceAdd, Nat.reduceLT, Nat.reduceLeDiff, reduceIte, g1, g2, g3, g6]
    exact ⟨t_, t_, t_, t_, t_, hdj2, by omega, bl2, rfl, by rw [rowsP_same hk hv hc]; exact hR⟩
   ·simp only [go_sem, Nat.reduceEqDiff, Nat.reduceAdd, Nat.reduceLT, Nat.reduceLeDiff, reduceIte, g1, g2, g3, g6, g7, hbox, hCs, hik, hR.hs, hrk, hrb, len_rf (m := ⟨bl2, tk⟩) hrb, dec_lt hltj, hij, hva, hc, iL_set', wrap_n1 j (by omega)]
    refine Nx_of (j + 1, r2) (by simp) ?_
    simp only [go_sem, Nat.reduceEqDiff, Nat.reduceAdd, Nat.reduceLT, Nat.reduceLeDiff, reduceIte, g1, g2, g3, g6]
    refine ⟨t_, t_, t_, t_, t_, hdj2, by omega, _, rfl, ?_⟩
    rw [← rowsP_set hk hv hc]
    exact hR.row hgk (by rw [List.length_set])
def lqN (pcs : List Pc) (sn : List Int) (hold m : Int) (i : Nat) : Bool := (pcs.getD i ⟨0, 0, 0, 0⟩).st == 2 && decide (sn.getD i 0 + hold ≤ m)
def lqU (pcs : List Pc) (sn : List Int) (hold m : Int) (k : Nat) (v : Int) : Bool := decide (0 ≤ v) && (decide (v < (k : Int)) && lqN pcs sn hold m v.toNat)
def lpP (pcs : List Pc) (sn : List Int) (hold m : Int) (k : Nat) : List Pc := pcs.mapIdx fun j p => if j < k ∧ lqN pcs sn hold m j = true then ⟨4, -1, -1, p.size⟩ else p
theorem lpP_get (pcs : List Pc) (sn : List Int) (hold m : Int) (k i : Nat) : (lpP pcs sn hold m k)[i]? = pcs[i]?.map fun p => if i < k ∧ lqN pcs sn hold m i = true then ⟨4, -1, -1, p.size⟩ else p := by
 unfold lpP; rw [List.getElem?_mapIdx]
theorem lpP_len (pcs : List Pc) (sn : List Int) (hold m : Int) (k : Nat) : (lpP pcs sn hold m k).length = pcs.length := by unfold lpP; simp
theorem rowsD_rowsD (q q' : Int → Bool) (rows : List Rw) : rowsD q (rowsD q' rows) = rowsD (fun v => q' v || q v) rows := by
 unfold rowsD
 rw [List.map_map]
 apply List.map_congr_left
 intro p _
 simp only [Function.comp]
 rw [offR_offR]
theorem rowsD_none {q : Int → Bool} (rows : List Rw) (h : ∀ v, q v = false) : rowsD q rows = rows := by
 unfold rowsD
 conv => rhs; rw [← List.map_id rows]
 apply List.map_congr_left
 intro p _
 have : offR q p.2 = p.2 := by unfold offR; simp [h]
 rw [this]; rfl
theorem lqU_succ (pcs : List Pc) (sn : List Int) (hold m : Int) (k : Nat) : lqU pcs sn hold m (k + 1) = fun v => lqU pcs sn hold m k v || (v == (k : Int) && lqN pcs sn hold m k) := funext fun v => by
 unfold lqU
 by_cases h0 : 0 ≤ v
 ·by_cases hk : v = (k : Int)
  ·rw [hk, Int.toNat_natCast, decide_eq_true (show (0 : Int) ≤ (k : Int) by omega), decide_eq_true (show (k : Int) < ((k + 1 : Nat) : Int) by omega), decide_eq_false (show ¬(k : Int) < (k : Int) by omega)]
   simp
  ·rw [decide_eq_true h0, show (v == (k : Int)) = false from beq_eq_false_iff_ne.2 hk, Bool.false_and, Bool.or_false]
   by_cases h1 : v < (k : Int)
   ·rw [decide_eq_true h1, decide_eq_true (show v < ((k + 1 : Nat) : Int) by omega)]
   ·rw [decide_eq_false h1, decide_eq_false (show ¬v < ((k + 1 : Nat) : Int) by omega)]
 ·rw [decide_eq_false h0, show (v == (k : Int)) = false from beq_eq_false_iff_ne.2 (by omega)]
  simp
theorem lpP_hit {pcs : List Pc} {sn : List Int} {hold m : Int} {k : Nat} {pc : Pc} (hk : pcs[k]? = some pc) (hq : lqN pcs sn hold m k = true) : (lpP pcs sn hold m k).set k ⟨4, -1, -1, pc.size⟩ = lpP pcs sn hold m (k + 1) := by
 have hlt := (List.getElem?_eq_some_iff.1 hk).1
 apply List.ext_getElem?
 intro i
 rw [List.getElem?_set, lpP_len, lpP_get, lpP_get]
 by_cases h : k = i
 ·subst h
  rw [if_pos rfl, if_pos hlt, hk, Option.map_some, if_pos ⟨by omega, hq⟩]
 ·rw [if_neg h]
  cases pcs[i]? with
  | none => rfl
  | some x =>
   rw [Option.map_some, Option.map_some]
   congr 1
   by_cases hi : i < k ∧ lqN pcs sn hold m i = true
   ·rw [if_pos hi, if_pos ⟨by omega, hi.2⟩]
   ·rw [if_neg hi, if_neg (fun e => hi ⟨by omega, e.2⟩)]
theorem lpP_miss {pcs : List Pc} {sn : List Int} {hold m : Int} {k : Nat} (hq : lqN pcs sn hold m k = false) : lpP pcs sn hold m (k + 1) = lpP pcs sn hold m k := by
 apply List.ext_getElem?
 intro i
 rw [lpP_get, lpP_get]
 cases pcs[i]? with
 | none => rfl
 | some x =>
  rw [Option.map_some, Option.map_some]
  congr 1
  by_cases hi : i < k ∧ lqN pcs sn hold m i = true
  ·rw [if_pos hi, if_pos ⟨by omega, hi.2⟩]
  ·rw [if_neg hi, if_neg]
   rintro ⟨a, b⟩
   by_cases e : i = k
   ·rw [e, hq] at b; cases b
   ·exact hi ⟨by omega, b⟩
theorem lapse_WR {fr : List (Nat × Blk)} {sid pid nid : Nat} {rows : List Rw} {pcs : List Pc} {sn : List Int} {bl : List Blk} (h : RH fr sid pid nid rows pcs sn bl) (vn : AV) (hvc : vn.cells = [vn]) (hvs : vn.solid = true) (hp100 : pcs.length = 100) (hs100 : sn.length = 100) (hsn : ∀ x ∈ sn, 0 ≤ x ∧ x ≤ 9999) (hrl : rows.length ≤ 6) (hr12 : ∀ p ∈ rows, p.2.length ≤ 12) (hl : Hl) (hh0 : 0 ≤ hl.hold) (hh1 : hl.hold ≤ 600) (m : Int) (tk : List (Nat × Nat)) (K : AV → Mem → Prop)
  (hK : ∀ bl', RH fr sid pid nid (rowsD (lqU pcs sn hl.hold m 100) rows) (lpP pcs sn hl.hold m 100) sn bl' → K (.tup []) ⟨bl', tk⟩) : WR ft (.f 56) [encH hl, encHo sid pid nid rows.length vn, I64 m] ⟨bl, tk⟩ K := by
 rw [WR_f ft56 rfl]
 simp only [c56, r56]
 have h1 := h.addF (l := [.live [encH hl] 2, .live [encHo sid pid nid rows.length vn] 4]) (k := 0) rfl
 have h2 := h.addF (l := [.live [encH hl] 2, .live [encHo sid pid nid rows.length vn] 4]) (k := 1) rfl
 rw [Nat.add_zero] at h1
 have h12 : RH ((bl.length, .live [encH hl] 2) :: (bl.length + 1, .live [encHo sid pid nid rows.length vn] 4) :: fr) sid pid nid rows pcs sn (bl ++ [.live [encH hl] 2, .live [encHo sid pid nid rows.length vn] 4]) :=
  ⟨h1.hs, h1.hr, h1.hp, h1.hn, h1.nd, h1.rs, h1.dn, fun p hp => by
   rcases List.mem_cons.1 hp with e | hp
   ·exact h1.fr' p (by rw [e]; exact List.mem_cons_self ..)
   ·exact h2.fr' p hp⟩
 have hCs : (encHo sid pid nid rows.length vn).cells = [.ref sid 0 rows.length, .ref pid 0 100, .ref nid 0 100, vn] := rfl
 have hEt : AV.agg [.ref sid 0 rows.length, .ref pid 0 100, .ref nid 0 100, vn] = encHo sid pid nid rows.length vn := rfl
 have hz0 : lqU pcs sn hl.hold m 0 = fun _ => false := funext fun v => by
  unfold lqU
  by_cases h0 : 0 ≤ v
  ·rw [decide_eq_false (show ¬v < ((0 : Nat) : Int) by omega)]; simp
  ·rw [decide_eq_false h0]; rfl
 have hl0 : lpP pcs sn hl.hold m 0 = pcs := by
  apply List.ext_getElem?
  intro i
  rw [lpP_get]
  cases pcs[i]? with
  | none => rfl
  | some x => rw [Option.map_some, if_neg (by omega)]
 simp only [go_sem, Nat.reduceEqDiff, Nat.reduceAdd, Nat.reduceLT, Nat.reduceLeDiff, reduceIte, hCs, hvs, HCells, List.append_assoc, List.cons_append, List.nil_append, List.length_append, List.length_cons, List.length_nil]
 refine WL_inv (α := Nat) (fun q e mm => e 2 = I64 m ∧ e 3 = .ptr bl.length 0 0 ∧ e 4 = .ptr (bl.length + 1) 0 0 ∧ e 6 = I64 q ∧ q ≤ 100 ∧ ∃ bl', mm = ⟨bl', tk⟩ ∧ RH ((bl.length, .live [encH hl] 2) :: (bl.length + 1, .live [encHo sid pid nid rows.length vn] 4) :: fr) sid pid nid (rowsD (lqU pcs sn hl.hold m q) rows) (lpP pcs sn hl.hold m q) sn bl') (fun q => 100 - q) 0 ?_ ?_
 ·simp only [go_sem, Nat.reduceEqDiff, Nat.reduceAdd, Nat.reduceLT, Nat.reduceLeDiff, reduceIte]
  exact ⟨t_, t_, t_, rfl, by first | trivial | omega, _, rfl, by rw [hz0, rowsD_none rows fun _ => rfl, hl0]; exact h12⟩
 rintro k e mm ⟨g2, g3, g4, g6, hk, bl', rfl, hR⟩
 have hb1 : bl'[bl.length]? = some (.live [encH hl] 2) := (hR.fr' _ (List.mem_cons_self ..)).1
 have hb2 : bl'[bl.length + 1]? = some (.live [encHo sid pid nid rows.length vn] 4) := (hR.fr' (bl.length + 1, _) (List.mem_cons_of_mem _ (List.mem_cons_self ..))).1
 by_cases hk1 : k < 100
 case neg =>
  have ek : k = 100 := by omega
  subst ek
  simp only [go_sem, Nat.reduceEqDiff, Nat.reduceAdd, Nat.reduceLT, Nat.reduceLeDiff, reduceIte, g2, g3, g4, g6, hb1, hb2, hCs, len_rf (m := ⟨bl', tk⟩) hR.hp, show decide (((100 : Nat) : Int) < ((100 : Nat) : Int)) = false from rfl]
  exact hK _ (hR.sub fun p hp => List.mem_cons_of_mem _ (List.mem_cons_of_mem _ hp))
 have hpk : pcs[k]? = some pcs[k] := List.getElem?_eq_getElem (by omega)
 have hsk : sn[k]? = some sn[k] := List.getElem?_eq_getElem (by omega)
 have hq0 : lqN pcs sn hl.hold m k = ((pcs[k]).st == 2 && decide (sn[k] + hl.hold ≤ m)) := by
  unfold lqN
  rw [List.getD_eq_getElem?_getD, List.getD_eq_getElem?_getD, hpk, hsk]; rfl
 have hsb := hsn sn[k] (List.getElem_mem _)
 generalize pcs[k] = pc at hpk hq0
 generalize sn[k] = s0 at hsk hq0 hsb
 have hpk' : (lpP pcs sn hl.hold m k)[k]? = some pc := by rw [lpP_get, hpk, Option.map_some, if_neg (by omega)]
 have hpa := pcs_at hpk'
 have hsa := iL_at hsk
 have hip := idx_rf (m := ⟨bl', tk⟩) hR.hp hk1
 have hin := idx_rf (m := ⟨bl', tk⟩) hR.hn hk1
 have w1 : IntKind.i64.wrap (s0 + hl.hold) = s0 + hl.hold := wrap_i64 _ (by omega) (by omega)
 have d1 : decide ((k : Int) < ((100 : Nat) : Int)) = true := decide_eq_true (by omega)
 have hmiss : lqN pcs sn hl.hold m k = false → RH ((bl.length, .live [encH hl] 2) :: (bl.length + 1, .live [encHo sid pid nid rows.length vn] 4) :: fr) sid pid nid (rowsD (lqU pcs sn hl.hold m (k + 1)) rows) (lpP pcs sn hl.hold m (k + 1)) sn bl' := fun hq => by
  rw [lpP_miss hq, lqU_succ, hq, show (fun v => lqU pcs sn hl.hold m k v || (v == (k : Int) && false)) = lqU pcs sn hl.hold m k from funext fun v => by simp]
  exact hR
 cases e1 : (pc.st == 2)
 ·rw [e1, Bool.false_and] at hq0
  simp only [go_sem, Nat.reduceEqDiff, Nat.reduceAdd, Nat.reduceLT, Nat.reduceLeDiff, reduceIte, g2, g3, g4, g6, hb1, hb2, hCs, HCells, len_rf (m := ⟨bl', tk⟩) hR.hp, d1, hip, hR.hp, hpa, PcCells, e1, wrap_n1 k (by omega)]
  refine Nx_of (k + 1) (by omega) ?_
  simp only [go_sem, Nat.reduceEqDiff, Nat.reduceAdd, Nat.reduceLT, Nat.reduceLeDiff, reduceIte, g2, g3, g4]
  exact ⟨t_, t_, t_, t_, by first | trivial | omega, bl', rfl, hmiss hq0⟩
 cases e2 : decide (s0 + hl.hold ≤ m)
 ·rw [e2, Bool.and_false] at hq0
  simp only [go_sem, Nat.reduceEqDiff, Nat.reduceAdd, Nat.reduceLT, Nat.reduceLeDiff, reduceIte, g2, g3, g4, g6, hb1, hb2, hCs, HCells, len_rf (m := ⟨bl', tk⟩) hR.hp, d1, hip, hin, hR.hp, hR.hn, hpa, hsa, PcCells, e1, w1, e2, wrap_n1 k (by omega)]
  refine Nx_of (k + 1) (by omega) ?_
  simp only [go_sem, Nat.reduceEqDiff, Nat.reduceAdd, Nat.reduceLT, Nat.reduceLeDiff, reduceIte, g2, g3, g4]
  exact ⟨t_, t_, t_, t_, by first | trivial | omega, bl', rfl, hmiss hq0⟩
 ·rw [e1, e2] at hq0
  simp only [go_sem, Nat.reduceEqDiff, Nat.reduceAdd, Nat.reduceLT, Nat.reduceLeDiff, reduceIte, g2, g3, g4, g6, hb1, hb2, hCs, HCells, len_rf (m := ⟨bl', tk⟩) hR.hp, d1, hip, hin, hR.hp, hR.hn, hpa, hsa, PcCells, e1, w1, e2, hEt, WB57]
  show WR ft (.f 57) [encHo sid pid nid rows.length vn, I64 (k : Int), I64 4] _ _
  have hlen : (rowsD (lqU pcs sn hl.hold m k) rows).length = rows.length := by unfold rowsD; rw [List.length_map]
  rw [show encHo sid pid nid rows.length vn = encHo sid pid nid (rowsD (lqU pcs sn hl.hold m k) rows).length vn by rw [hlen]]
  refine leave_WR hR vn hvc hvs (by rw [lpP_len]; exact hp100) (by rw [hlen]; exact hrl) (fun p hp => ?_) hk1 hpk' 4 tk _ fun bl2 hR2 => ?_
  ·unfold rowsD at hp
   obtain ⟨p0, hp0, rfl⟩ := List.mem_map.1 hp
   dsimp only; rw [offR_len]; exact hr12 p0 hp0
  ·rw [rowsD_rowsD, lpP_hit hpk hq0] at hR2
   simp only [go_sem, Nat.reduceEqDiff, Nat.reduceAdd, Nat.reduceLT, Nat.reduceLeDiff, reduceIte, g2, g3, g4, g6, wrap_n1 k (by omega)]
   refine Nx_of (k + 1) (by omega) ?_
   simp only [go_sem, Nat.reduceEqDiff, Nat.reduceAdd, Nat.reduceLT, Nat.reduceLeDiff, reduceIte, g2, g3, g4]
   refine ⟨t_, t_, t_, t_, by first | trivial | omega, bl2, rfl, ?_⟩
   rw [lqU_succ, hq0, show (fun v => lqU pcs sn hl.hold m k v || (v == (k : Int) && (true && true))) = (fun v => lqU pcs sn hl.hold m k v || v == (k : Int)) from funext fun v => by simp, hlen]
   exact hR2
end Go.Ab.T
end
