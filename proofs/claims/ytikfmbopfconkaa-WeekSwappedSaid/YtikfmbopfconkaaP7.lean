/-
  A part of the proofs over this seat.
  (The texts KwK22 KwM4, one behind the other.)
-/
import Derived.Test.YtikfmbopfconkaaP6
set_option linter.unusedSimpArgs false
set_option linter.unusedVariables false
set_option linter.unusedSectionVars false
section
namespace Go.Ab.T
set_option maxRecDepth 8000
set_option maxHeartbeats 4000000
/-- What a set of deals leads to. -/
def getB (x : Nat) : List (Nat × Pg) → Option Pg
  | [] => none
  | (k, q) :: r => if x = k then some q else getB x r
theorem find_get (x : Nat) : ∀ (l : List (Nat × Pg)) (i : Nat), (findB x l i).map (·.2) = getB x l
  | [], _ => rfl
  | (k, q) :: r, i => by
    unfold findB getB
    split
    · rfl
    · exact find_get x r (i + 1)
theorem get_put (x : Nat) (p : Pg) : ∀ l : List (Nat × Pg), getB x (putB l p) = if x = p.kept then (match getB x l with | none => some p | some q => if q.tk < p.tk then some p else some q) else getB x l
  | [] => by
    unfold putB getB
    split <;> rfl
  | (k, q) :: r => by
    unfold putB
    by_cases h : p.kept = k
    · subst h
      rw [if_pos rfl]
      by_cases hx : x = p.kept
      · subst hx
        simp only [if_true, getB]
        split
        · simp only [getB, if_true]
        · simp only [getB, if_true]
      · rw [if_neg hx]
        split <;> simp only [getB, hx, if_false]
    · rw [if_neg h]
      simp only [getB]
      by_cases hx : x = k
      · subst hx
        rw [if_pos rfl, if_neg (fun e => h e.symm), if_pos rfl]
      · rw [if_neg hx, if_neg hx]
        exact get_put x p r
theorem getB_mem {x : Nat} {q : Pg} : ∀ {l : List (Nat × Pg)}, getB x l = some q → (x, q) ∈ l
  | [], h => by cases h
  | (k, q') :: r, h => by
    unfold getB at h
    split at h
    · rename_i e; cases h; subst e; simp
    · exact List.mem_cons_of_mem _ (getB_mem h)
/-- What the best of each set is, after some programs. -/
theorem get_fold (x : Nat) : ∀ (ps : List Pg) (l : List (Nat × Pg)), (∀ q, getB x l = some q → q.kept = x) →
    (getB x (ps.foldl putB l) = none ↔ getB x l = none ∧ ∀ p ∈ ps, p.kept ≠ x) ∧ ∀ q, getB x (ps.foldl putB l) = some q → q.kept = x ∧ (q ∈ ps ∨ getB x l = some q) ∧ (∀ p ∈ ps, p.kept = x → p.tk ≤ q.tk) ∧ ∀ q0, getB x l = some q0 → q0.tk ≤ q.tk
  | [], l, hl => ⟨by simp, fun q hq => ⟨hl q hq, .inr hq, by simp, fun q0 h0 => by rw [List.foldl_nil, h0] at hq; cases hq; exact Int.le_refl _⟩⟩
  | p :: ps, l, hl => by
    have hg := get_put x p l
    have hl2 : ∀ q, getB x (putB l p) = some q → q.kept = x := fun q hq => by
      rw [hg] at hq
      split at hq
      · rename_i e
        split at hq
        · cases hq; exact e.symm
        · rename_i q1 h1
          split at hq
          · cases hq; exact e.symm
          · cases hq; exact hl _ h1
      · exact hl _ hq
    obtain ⟨ih1, ih2⟩ := get_fold x ps (putB l p) hl2
    rw [List.foldl_cons]
    by_cases hx : x = p.kept
    · rw [if_pos hx] at hg
      refine ⟨⟨fun h => ?_, fun h => ?_⟩, fun q hq => ?_⟩
      · have := (ih1.1 h).1
        rw [hg] at this
        split at this
        · cases this
        · split at this <;> cases this
      · exact absurd hx.symm (h.2 p (by simp))
      · obtain ⟨j1, j2, j3, j4⟩ := ih2 q hq
        have hp : p.tk ≤ q.tk ∧ ∀ q0, getB x l = some q0 → q0.tk ≤ q.tk := by
          cases hgl : getB x l with
          | none =>
            rw [hgl] at hg
            exact ⟨j4 p hg, fun q0 h0 => by cases h0⟩
          | some q1 =>
            rw [hgl] at hg
            simp only [] at hg
            split at hg
            · have := j4 p hg
              exact ⟨this, fun q0 h0 => by cases h0; omega⟩
            · have := j4 q1 hg
              exact ⟨by omega, fun q0 h0 => by cases h0; exact this⟩
        refine ⟨j1, ?_, fun p' hp' hk => ?_, hp.2⟩
        · rcases j2 with j2 | j2
          · exact .inl (by simp [j2])
          · rw [hg] at j2
            split at j2
            · cases j2; exact .inl (by simp)
            · rename_i q1 h1
              split at j2
              · cases j2; exact .inl (by simp)
              · cases j2; exact .inr h1
        · rcases List.mem_cons.1 hp' with rfl | hp'
          · exact hp.1
          · exact j3 p' hp' hk
    · rw [if_neg hx] at hg
      rw [hg] at ih1 ih2
      refine ⟨?_, fun q hq => ?_⟩
      · rw [ih1]
        refine ⟨fun ⟨h1, h2⟩ => ⟨h1, fun p' hp' => ?_⟩, fun ⟨h1, h2⟩ => ⟨h1, fun p' hp' => h2 p' (by simp [hp'])⟩⟩
        rcases List.mem_cons.1 hp' with rfl | hp'
        · exact fun e => hx e.symm
        · exact h2 p' hp'
      · obtain ⟨j1, j2, j3, j4⟩ := ih2 q hq
        refine ⟨j1, ?_, fun p' hp' hk => ?_, j4⟩
        · rcases j2 with j2 | j2
          · exact .inl (by simp [j2])
          · exact .inr j2
        · rcases List.mem_cons.1 hp' with rfl | hp'
          · exact absurd hk.symm hx
          · exact j3 p' hp' hk
theorem put_mem {p : Pg} {x : Nat × Pg} : ∀ {l : List (Nat × Pg)}, x ∈ putB l p → x = (p.kept, p) ∨ x ∈ l
  | [], h => .inl (List.mem_singleton.1 h)
  | (k, q) :: r, h => by
    unfold putB at h
    split at h
    · rename_i e
      rcases List.mem_cons.1 h with h | h
      · split at h
        · exact .inl (by rw [h, e])
        · exact .inr (by rw [h]; simp)
      · exact .inr (by simp [h])
    · rcases List.mem_cons.1 h with h | h
      · exact .inr (by rw [h]; simp)
      · rcases put_mem h with h | h
        · exact .inl h
        · exact .inr (by simp [h])
theorem fold_mem {x : Nat × Pg} : ∀ {ps : List Pg} {l : List (Nat × Pg)}, x ∈ ps.foldl putB l → (x.2 ∈ ps ∧ x.1 = x.2.kept) ∨ x ∈ l
  | [], l, h => .inr h
  | p :: ps, l, h => by
    rw [List.foldl_cons] at h
    rcases fold_mem h with h | h
    · exact .inl ⟨by simp [h.1], h.2⟩
    · rcases put_mem h with h | h
      · exact .inl (by rw [h]; simp)
      · exact .inr h
theorem bests_mem {w : Wk} {x : Nat × Pg} (h : x ∈ bestsL w) : x.2 ∈ progs w ∧ x.1 = x.2.kept := by
  rcases fold_mem h with h | h
  · exact h
  · cases h
theorem progsF_OK {w : Wk} (hw : WV w) : ∀ (r : List Mv) (k : Nat) (ps : List Pg), w.films.drop k = r → (∀ p ∈ ps, OKP (2 ^ w.slots.toNat) k p) → ∀ p ∈ progsF w r k ps, OKP (2 ^ w.slots.toNat) (k + r.length) p
  | [], k, ps, _, h => h
  | m :: r, k, ps, hd, h => by
    obtain ⟨hk, hd2, hlt⟩ := drop_cons hd
    have := progsF_OK hw r (k + 1) (ps.flatMap (addF k (outL w m k))) hd2 (fun p hp => by
      obtain ⟨p0, h0, h1⟩ := List.mem_flatMap.1 hp
      exact OKP.next (h p0 h0) (outL_ok hw (List.mem_of_getElem? hk) k) p h1)
    rw [progsF, List.length_cons, show k + (r.length + 1) = k + 1 + r.length by omega]
    exact this
theorem progs_OK {w : Wk} (hw : WV w) : ∀ p ∈ progs w, OKP (2 ^ w.slots.toNat) w.films.length p := by
  have := progsF_OK hw w.films 0 [darkP w] rfl (fun p hp => by rw [List.mem_singleton.1 hp]; exact dark_OK hw)
  rwa [Nat.zero_add] at this
theorem bests_lt {w : Wk} (hw : WV w) : ∀ x ∈ bestsL w, x.1 < 256 := fun x hx => by
  obtain ⟨h1, h2⟩ := bests_mem hx
  rw [h2]; exact (progs_OK hw _ h1).kept
def zeroP : Pg := ⟨0, 0, 0, 0, 0, 0, 0⟩
theorem ZEta : AV.agg [.int .i64 0, .int .u64 0, .int .u64 0, .int .u64 0, .int .u64 0, .int .u64 0, .int .u64 0] = encP zeroP := rfl
def allD (w : Wk) : Nat := 2 ^ w.deals.length - 1
def bestO (w : Wk) : Pg × Int := if chkW w = 0 then (match getB (allD w) (bestsL w) with | none => (zeroP, 3) | some q => (q, 0)) else (zeroP, chkW w)
theorem best_ok (w : Wk) : RV ft 49 [encW w] (.tup [encP (bestO w).1, I64 (bestO w).2]) := by
  refine RV_of ft49 rfl ?_
  simp only [c49, r49]
  unfold bestO
  by_cases h0 : chkW w = 0
  case neg =>
    have n0 : (chkW w != 0) = true := by rw [bne, beq_eq_false_iff_ne.2 h0]; rfl
    simp only [go_sem, Nat.reduceEqDiff, Nat.reduceAdd, Nat.reduceLT, Nat.reduceLeDiff, reduceIte, WCells, WEta, FCells, FEta, DCells, DEta, cellsIs, solidIs, cellsFs, solidFs, cellsDs, solidDs, Bool.and_self, Is_len, Fs_len, Ds_len, true_and, snW, hotW, snD, hotD, snIs, hotIs, WB14, WVH_eq (Check_ok w), n0, if_neg h0]
    rfl
  have hw := WV_of (chkW_ok h0).1
  have hds := chkW_DV h0
  have hD := hw.d
  simp only [go_sem, Nat.reduceEqDiff, Nat.reduceAdd, Nat.reduceLT, Nat.reduceLeDiff, reduceIte, WCells, WEta, FCells, FEta, DCells, DEta, cellsIs, solidIs, cellsFs, solidFs, cellsDs, solidDs, Bool.and_self, Is_len, Fs_len, Ds_len, true_and, snW, hotW, snD, hotD, snIs, hotIs, WB14, WVH_eq (Check_ok w), h0, show ((0 : Int) != 0) = false from rfl, WB51]
  refine bestOfEach_ok w hw hds _ _ fun ext => ?_
  have hfg := find_get (allD w) (bestsL w) 0
  have hme := find_enc (allD w) (bestsL w) 0
  have hall : (2 ^ w.deals.length - 1 : Nat) = allD w := rfl
  have hal := allDeals_ok w (by omega)
  rw [hall] at hal
  cases hf : findB (allD w) (bestsL w) 0 with
  | none =>
    rw [hf] at hfg hme
    have hg : mgetL .i (.agg [.int .i64 0, .int .u64 0, .int .u64 0, .int .u64 0, .int .u64 0, .int .u64 0, .int .u64 0]) true (encKV (bestsL w)) (U64 (allD w)) = some (.tup [(.agg [.int .i64 0, .int .u64 0, .int .u64 0, .int .u64 0, .int .u64 0, .int .u64 0, .int .u64 0]), .bool false]) := by unfold mgetL; rw [hme]; rfl
    simp only [go_sem, Nat.reduceEqDiff, Nat.reduceAdd, Nat.reduceLT, Nat.reduceLeDiff, reduceIte, WCells, WEta, FCells, FEta, DCells, DEta, cellsIs, solidIs, cellsFs, solidFs, cellsDs, solidDs, Bool.and_self, Is_len, Fs_len, Ds_len, true_and, snW, hotW, snD, hotD, snIs, hotIs, WB53, WVH_eq hal, hg]
    rw [if_pos h0, ← hfg]; rfl
  | some y =>
    rw [hf] at hfg hme
    have hg : mgetL .i (.agg [.int .i64 0, .int .u64 0, .int .u64 0, .int .u64 0, .int .u64 0, .int .u64 0, .int .u64 0]) true (encKV (bestsL w)) (U64 (allD w)) = some (.tup [encP y.2, .bool true]) := by unfold mgetL; rw [hme]; rfl
    simp only [go_sem, Nat.reduceEqDiff, Nat.reduceAdd, Nat.reduceLT, Nat.reduceLeDiff, reduceIte, WCells, WEta, FCells, FEta, DCells, DEta, cellsIs, solidIs, cellsFs, solidFs, cellsDs, solidDs, Bool.and_self, Is_len, Fs_len, Ds_len, true_and, snW, hotW, snD, hotD, snIs, hotIs, WB53, WVH_eq hal, hg, PCells, PEta]
    rw [if_pos h0, ← hfg]; rfl
theorem Most_ok (w : Wk) : RV ft 22 [encW w] (.tup [I64 (bestO w).1.tk, I64 (bestO w).2]) := by
  refine RV_of ft22 rfl ?_
  simp only [c22, r22]
  simp only [go_sem, Nat.reduceEqDiff, Nat.reduceAdd, Nat.reduceLT, Nat.reduceLeDiff, reduceIte, WCells, WEta, FCells, FEta, DCells, DEta, cellsIs, solidIs, cellsFs, solidFs, cellsDs, solidDs, Bool.and_self, Is_len, Fs_len, Ds_len, true_and, snW, hotW, snD, hotD, snIs, hotIs, WB49, WVH_eq (best_ok w), PCells, PEta]
def costO (w : Wk) (deal : Int) : Int × Int := if chkW w = 0 then (if inR deal 0 ((w.deals.length : Int) - 1) = true then (if (mostM (allD w) (bestsL w)).2 = true then ((mostM (andn (allD w) (2 ^ deal.toNat)) (bestsL w)).1 - (mostM (allD w) (bestsL w)).1, 0) else (0, 3)) else (0, 1)) else (0, chkW w)
theorem mostM_le (D : Nat) {c : Int} (hc : 0 ≤ c) : ∀ (l : List (Nat × Pg)), (∀ x ∈ l, x.2.tk ≤ c) → ∀ a : Int × Bool, 0 ≤ a.1 ∧ a.1 ≤ c → 0 ≤ (l.foldl (stepM D) a).1 ∧ (l.foldl (stepM D) a).1 ≤ c
  | [], _, a, h => h
  | x :: l, hl, a, h => by
    rw [List.foldl_cons]
    refine mostM_le D hc l (fun y hy => hl y (by simp [hy])) _ ?_
    have := hl x (by simp)
    unfold stepM
    split
    · simp only []; omega
    · exact h
theorem most_le {w : Wk} (hw : WV w) (D : Nat) : 0 ≤ (mostM D (bestsL w)).1 ∧ (mostM D (bestsL w)).1 ≤ 4000000 := by
  have hF := hw.f
  exact mostM_le D (by decide) _ (fun x hx => by have h1 := (progs_OK hw _ (bests_mem hx).1).t1; omega) _ ⟨Int.le_refl 0, by decide⟩
theorem Cost_ok (w : Wk) (deal : Int) : RV ft 26 [encW w, I64 deal] (.tup [I64 (costO w deal).1, I64 (costO w deal).2]) := by
  refine RV_of ft26 rfl ?_
  simp only [c26, r26]
  unfold costO
  by_cases h0 : chkW w = 0
  case neg =>
    have n0 : (chkW w != 0) = true := by rw [bne, beq_eq_false_iff_ne.2 h0]; rfl
    simp only [go_sem, Nat.reduceEqDiff, Nat.reduceAdd, Nat.reduceLT, Nat.reduceLeDiff, reduceIte, WCells, WEta, FCells, FEta, DCells, DEta, cellsIs, solidIs, cellsFs, solidFs, cellsDs, solidDs, Bool.and_self, Is_len, Fs_len, Ds_len, true_and, snW, hotW, snD, hotD, snIs, hotIs, WB14, WVH_eq (Check_ok w), n0, if_neg h0]
  have hw := WV_of (chkW_ok h0).1
  have hds := chkW_DV h0
  have hD := hw.d
  have w1 : IntKind.i64.wrap ((w.deals.length : Int) - 1) = (w.deals.length : Int) - 1 := wrap_i64 _ (by omega) (by omega)
  have hal : RV ft 53 [encW w] (U64 (allD w)) := allDeals_ok w (by omega)
  have hlt : allD w < 256 := allD_lt hw
  cases h1 : inR deal 0 ((w.deals.length : Int) - 1)
  · simp only [go_sem, Nat.reduceEqDiff, Nat.reduceAdd, Nat.reduceLT, Nat.reduceLeDiff, reduceIte, WCells, WEta, FCells, FEta, DCells, DEta, cellsIs, solidIs, cellsFs, solidFs, cellsDs, solidDs, Bool.and_self, Is_len, Fs_len, Ds_len, true_and, snW, hotW, snD, hotD, snIs, hotIs, WB14, WVH_eq (Check_ok w), h0, show ((0 : Int) != 0) = false from rfl, w1, WB57, WVH_eq (isWithin_ok _ _ _), h1]
    rfl
  have hd1 := inR_iff.1 h1
  have hdn : ((deal.toNat : Nat) : Int) = deal := Int.toNat_of_nonneg hd1.1
  simp only [go_sem, Nat.reduceEqDiff, Nat.reduceAdd, Nat.reduceLT, Nat.reduceLeDiff, reduceIte, WCells, WEta, FCells, FEta, DCells, DEta, cellsIs, solidIs, cellsFs, solidFs, cellsDs, solidDs, Bool.and_self, Is_len, Fs_len, Ds_len, true_and, snW, hotW, snD, hotD, snIs, hotIs, WB14, WVH_eq (Check_ok w), h0, show ((0 : Int) != 0) = false from rfl, w1, WB57, WVH_eq (isWithin_ok _ _ _), h1, WB51]
  refine bestOfEach_ok w hw hds _ _ fun ext => ?_
  simp only [go_sem, Nat.reduceEqDiff, Nat.reduceAdd, Nat.reduceLT, Nat.reduceLeDiff, reduceIte, WCells, WEta, FCells, FEta, DCells, DEta, cellsIs, solidIs, cellsFs, solidFs, cellsDs, solidDs, Bool.and_self, Is_len, Fs_len, Ds_len, true_and, snW, hotW, snD, hotD, snIs, hotIs, WB53, WVH_eq hal, WB58]
  refine most_ok _ 2 (bestsL w) rfl (bests_lt hw) _ hlt _ ?_
  cases h2 : (mostM (allD w) (bestsL w)).2
  · simp only [go_sem, Nat.reduceEqDiff, Nat.reduceAdd, Nat.reduceLT, Nat.reduceLeDiff, reduceIte, WCells, WEta, FCells, FEta, DCells, DEta, cellsIs, solidIs, cellsFs, solidFs, cellsDs, solidDs, Bool.and_self, Is_len, Fs_len, Ds_len, true_and, snW, hotW, snD, hotD, snIs, hotIs, h2]
    rw [if_pos h0]; rfl
  have hwo := without_ok (allD w) deal.toNat (by omega) (by omega)
  rw [hdn] at hwo
  simp only [go_sem, Nat.reduceEqDiff, Nat.reduceAdd, Nat.reduceLT, Nat.reduceLeDiff, reduceIte, WCells, WEta, FCells, FEta, DCells, DEta, cellsIs, solidIs, cellsFs, solidFs, cellsDs, solidDs, Bool.and_self, Is_len, Fs_len, Ds_len, true_and, snW, hotW, snD, hotD, snIs, hotIs, h2, WB53, WVH_eq hal, WB59, WVH_eq hwo, WB58]
  refine most_ok _ 2 (bestsL w) rfl (bests_lt hw) _ (Nat.lt_of_le_of_lt (andn_le _ _) hlt) _ ?_
  have m1 := most_le hw (allD w)
  have m2 := most_le hw (andn (allD w) (2 ^ deal.toNat))
  have w2 : IntKind.i64.wrap ((mostM (andn (allD w) (2 ^ deal.toNat)) (bestsL w)).1 - (mostM (allD w) (bestsL w)).1) = (mostM (andn (allD w) (2 ^ deal.toNat)) (bestsL w)).1 - (mostM (allD w) (bestsL w)).1 := wrap_i64 _ (by omega) (by omega)
  simp only [go_sem, Nat.reduceEqDiff, Nat.reduceAdd, Nat.reduceLT, Nat.reduceLeDiff, reduceIte, WCells, WEta, FCells, FEta, DCells, DEta, cellsIs, solidIs, cellsFs, solidFs, cellsDs, solidDs, Bool.and_self, Is_len, Fs_len, Ds_len, true_and, snW, hotW, snD, hotD, snIs, hotIs, w2]
  rw [if_pos h0]
end Go.Ab.T
end

section
namespace Go.Ab.T
set_option maxRecDepth 8000
set_option maxHeartbeats 1000000
/-- What the first so many films take in a program. -/
def tkK (w : Wk) (p : List Int) : Nat → Int
  | 0 => 0
  | k + 1 => tkK w p k + (match w.films[k]? with | some m => pplS w m (numsN (shownN (k : Int) p 0 0)) * m.price | none => 0)
/-- The deals that the first so many films keep. -/
def kpK (w : Wk) (p : List Int) : Nat → Nat
  | 0 => allD w
  | k + 1 => kpK w p k &&& keptN w (k : Int) (shownN (k : Int) p 0 0) w.deals 0 (allD w)
/-- A program of the first so many films. -/
def Part (w : Wk) (k : Nat) (p : List Int) : Prop := p.length = w.slots.toNat ∧ ∀ f ∈ p, -1 ≤ f ∧ f < k
structure Rel (w : Wk) (k : Nat) (p : List Int) (g : Pg) : Prop where
  sh : ∀ j, j < 4 → g.sh j = if j < k then shownN (j : Int) p 0 0 else 0
  dark : g.dark = shownN (-1) p 0 0
  tk : g.tk = tkK w p k
  kept : g.kept = kpK w p k
theorem shown_bit (f : Int) (p : List Int) (i : Nat) : (shownN f p 0 0).testBit i = (p[i]? == some f) := by rw [shownN_bit]; simp
theorem andn_bit (a b i : Nat) (ha : a < 18446744073709551616) : (andn a b).testBit i = (a.testBit i && !b.testBit i) := by
  unfold andn
  rw [Nat.testBit_and, Nat.testBit_xor]
  by_cases hi : i < 64
  · have : (18446744073709551615 : Nat).testBit i = true := by
      rw [show (18446744073709551615 : Nat) = 2 ^ 64 - 1 from rfl, Nat.testBit_two_pow_sub_one]; exact decide_eq_true hi
    rw [this, Bool.true_xor]
  · have h1 : a.testBit i = false := Nat.testBit_lt_two_pow (Nat.lt_of_lt_of_le ha (by rw [show (18446744073709551616 : Nat) = 2 ^ 64 from rfl]; exact Nat.pow_le_pow_right (by decide) (by omega)))
    rw [h1]; rfl
theorem shown_congr {f : Int} {p q : List Int} (h : ∀ i : Nat, (p[i]? == some f) = (q[i]? == some f)) : shownN f p 0 0 = shownN f q 0 0 := Nat.eq_of_testBit_eq fun i => by rw [shown_bit, shown_bit, h]
theorem tkK_congr {w : Wk} {p q : List Int} : ∀ k : Nat, (∀ j : Nat, j < k → shownN (j : Int) p 0 0 = shownN (j : Int) q 0 0) → tkK w p k = tkK w q k
  | 0, _ => rfl
  | k + 1, h => by rw [tkK, tkK, tkK_congr k fun j hj => h j (by omega), h k (by omega)]
theorem kpK_congr {w : Wk} {p q : List Int} : ∀ k : Nat, (∀ j : Nat, j < k → shownN (j : Int) p 0 0 = shownN (j : Int) q 0 0) → kpK w p k = kpK w q k
  | 0, _ => rfl
  | k + 1, h => by rw [kpK, kpK, kpK_congr k fun j hj => h j (by omega), h k (by omega)]
theorem sh_showing (g : Pg) (k s : Nat) (o : Int × Nat) (hk : k < 4) (j : Nat) (hj : j < 4) : (g.showing k s o).sh j = if j = k then s else g.sh j := by
  match k, hk, j, hj with
  | 0, _, 0, _ | 0, _, 1, _ | 0, _, 2, _ | 0, _, 3, _ | 1, _, 0, _ | 1, _, 1, _ | 1, _, 2, _ | 1, _, 3, _ | 2, _, 0, _ | 2, _, 1, _ | 2, _, 2, _ | 2, _, 3, _ | 3, _, 0, _ | 3, _, 1, _ | 3, _, 2, _ | 3, _, 3, _ => rfl
/-- A film more in some slots. -/
def putS (p : List Int) (k : Int) (s : Nat) : List Int := p.mapIdx fun i f => if s.testBit i then k else f
/-- A film less. -/
def cutS (p : List Int) (k : Int) : List Int := p.map fun f => if f = k then -1 else f
theorem putS_get (p : List Int) (k : Int) (s i : Nat) : (putS p k s)[i]? = (p[i]?).map fun f => if s.testBit i then k else f := by
  unfold putS; rw [List.getElem?_mapIdx]
theorem opt_beq (o : Option Int) (f : Int) : (o == some f) = decide (o = some f) := by
  cases o with
  | none => rfl
  | some x => rw [Bool.eq_iff_iff]; simp
theorem outL_get (w : Wk) (m : Mv) (k s : Nat) (hs : s < 2 ^ w.slots.toNat) : (outL w m k).getD s (0, 0) = outN w m k s := by
  unfold outL
  rw [List.getD_eq_getElem?_getD, List.getElem?_map, List.getElem?_range hs]; rfl
theorem shown_slots {w : Wk} (hw : WV w) {k : Nat} {p : List Int} (hp : p.length = w.slots.toNat) (f : Int) : shownN f p 0 0 < 2 ^ w.slots.toNat ∧ shownN f p 0 0 < 256 := by
  have h8 : w.slots.toNat ≤ 8 := by have := hw.s; omega
  have h1 := shownN_lt2 f p 0 0 (Nat.two_pow_pos _)
  rw [Nat.zero_add, hp] at h1
  exact ⟨h1, Nat.lt_of_lt_of_le h1 (Nat.pow_le_pow_right (show 0 < 2 by decide) h8)⟩
theorem step_sound {w : Wk} (hw : WV w) {k : Nat} {m : Mv} (hm : w.films[k]? = some m) (hk : k < 4) {p : List Int} {g : Pg} (hp : Part w k p) (hr : Rel w k p g) {s : Nat} (hs : s &&& g.dark = s) :
    Part w (k + 1) (putS p k s) ∧ Rel w (k + 1) (putS p k s) (g.showing k s ((outL w m k).getD s (0, 0))) := by
  obtain ⟨hl, hin⟩ := hp
  have hd := hr.dark
  have hsb : ∀ i, s.testBit i = true → p[i]? = some (-1) := fun i hi => by
    have h1 : (s &&& g.dark).testBit i = true := by rw [hs]; exact hi
    rw [Nat.testBit_and, hd, shown_bit, Bool.and_eq_true] at h1
    rw [opt_beq] at h1
    exact of_decide_eq_true h1.2
  have hsl : s < 2 ^ w.slots.toNat := Nat.lt_of_le_of_lt (and_le_of hs) (by rw [hd]; exact (shown_slots hw (k := k) hl _).1)
  have hin' : ∀ (i : Nat) (f : Int), p[i]? = some f → -1 ≤ f ∧ f < (k : Int) := fun i f h => hin f (List.mem_of_getElem? h)
  have e1 : shownN (k : Int) (putS p k s) 0 0 = s := Nat.eq_of_testBit_eq fun i => by
    rw [shown_bit, putS_get, opt_beq]
    cases hb : s.testBit i with
    | true => rw [hsb i hb]; simp
    | false =>
      refine decide_eq_false fun h => ?_
      cases hi : p[i]? with
      | none => rw [hi] at h; cases h
      | some f => rw [hi] at h; simp at h; have := (hin' i f hi).2; omega
  have e2 : ∀ f : Int, f ≠ k → f ≠ -1 → shownN f (putS p k s) 0 0 = shownN f p 0 0 := fun f h1 h2 => shown_congr fun i => by
    rw [putS_get]
    cases hb : s.testBit i with
    | true =>
      rw [hsb i hb, opt_beq, opt_beq, Bool.eq_iff_iff]
      simp
      omega
    | false => cases p[i]? <;> rfl
  refine ⟨⟨by unfold putS; simpa using hl, fun f hf => ?_⟩, ?_, ?_, ?_, ?_⟩
  · obtain ⟨i, hi⟩ := List.getElem?_of_mem hf
    rw [putS_get] at hi
    cases hpi : p[i]? with
    | none => rw [hpi] at hi; cases hi
    | some f0 =>
      rw [hpi] at hi
      simp only [Option.map_some, Option.some.injEq] at hi
      have := hin' i f0 hpi
      split at hi <;> omega
  · intro j hj
    rw [sh_showing g k s _ hk j hj]
    by_cases h1 : j = k
    · subst h1; rw [if_pos rfl, if_pos (by omega), e1]
    · rw [if_neg h1, hr.sh j hj]
      by_cases h2 : j < k
      · rw [if_pos h2, if_pos (by omega), e2 j (by omega) (by omega)]
      · rw [if_neg h2, if_neg (by omega)]
  · rw [(showing_dark g k s _).1]
    refine Nat.eq_of_testBit_eq fun i => ?_
    have hlt : g.dark < 18446744073709551616 := by rw [hd]; exact Nat.lt_trans (shown_slots hw (k := k) hl _).2 (by decide)
    rw [andn_bit _ _ _ hlt, hd, shown_bit, shown_bit, putS_get]
    cases hb : s.testBit i with
    | true =>
      rw [hsb i hb, Bool.not_true, Bool.and_false, opt_beq]
      refine (decide_eq_false ?_).symm
      simp <;> omega
    | false => rw [Bool.not_false, Bool.and_true]; cases p[i]? <;> rfl
  · rw [(showing_dark g k s _).2.1, outL_get w m k s hsl, tkK, hm, e1, hr.tk]
    rw [tkK_congr k fun j hj => e2 j (by omega) (by omega)]
    try rfl
  · rw [(showing_dark g k s _).2.2, outL_get w m k s hsl, kpK, e1, hr.kept]
    rw [kpK_congr k fun j hj => e2 j (by omega) (by omega)]
    try rfl
theorem cutS_get (p : List Int) (k : Int) (i : Nat) : (cutS p k)[i]? = (p[i]?).map fun f => if f = k then -1 else f := by
  unfold cutS; rw [List.getElem?_map]
theorem step_complete {w : Wk} (hw : WV w) {k : Nat} {p : List Int} (hp : Part w (k + 1) p) : Part w k (cutS p k) ∧ shownN (k : Int) p 0 0 &&& shownN (-1) (cutS p k) 0 0 = shownN (k : Int) p 0 0 ∧ putS (cutS p k) k (shownN (k : Int) p 0 0) = p := by
  obtain ⟨hl, hin⟩ := hp
  have hin' : ∀ (i : Nat) (f : Int), p[i]? = some f → -1 ≤ f ∧ f < ((k + 1 : Nat) : Int) := fun i f h => hin f (List.mem_of_getElem? h)
  refine ⟨⟨by unfold cutS; simpa using hl, fun f hf => ?_⟩, ?_, ?_⟩
  · obtain ⟨i, hi⟩ := List.getElem?_of_mem hf
    rw [cutS_get] at hi
    cases hpi : p[i]? with
    | none => rw [hpi] at hi; cases hi
    | some f0 =>
      rw [hpi] at hi
      simp only [Option.map_some, Option.some.injEq] at hi
      have := hin' i f0 hpi
      split at hi <;> omega
  · refine Nat.eq_of_testBit_eq fun i => ?_
    rw [Nat.testBit_and, shown_bit, shown_bit, cutS_get, opt_beq, opt_beq]
    cases hpi : p[i]? with
    | none => rfl
    | some f =>
      rw [Bool.eq_iff_iff]; simp
      intro h; exact .inl h
  · refine List.ext_getElem? fun i => ?_
    rw [putS_get, cutS_get]
    cases hpi : p[i]? with
    | none => rfl
    | some f =>
      have hb : (shownN (k : Int) p 0 0).testBit i = decide (f = k) := by rw [shown_bit, hpi, opt_beq]; simp
      rw [hb]
      by_cases h : f = k
      · simp [h]
      · simp [h]
/-- The programs of all films are just those that are yielded. -/
theorem progsF_both {w : Wk} (hw : WV w) : ∀ (r : List Mv) (k : Nat) (ps : List Pg), w.films.drop k = r → k + r.length = w.films.length → (∀ g ∈ ps, ∃ p, Part w k p ∧ Rel w k p g) → (∀ p, Part w k p → ∃ g ∈ ps, Rel w k p g) →
    (∀ g ∈ progsF w r k ps, ∃ p, Part w w.films.length p ∧ Rel w w.films.length p g) ∧ ∀ p, Part w w.films.length p → ∃ g ∈ progsF w r k ps, Rel w w.films.length p g
  | [], k, ps, hd, hlen, h1, h2 => by
    have : k = w.films.length := by simpa using hlen
    subst this
    exact ⟨h1, h2⟩
  | m :: r, k, ps, hd, hlen, h1, h2 => by
    obtain ⟨hk, hd2, hlt⟩ := drop_cons hd
    have hF := hw.f
    rw [progsF]
    refine progsF_both hw r (k + 1) _ hd2 (by simp at hlen; omega) (fun g hg => ?_) fun p hp => ?_
    · obtain ⟨g0, hg0, hg1⟩ := List.mem_flatMap.1 hg
      obtain ⟨s, hs, rfl⟩ := List.mem_map.1 hg1
      obtain ⟨p, hp, hr⟩ := h1 g0 hg0
      exact ⟨_, step_sound hw hk (by omega) hp hr (mem_subsN.1 hs).2⟩
    · obtain ⟨c1, c2, c3⟩ := step_complete hw hp
      obtain ⟨g, hg, hr⟩ := h2 _ c1
      have hs : shownN (k : Int) p 0 0 &&& g.dark = shownN (k : Int) p 0 0 := by rw [hr.dark]; exact c2
      have h3 := (step_sound hw hk (by omega) c1 hr hs).2
      rw [c3] at h3
      exact ⟨_, List.mem_flatMap.2 ⟨g, hg, List.mem_map.2 ⟨_, mem_subsN.2 ⟨(shown_slots hw (k := k) hp.1 _).2, hs⟩, rfl⟩⟩, h3⟩
theorem Part_iff {w : Wk} (hw : WV w) {p : List Int} : Part w w.films.length p ↔ progOK w p = true := by
  have hs := slots_nn hw
  unfold Part progOK
  simp only [Bool.and_eq_true, beq_iff_eq, List.all_eq_true]
  refine ⟨fun ⟨h1, h2⟩ => ⟨fun f hf => inR_iff.2 ⟨(h2 f hf).1, by have := (h2 f hf).2; omega⟩, by omega⟩, fun ⟨h1, h2⟩ => ⟨by omega, fun f hf => ?_⟩⟩
  have := inR_iff.1 (h1 f hf)
  omega
theorem dark_part {w : Wk} (hw : WV w) {p : List Int} (hp : Part w 0 p) : Rel w 0 p (darkP w) := by
  obtain ⟨hl, hin⟩ := hp
  refine ⟨fun j hj => ?_, ?_, rfl, rfl⟩
  · rw [if_neg (by omega)]
    match j, hj with
    | 0, _ | 1, _ | 2, _ | 3, _ => rfl
  · refine Nat.eq_of_testBit_eq fun i => ?_
    show (2 ^ w.slots.toNat - 1).testBit i = _
    rw [Nat.testBit_two_pow_sub_one, shown_bit, opt_beq]
    by_cases h : i < p.length
    · have h2 : p[i]? = some p[i] := List.getElem?_eq_getElem h
      have h3 := hin _ (List.mem_of_getElem? h2)
      rw [decide_eq_true (by omega), h2, decide_eq_true]
      have : p[i] = -1 := by omega
      rw [this]
    · rw [decide_eq_false (by omega), List.getElem?_eq_none (by omega)]; rfl
theorem progs_both {w : Wk} (hw : WV w) : (∀ g ∈ progs w, ∃ p, progOK w p = true ∧ Rel w w.films.length p g) ∧ ∀ p, progOK w p = true → ∃ g ∈ progs w, Rel w w.films.length p g := by
  have h := progsF_both hw w.films 0 [darkP w] rfl (by simp) (fun g hg => ?_) fun p hp => ⟨darkP w, by simp, dark_part hw hp⟩
  · exact ⟨fun g hg => let ⟨p, h1, h2⟩ := h.1 g hg; ⟨p, (Part_iff hw).1 h1, h2⟩, fun p hp => h.2 p ((Part_iff hw).2 hp)⟩
  · rw [List.mem_singleton.1 hg]
    have hp : Part w 0 (List.replicate w.slots.toNat (-1)) := ⟨by simp, fun f hf => by rw [(List.mem_replicate.1 hf).2]; omega⟩
    exact ⟨_, hp, dark_part hw hp⟩
theorem tkK_eq {w : Wk} (p : List Int) : ∀ (r : List Mv) (k : Nat), w.films.drop k = r → tkK w p k + takeF w p r k = tkK w p w.films.length
  | [], k, hd => by
    have hge := drop_nil hd
    rw [takeF, Int.add_zero]
    have : ∀ n, tkK w p (w.films.length + n) = tkK w p w.films.length := fun n => by
      induction n with
      | zero => rfl
      | succ n ih => rw [← Nat.add_assoc, tkK, ih, List.getElem?_eq_none (by omega)]; simp
    have h2 := this (k - w.films.length)
    rwa [show w.films.length + (k - w.films.length) = k by omega] at h2
  | m :: r, k, hd => by
    obtain ⟨hk, hd2, hlt⟩ := drop_cons hd
    have h := tkK_eq p r (k + 1) hd2
    rw [tkK, hk] at h
    rw [takeF, ← h]; simp only []; omega
theorem keptN_bit (w : Wk) (fi : Int) (sh n : Nat) : ∀ (l : List Dl) (k s : Nat), s < 18446744073709551616 → k + l.length ≤ 64 → (keptN w fi sh l k s).testBit n = (s.testBit n && (match l[n - k]? with | some d => decide (n < k) || !(d.film == fi && !keepsB w d sh) | none => true))
  | [], k, s, hs, hk => by rw [keptN]; simp
  | d :: r, k, s, hs, hk => by
    simp only [List.length_cons] at hk
    rw [keptN]
    by_cases hb : (d.film == fi && !keepsB w d sh) = true
    · rw [if_pos hb, keptN_bit w fi sh n r (k + 1) _ (Nat.lt_of_le_of_lt (andn_le _ _) hs) (by omega), andn_bit _ _ _ hs, Nat.testBit_two_pow]
      rcases Nat.lt_trichotomy n k with h | h | h
      · rw [decide_eq_false (show ¬ k = n by omega), show n - (k + 1) = 0 by omega, show n - k = 0 by omega, List.getElem?_cons_zero]
        rw [decide_eq_true h]
        cases r[0]? <;> simp [show n < k + 1 by omega]
      · subst h
        rw [decide_eq_true (show n = n from rfl), Nat.sub_self, List.getElem?_cons_zero]
        simp [hb]
      · rw [decide_eq_false (show ¬ k = n by omega), show n - k = (n - (k + 1)) + 1 by omega, List.getElem?_cons_succ]
        cases r[n - (k + 1)]? <;> simp [show ¬ n < k + 1 by omega, show ¬ n < k by omega]
    · rw [if_neg hb, keptN_bit w fi sh n r (k + 1) s hs (by omega)]
      rw [Bool.not_eq_true] at hb
      rcases Nat.lt_trichotomy n k with h | h | h
      · rw [show n - (k + 1) = 0 by omega, show n - k = 0 by omega, List.getElem?_cons_zero, decide_eq_true h]
        cases r[0]? <;> simp [show n < k + 1 by omega]
      · subst h
        rw [Nat.sub_self, List.getElem?_cons_zero, show n - (n + 1) = 0 by omega]
        cases r[0]? <;> simp [hb]
      · rw [show n - k = (n - (k + 1)) + 1 by omega, List.getElem?_cons_succ]
        cases r[n - (k + 1)]? <;> simp [show ¬ n < k + 1 by omega, show ¬ n < k by omega]
/-- Does a program keep the deal of a number? -/
def keepsAt (w : Wk) (p : List Int) (n : Nat) : Bool := match w.deals[n]? with | some d => keepsB w d (shownN d.film p 0 0) | none => false
theorem kpK_bit {w : Wk} (hw : WV w) (p : List Int) (n : Nat) : ∀ k : Nat, (kpK w p k).testBit n = (match w.deals[n]? with | some d => !(decide (0 ≤ d.film ∧ d.film < k) && !keepsB w d (shownN d.film p 0 0)) | none => false)
  | 0 => by
    show (2 ^ w.deals.length - 1).testBit n = _
    rw [Nat.testBit_two_pow_sub_one]
    cases hd : w.deals[n]? with
    | none => rw [List.getElem?_eq_none_iff] at hd; exact decide_eq_false (by omega)
    | some d =>
      have := (List.getElem?_eq_some_iff.1 hd).1
      rw [decide_eq_true this]
      have : decide (0 ≤ d.film ∧ d.film < ((0 : Nat) : Int)) = false := decide_eq_false (by omega)
      simp only [this, Bool.false_and, Bool.not_false]
  | k + 1 => by
    have hD := hw.d
    rw [kpK, Nat.testBit_and, kpK_bit hw p n k, keptN_bit w _ _ n w.deals 0 (allD w) (Nat.lt_trans (allD_lt hw) (by decide)) (by omega), Nat.sub_zero]
    rw [show (allD w).testBit n = decide (n < w.deals.length) from Nat.testBit_two_pow_sub_one _ _]
    cases hd : w.deals[n]? with
    | none => rfl
    | some d =>
      have hlt := (List.getElem?_eq_some_iff.1 hd).1
      simp only [decide_eq_true hlt, Bool.true_and, Nat.not_lt_zero, decide_false, Bool.false_or]
      by_cases h1 : d.film = k
      · have e1 : (d.film == (k : Int)) = true := by simpa using h1
        have e2 : decide (0 ≤ d.film ∧ d.film < (k : Int)) = false := decide_eq_false (by omega)
        have e3 : decide (0 ≤ d.film ∧ d.film < ((k + 1 : Nat) : Int)) = true := decide_eq_true (by omega)
        rw [e1, e2, e3, h1]; simp
      · have e1 : (d.film == (k : Int)) = false := by simpa using h1
        have e2 : decide (0 ≤ d.film ∧ d.film < (k : Int)) = decide (0 ≤ d.film ∧ d.film < ((k + 1 : Nat) : Int)) := decide_eq_decide.2 (by omega)
        rw [e1, e2]; simp
theorem kept_at {w : Wk} (hw : WV w) (hds : ∀ d ∈ w.deals, DV w d) {p : List Int} {g : Pg} (hr : Rel w w.films.length p g) (n : Nat) : g.kept.testBit n = keepsAt w p n := by
  rw [hr.kept, kpK_bit hw]
  unfold keepsAt
  cases hd : w.deals[n]? with
  | none => rfl
  | some d =>
    have := (hds d (List.mem_of_getElem? hd)).film
    have e : decide (0 ≤ d.film ∧ d.film < (w.films.length : Int)) = true := decide_eq_true (by omega)
    simp only [e, Bool.true_and, Bool.not_not]
theorem tk_at {w : Wk} (hw : WV w) {p : List Int} (hp : progOK w p = true) {g : Pg} (hr : Rel w w.films.length p g) : g.tk = takeS w p := by
  rw [hr.tk, ← take_eq hw hp, ← tkK_eq p w.films 0 rfl, tkK]; omega
end Go.Ab.T
end
