/-
  A part of the proofs over this seat.
  (The texts KwK20 KwK21, one behind the other.)
-/
import Derived.Test.YtikfmbopfconkaaP5
import Derived.Test.YtikfmbopfconkaaA0
set_option linter.unusedSimpArgs false
set_option linter.unusedVariables false
set_option linter.unusedSectionVars false
section
namespace Go.Ab.T
set_option maxRecDepth 8000
set_option maxHeartbeats 4000000
def asg51_0 : ACode := (.region [⟨(some 4), none, .new (.agg [(.int .i64 0), (.int .u64 0), (.int .u64 0), (.int .u64 0), (.int .u64 0), (.int .u64 0), (.int .u64 0)]) 7⟩,
    ⟨none, none, .store (.t 4) (.t 10) 7⟩])
def body51_0 : ACode := (.block 1 (.seq (.region [⟨(some 12), none, .load (.t 3) none⟩,
    ⟨(some 13), none, .addr (.t 4) 0⟩,
    ⟨(some 14), none, .addr (.t 13) 1⟩,
    ⟨(some 15), none, .load (.t 14) none⟩,
    ⟨(some 16), none, .mget .i (.agg [(.int .i64 0), (.int .u64 0), (.int .u64 0), (.int .u64 0), (.int .u64 0), (.int .u64 0), (.int .u64 0)]) true (.t 12) (.t 15)⟩,
    ⟨(some 11), none, .mov (.t 16)⟩,
    ⟨(some 17), none, .ext (.t 11) 0⟩,
    ⟨(some 18), none, .ext (.t 11) 1⟩,
    ⟨(some 5), none, .new (.agg [(.int .i64 0), (.int .u64 0), (.int .u64 0), (.int .u64 0), (.int .u64 0), (.int .u64 0), (.int .u64 0)]) 7⟩,
    ⟨none, none, .store (.t 5) (.t 17) 7⟩,
    ⟨(some 6), none, .mov (.t 18)⟩])
  (.seq (.region [⟨(some 19), none, .mov (.t 6)⟩,
    ⟨(some 20), none, .not (.t 19)⟩,
    ⟨(some 21), none, .mov (.t 20)⟩,
    ⟨(some 22), some (21, false), .addr (.t 4) 0⟩,
    ⟨(some 23), some (21, false), .addr (.t 22) 0⟩,
    ⟨(some 24), some (21, false), .load (.t 23) none⟩,
    ⟨(some 25), some (21, false), .addr (.t 5) 0⟩,
    ⟨(some 26), some (21, false), .addr (.t 25) 0⟩,
    ⟨(some 27), some (21, false), .load (.t 26) none⟩,
    ⟨(some 28), some (21, false), .bin .gtr (.t 24) (.t 27)⟩,
    ⟨(some 29), none, .pick (.t 21) (.c (.bool true)) (.t 28)⟩])
  (.cond (.t 29) (.region [⟨(some 30), none, .load (.t 3) none⟩,
    ⟨(some 31), none, .addr (.t 4) 0⟩,
    ⟨(some 32), none, .addr (.t 31) 1⟩,
    ⟨(some 33), none, .load (.t 32) none⟩,
    ⟨(some 34), none, .load (.t 4) (some 7)⟩,
    ⟨none, none, .mput .i (.t 30) (.t 33) (.t 34)⟩])
  (.skip)))))
theorem keptN_le (w : Wk) (fi : Int) (sh : Nat) : ∀ (l : List Dl) (k s : Nat), keptN w fi sh l k s ≤ s
  | [], _, s => Nat.le_refl s
  | d :: r, k, s => by
    unfold keptN
    refine Nat.le_trans (keptN_le w fi sh r (k + 1) _) ?_
    split
    · exact andn_le _ _
    · exact Nat.le_refl s
theorem outL_ok {w : Wk} (hw : WV w) {m : Mv} (hm : m ∈ w.films) (k : Nat) : ∀ o ∈ outL w m k, (0 ≤ o.1 ∧ o.1 ≤ 1000000) ∧ o.2 < 256 := by
  intro o ho
  unfold outL at ho
  obtain ⟨s, hs, rfl⟩ := List.mem_map.1 ho
  have h8 : w.slots.toNat ≤ 8 := by have := hw.s; omega
  have h256 : 2 ^ w.slots.toNat ≤ 256 := Nat.pow_le_pow_right (show 0 < 2 by decide) h8
  have hs2 : s < 256 := by have := List.mem_range.1 hs; omega
  exact ⟨take1_le hw hm hs2, Nat.lt_of_le_of_lt (keptN_le _ _ _ _ _ _) (allD_lt hw)⟩
theorem outL_len (w : Wk) (m : Mv) (k : Nat) : (outL w m k).length = 2 ^ w.slots.toNat := by simp [outL]
/-- All programs, film by film. -/
def progsF (w : Wk) : List Mv → Nat → List Pg → List Pg
  | [], _, ps => ps
  | m :: r, k, ps => progsF w r (k + 1) (ps.flatMap (addF k (outL w m k)))
def progs (w : Wk) : List Pg := progsF w w.films 0 [darkP w]
theorem dark_OK {w : Wk} (hw : WV w) : OKP (2 ^ w.slots.toNat) 0 (darkP w) := ⟨Int.le_refl 0, by simp [darkP], allD_lt hw, by have := Nat.two_pow_pos w.slots.toNat; show 2 ^ w.slots.toNat - 1 < _; omega⟩
theorem dark_ok (w : Wk) (bl : List Blk) (K : AV → Mem → Prop) (hK : K (.fn 109 [] [.ptr bl.length 0 0]) ⟨bl ++ [.live [encW w] 5], []⟩) : WR ft (.f 97) [encW w] ⟨bl, []⟩ K := by
  rw [WR_f ft97 rfl]
  simp only [c97, r97]
  simp only [go_sem, Nat.reduceEqDiff, Nat.reduceAdd, Nat.reduceLT, Nat.reduceLeDiff, reduceIte, WCells, WEta, FCells, FEta, DCells, DEta, cellsIs, solidIs, cellsFs, solidFs, cellsDs, solidDs, Bool.and_self, Is_len, Fs_len, Ds_len, true_and, snW, hotW, snD, hotD, snIs, hotIs]
  exact hK
theorem adding_ok (g : FuncId) (cap : List AV) (k : Nat) (outs : List (Int × Nat)) (bl : List Blk) (K : AV → Mem → Prop) (hK : K (.fn 110 [] [.ptr bl.length 0 0, .ptr (bl.length + 1) 0 0, .ptr (bl.length + 2) 0 0]) ⟨bl ++ [.live [.fn g [] cap] 1, .live [I64 k] 1, .live [encOs outs] 1], []⟩) : WR ft (.f 98) [.fn g [] cap, I64 k, encOs outs] ⟨bl, []⟩ K := by
  rw [WR_f ft98 rfl]
  simp only [c98, r98]
  simp only [go_sem, Nat.reduceEqDiff, Nat.reduceAdd, Nat.reduceLT, Nat.reduceLeDiff, reduceIte, cellsOs, solidOs, List.length_append, List.append_assoc]
  exact hK
theorem programs_ok (w : Wk) (hw : WV w) (hds : ∀ d ∈ w.deals, DV w d) (bl : List Blk) (K : AV → Mem → Prop)
    (hK : ∀ g cap L ext, PSeq L g cap (progs w) → (∀ p ∈ progs w, OKP (2 ^ w.slots.toNat) 4 p) → Has L (bl ++ ext) → (∀ q ∈ L, bl.length ≤ q.1) → K (.fn g [] cap) ⟨bl ++ ext, []⟩) : WR ft (.f 77) [encW w] ⟨bl, []⟩ K := by
  rw [WR_f ft77 rfl]
  simp only [c77, r77]
  have hF := hw.f
  have hb0 : (bl ++ [Blk.live [encW w] 5])[bl.length]? = some (.live [encW w] 5) := get_last _ _
  simp only [go_sem, Nat.reduceEqDiff, Nat.reduceAdd, Nat.reduceLT, Nat.reduceLeDiff, reduceIte, WCells, WEta, FCells, FEta, DCells, DEta, cellsIs, solidIs, cellsFs, solidFs, cellsDs, solidDs, Bool.and_self, Is_len, Fs_len, Ds_len, true_and, snW, hotW, snD, hotD, snIs, hotIs, WB97]
  refine dark_ok w _ _ ?_
  have hb1 : (bl ++ [Blk.live [encW w] 5] ++ [Blk.live [encW w] 5])[bl.length]? = some (.live [encW w] 5) := by rw [List.getElem?_append_left (by simp)]; exact hb0
  simp only [go_sem, Nat.reduceEqDiff, Nat.reduceAdd, Nat.reduceLT, Nat.reduceLeDiff, reduceIte, WCells, WEta, FCells, FEta, DCells, DEta, cellsIs, solidIs, cellsFs, solidFs, cellsDs, solidDs, Bool.and_self, Is_len, Fs_len, Ds_len, true_and, snW, hotW, snD, hotD, snIs, hotIs, hb1]
  have h8 : w.slots.toNat ≤ 8 := by have := hw.s; omega
  have h256 : 2 ^ w.slots.toNat ≤ 256 := Nat.pow_le_pow_right (show 0 < 2 by decide) h8
  refine WL_inv (α := Nat × List Mv × List Pg) (fun q e mm => e 1 = .ptr bl.length 0 0 ∧ e 9 = I64 w.films.length ∧ e 10 = I64 q.1 ∧ w.films.drop q.1 = q.2.1 ∧ q.1 ≤ 4 ∧ progsF w q.2.1 q.1 q.2.2 = progs w ∧ (∀ p ∈ q.2.2, OKP (2 ^ w.slots.toNat) q.1 p) ∧ ∃ g cap L ext, e 3 = .fn g [] cap ∧ mm = ⟨bl ++ ext, []⟩ ∧ (bl ++ ext)[bl.length]? = some (.live [encW w] 5) ∧ PSeq L g cap q.2.2 ∧ Has L (bl ++ ext) ∧ ∀ q ∈ L, bl.length ≤ q.1) (fun q => q.2.1.length) (0, w.films, [darkP w]) ?_ ?_
  · simp only [go_sem, Nat.reduceEqDiff, Nat.reduceAdd, Nat.reduceLT, Nat.reduceLeDiff, reduceIte]
    refine ⟨trivial, trivial, rfl, trivial, by decide, rfl, (fun p hp => by rw [List.mem_singleton.1 hp]; exact dark_OK hw), 109, _, [(bl.length + 1, .live [encW w] 5)], [Blk.live [encW w] 5, Blk.live [encW w] 5], rfl, by simp, by simp, ?_, ?_, ?_⟩
    · rw [show (bl ++ [Blk.live [encW w] 5]).length = bl.length + 1 by simp]
      exact dark_seq w hw _
    · intro q hq
      rw [List.mem_singleton.1 hq]
      rw [show bl ++ [Blk.live [encW w] 5, Blk.live [encW w] 5] = (bl ++ [Blk.live [encW w] 5]) ++ Blk.live [encW w] 5 :: [] by simp]
      exact get_mid _ _ _ (by simp)
    · intro q hq
      rw [List.mem_singleton.1 hq]; simp
  rintro ⟨k, r, ps⟩ e m ⟨g1, g9, g10, hdr, hk4, hq, hok, g, cap, L, ext, g3, rfl, hb, hseq, hHas, hL⟩
  dsimp only at g10 hdr hk4 hq hok
  cases r with
  | nil =>
    have hge := drop_nil hdr
    simp only [go_sem, Nat.reduceEqDiff, Nat.reduceAdd, Nat.reduceLT, Nat.reduceLeDiff, reduceIte, g1, g3, g9, g10, dec_ge hge]
    rw [progsF] at hq
    subst hq
    exact hK g cap L ext hseq (fun p hp => ⟨(hok p hp).t0, by have := (hok p hp).t1; omega, (hok p hp).kept, (hok p hp).dark⟩) hHas hL
  | cons m r =>
    obtain ⟨hk, hd2, hlt⟩ := drop_cons hdr
    have hout := outcomes_ok w hw hds k m hk
    have hsnO : ∀ q, hot (q + 3) (encOs (outL w m k)) = false := fun q => by
      show ((outL w m k).map encO).any (hot (q + 2)) = false
      rw [List.any_map, List.any_eq_false]; intro x _; simp only [Function.comp]; rw [show hot (q + 2) (encO x) = false from rfl]; decide
    simp only [go_sem, Nat.reduceEqDiff, Nat.reduceAdd, Nat.reduceLT, Nat.reduceLeDiff, reduceIte, g1, g3, g9, g10, dec_lt hlt, hb, WCells, WEta, FCells, FEta, DCells, DEta, cellsIs, solidIs, cellsFs, solidFs, cellsDs, solidDs, Bool.and_self, Is_len, Fs_len, Ds_len, true_and, snW, hotW, snD, hotD, snIs, hotIs, WB99, WVH_eq hout, WB98]
    refine adding_ok g cap k _ _ _ ?_
    simp only [go_sem, Nat.reduceEqDiff, Nat.reduceAdd, Nat.reduceLT, Nat.reduceLeDiff, reduceIte, g10, wrap_n1 k (by omega)]
    refine Nx_of (k + 1, r, ps.flatMap (addF k (outL w m k))) (by simp) ?_
    simp only [go_sem, Nat.reduceEqDiff, Nat.reduceAdd, Nat.reduceLT, Nat.reduceLeDiff, reduceIte, g1, g9]
    have ho := outL_ok hw (List.mem_of_getElem? hk) k
    have hN : (outL w m k).length = 2 ^ w.slots.toNat := outL_len w m k
    refine ⟨trivial, trivial, trivial, hd2, by omega, hq, fun p hp => ?_, 110, _, ((bl ++ ext).length, .live [.fn g [] cap] 1) :: ((bl ++ ext).length + 1, .live [I64 k] 1) :: ((bl ++ ext).length + 2, .live [encOs (outL w m k)] 1) :: L, ext ++ [.live [.fn g [] cap] 1, .live [I64 k] 1, .live [encOs (outL w m k)] 1], rfl, by simp, ?_, ?_, ?_, ?_⟩
    · obtain ⟨p0, hp0, hp1⟩ := List.mem_flatMap.1 hp
      exact OKP.next (hok p0 hp0) ho p hp1
    · rw [← List.append_assoc, List.getElem?_append_left (List.getElem?_eq_some_iff.1 hb).1]; exact hb
    · exact adding_seq hseq (by omega) hk4 hN h256 ho hok
    · intro q hq'
      rw [← List.append_assoc]
      simp only [List.mem_cons] at hq'
      rcases hq' with rfl | rfl | rfl | h
      · exact get_mid _ _ _ rfl
      · rw [show ∀ a b c : Blk, (bl ++ ext) ++ [a, b, c] = (bl ++ ext ++ [a]) ++ b :: [c] from fun a b c => by simp]; exact get_mid _ _ _ (by simp; omega)
      · rw [show ∀ a b c : Blk, (bl ++ ext) ++ [a, b, c] = (bl ++ ext ++ [a, b]) ++ c :: [] from fun a b c => by simp]; exact get_mid _ _ _ (by simp; omega)
      · exact hHas.app _ q h
    · intro q hq'
      simp only [List.mem_cons] at hq'
      rcases hq' with rfl | rfl | rfl | h
      · simp
      · simp; omega
      · simp; omega
      · exact hL q h
/-! ### The best of each set of deals -/
def putB : List (Nat × Pg) → Pg → List (Nat × Pg)
  | [], p => [(p.kept, p)]
  | (k, q) :: r, p => if p.kept = k then (if q.tk < p.tk then (k, p) else (k, q)) :: r else (k, q) :: putB r p
def bestsL (w : Wk) : List (Nat × Pg) := (progs w).foldl putB []
def encKV (l : List (Nat × Pg)) : List (AV × AV) := l.map fun x => (U64 x.1, encP x.2)
def findB (x : Nat) : List (Nat × Pg) → Nat → Option (Nat × Pg)
  | [], _ => none
  | (k, q) :: r, i => if x = k then some (i, q) else findB x r (i + 1)
theorem find_enc (x : Nat) : ∀ (l : List (Nat × Pg)) (i : Nat), mfind .i (U64 x) (encKV l) i = some ((findB x l i).map fun y => (y.1, encP y.2))
  | [], i => rfl
  | (k, q) :: r, i => by
    show (match eq1 .i (U64 x) (U64 k) with | some true => some (some (i, encP q)) | some false => mfind .i (U64 x) (encKV r) (i + 1) | none => none) = _
    rw [show eq1 .i (U64 x) (U64 k) = some ((x : Int) == (k : Int)) from rfl, beq_nat]
    unfold findB
    by_cases h : x = k
    · rw [decide_eq_true h, if_pos h]; rfl
    · rw [decide_eq_false h, if_neg h]; exact find_enc x r (i + 1)
theorem find_ge (x : Nat) : ∀ (l : List (Nat × Pg)) (i j : Nat) (q : Pg), findB x l i = some (j, q) → i ≤ j
  | [], _, _, _, h => by cases h
  | (k, q') :: r, i, j, q, h => by
    unfold findB at h
    split at h
    · cases h; omega
    · have := find_ge x r (i + 1) j q h; omega
theorem put_find (p : Pg) : ∀ (l : List (Nat × Pg)) (i : Nat), putB l p = match findB p.kept l i with
    | none => l ++ [(p.kept, p)]
    | some (j, q) => if q.tk < p.tk then l.set (j - i) (p.kept, p) else l
  | [], i => rfl
  | (k, q) :: r, i => by
    unfold putB findB
    by_cases h : p.kept = k
    · rw [if_pos h, if_pos h]
      simp only [Nat.sub_self, List.set_cons_zero]
      split
      · rw [h]
      · rfl
    · rw [if_neg h, if_neg h, put_find p r (i + 1)]
      cases hf : findB p.kept r (i + 1) with
      | none => rfl
      | some y =>
        obtain ⟨j, q'⟩ := y
        have := find_ge _ _ _ _ _ hf
        simp only []
        split
        · rw [show j - i = (j - (i + 1)) + 1 by omega]; rfl
        · rfl
theorem Has.swap {L : List (Nat × Blk)} {A A' X : List Blk} (h : Has L (A ++ X)) (hl : A.length = A'.length) (hL : ∀ q ∈ L, A.length ≤ q.1) : Has L (A' ++ X) := fun q hq => by
  have h1 := h q hq
  have h2 := hL q hq
  rw [List.getElem?_append_right h2] at h1
  rw [List.getElem?_append_right (by omega), ← hl]; exact h1
theorem snKV (l : List (Nat × Pg)) : (encKV l).length = l.length := by simp [encKV]
theorem bestOfEach_ok (w : Wk) (hw : WV w) (hds : ∀ d ∈ w.deals, DV w d) (bl : List Blk) (K : AV → Mem → Prop)
    (hK : ∀ ext, K (.mp (bl.length + 1)) ⟨bl ++ (.live [encW w] 5 :: .mp (encKV (bestsL w)) .i :: ext), []⟩) : WR ft (.f 51) [encW w] ⟨bl, []⟩ K := by
  rw [WR_f ft51 rfl]
  simp only [c51, r51]
  have e1 : (bl ++ [Blk.live [encW w] 5] ++ [Blk.mp [] .i] ++ [Blk.live [AV.mp (bl ++ [Blk.live [encW w] 5]).length] 1])[bl.length]? = some (.live [encW w] 5) := by
    rw [show ∀ a b c : Blk, bl ++ [a] ++ [b] ++ [c] = bl ++ a :: [b, c] from fun a b c => by simp]; exact get_mid _ _ _ rfl
  have wn : ∀ v : AV, writeCells AV.nilm 0 [v] = some v := fun _ => rfl
  simp only [go_sem, Nat.reduceEqDiff, Nat.reduceAdd, Nat.reduceLT, Nat.reduceLeDiff, reduceIte, WCells, WEta, FCells, FEta, DCells, DEta, cellsIs, solidIs, cellsFs, solidFs, cellsDs, solidDs, Bool.and_self, Is_len, Fs_len, Ds_len, true_and, snW, hotW, snD, hotD, snIs, hotIs, wn, e1, WB77]
  refine programs_ok w hw hds _ _ fun g cap L ext hseq hok hHas hL => ?_
  simp only [go_sem, Nat.reduceEqDiff, Nat.reduceAdd, Nat.reduceLT, Nat.reduceLeDiff, reduceIte]
  refine WL_range_of (g := g) (first := []) (cap := cap) ?_ ?_
  · rfl
  simp only [go_sem, Nat.reduceEqDiff, Nat.reduceAdd, Nat.reduceLT, Nat.reduceLeDiff, reduceIte]
  have hinit : ∀ (env0 : Nat → AV), env0 3 = .ptr (bl.length + 2) 0 0 → ∀ K' : AV → Mem → Prop,
      (∀ ext', K' (.tup []) ⟨bl ++ (.live [encW w] 5 :: .mp (encKV (bestsL w)) .i :: .live [.mp (bl.length + 1)] 1 :: (ext ++ .lp env0 [10] asg51_0 body51_0 true none :: ext')), []⟩) →
      WR ft (.f g) (.yld (bl.length + 3 + ext.length) :: cap) ⟨bl ++ (.live [encW w] 5 :: .mp [] .i :: .live [.mp (bl.length + 1)] 1 :: (ext ++ [.lp env0 [10] asg51_0 body51_0 true none])), []⟩ K' := by
    intro env0 v3 K' hK'
    rw [show bl ++ (Blk.live [encW w] 5 :: .mp [] .i :: .live [.mp (bl.length + 1)] 1 :: (ext ++ [.lp env0 [10] asg51_0 body51_0 true none])) = (bl ++ (Blk.live [encW w] 5 :: .mp (encKV []) .i :: .live [.mp (bl.length + 1)] 1 :: (ext ++ [.lp env0 [10] asg51_0 body51_0 true none]))) ++ [] by simp [encKV]]
    refine hseq (bl.length + 4 + ext.length) (bl.length + 3 + ext.length) (fun ps pre => (∀ p ∈ ps, OKP (2 ^ w.slots.toNat) 4 p) ∧ ∃ kvs, pre = bl ++ (.live [encW w] 5 :: .mp (encKV kvs) .i :: .live [.mp (bl.length + 1)] 1 :: (ext ++ [.lp env0 [10] asg51_0 body51_0 true none])) ∧ ps.foldl putB kvs = bestsL w) ?_ ?_ _ [] K' (by simp; omega) ⟨hok, [], rfl, rfl⟩ ?_
    · rintro ps pre ⟨_, kvs, rfl, _⟩
      have h1 := Has.swap (A' := bl ++ [Blk.live [encW w] 5, .mp (encKV kvs) .i, .live [.mp (bl.length + 1)] 1]) hHas (by simp) hL
      have h2 := h1.app [.lp env0 [10] asg51_0 body51_0 true none]
      simpa using h2
    · rintro p ps pre suf K2 hlen ⟨hok2, kvs, rfl, hq⟩ hk2
      have hp := hok2 p (by simp)
      have hkp := hp.kept
      have hlps : ∀ (kv : List (AV × AV)) (b c : Blk) (u : List Blk), (bl ++ (Blk.live [encW w] 5 :: .mp kv .i :: .live [.mp (bl.length + 1)] 1 :: (ext ++ b :: u))).set (bl.length + 3 + ext.length) c = bl ++ (Blk.live [encW w] 5 :: .mp kv .i :: .live [.mp (bl.length + 1)] 1 :: (ext ++ c :: u)) := fun kv b c u => by
        rw [show bl ++ (Blk.live [encW w] 5 :: .mp kv .i :: .live [.mp (bl.length + 1)] 1 :: (ext ++ b :: u)) = (bl ++ (Blk.live [encW w] 5 :: .mp kv .i :: .live [.mp (bl.length + 1)] 1 :: ext)) ++ b :: u by simp, set_mid _ _ _ _ (by simp; omega)]
        simp
      have hlp : ∀ (kv : List (AV × AV)) (b : Blk) (u : List Blk), (bl ++ (Blk.live [encW w] 5 :: .mp kv .i :: .live [.mp (bl.length + 1)] 1 :: (ext ++ b :: u)))[bl.length + 3 + ext.length]? = some b := fun kv b u => by
        rw [show bl ++ (Blk.live [encW w] 5 :: .mp kv .i :: .live [.mp (bl.length + 1)] 1 :: (ext ++ b :: u)) = (bl ++ (Blk.live [encW w] 5 :: .mp kv .i :: .live [.mp (bl.length + 1)] 1 :: ext)) ++ b :: u by simp]
        exact get_mid _ _ _ (by simp; omega)
      obtain ⟨L0, hL0⟩ : ∃ L, L = bl ++ (Blk.live [encW w] 5 :: .mp (encKV kvs) .i :: .live [.mp (bl.length + 1)] 1 :: (ext ++ (Blk.lp env0 [10] asg51_0 body51_0 true none) :: suf)) := ⟨_, rfl⟩
      rw [show bl ++ (Blk.live [encW w] 5 :: .mp (encKV kvs) .i :: .live [.mp (bl.length + 1)] 1 :: (ext ++ [.lp env0 [10] asg51_0 body51_0 true none])) ++ suf = L0 by rw [hL0]; simp]
      have hlp0 : L0[bl.length + 3 + ext.length]? = some (.lp env0 [10] asg51_0 body51_0 true none) := by rw [hL0]; exact hlp _ _ _
      have hll := (List.getElem?_eq_some_iff.1 hlp0).1
      refine WR_yld (ft := ft) hlp0 rfl ?_
      simp only [go_sem, Nat.reduceEqDiff, Nat.reduceAdd, Nat.reduceLT, Nat.reduceLeDiff, reduceIte, asg51_0, puts, PCells, PEta]
      refine YBegin_lp (ft := ft) (show (L0 ++ [Blk.live [encP p] 7])[bl.length + 3 + ext.length]? = some (.lp env0 [10] asg51_0 body51_0 true none) by rw [List.getElem?_append_left hll]; exact hlp0) ?_
      dsimp only
      rw [List.set_append_left _ _ hll]
      obtain ⟨L1, hL1⟩ : ∃ L, L = L0.set (bl.length + 3 + ext.length) (.lp env0 [10] asg51_0 body51_0 false none) := ⟨_, rfl⟩
      rw [← hL1]
      have hll1 : L1.length = L0.length := by rw [hL1]; exact List.length_set
      rw [hL0, hlps] at hL1
      generalize L0.length = r0 at *
      have f1 : L1[bl.length + 2]? = some (.live [.mp (bl.length + 1)] 1) := by
        rw [hL1, show ∀ a b c : Blk, ∀ u : List Blk, bl ++ (a :: b :: c :: u) = (bl ++ [a, b]) ++ c :: u from fun a b c u => by simp]; exact get_mid _ _ _ (by simp)
      have f2 : L1[bl.length + 1]? = some (.mp (encKV kvs) .i) := by
        rw [hL1, show ∀ a b c : Blk, ∀ u : List Blk, bl ++ (a :: b :: c :: u) = (bl ++ [a]) ++ b :: (c :: u) from fun a b c u => by simp]; exact get_mid _ _ _ (by simp)
      have l1 := (List.getElem?_eq_some_iff.1 f1).1
      have l2 := (List.getElem?_eq_some_iff.1 f2).1
      obtain ⟨L2, hL2⟩ : ∃ L, L = L1 ++ [Blk.live [encP p] 7] := ⟨_, rfl⟩
      rw [← hL2]
      have F1 : L2[bl.length + 2]? = some (.live [.mp (bl.length + 1)] 1) := by rw [hL2, List.getElem?_append_left l1]; exact f1
      have F2 : L2[bl.length + 1]? = some (.mp (encKV kvs) .i) := by rw [hL2, List.getElem?_append_left l2]; exact f2
      have F3 : L2[r0]? = some (.live [encP p] 7) := by rw [hL2, ← hll1]; exact get_last _ _
      have G1 : ∀ b : Blk, (L2 ++ [b])[bl.length + 2]? = some (.live [.mp (bl.length + 1)] 1) := fun b => by rw [List.getElem?_append_left (List.getElem?_eq_some_iff.1 F1).1]; exact F1
      have G2 : ∀ b : Blk, (L2 ++ [b])[bl.length + 1]? = some (.mp (encKV kvs) .i) := fun b => by rw [List.getElem?_append_left (List.getElem?_eq_some_iff.1 F2).1]; exact F2
      have G3 : ∀ b : Blk, (L2 ++ [b])[r0]? = some (.live [encP p] 7) := fun b => by rw [List.getElem?_append_left (List.getElem?_eq_some_iff.1 F3).1]; exact F3
      have hU : ∀ b : Blk, L2 ++ [b] = bl ++ (Blk.live [encW w] 5 :: .mp (encKV kvs) .i :: .live [.mp (bl.length + 1)] 1 :: (ext ++ (Blk.lp env0 [10] asg51_0 body51_0 false none) :: (suf ++ [Blk.live [encP p] 7, b]))) := fun b => by rw [hL2, hL1]; simp
      have hS : ∀ (b : Blk) (kv : List (AV × AV)), (L2 ++ [b]).set (bl.length + 1) (.mp kv .i) = bl ++ (Blk.live [encW w] 5 :: .mp kv .i :: .live [.mp (bl.length + 1)] 1 :: (ext ++ (Blk.lp env0 [10] asg51_0 body51_0 false none) :: (suf ++ [Blk.live [encP p] 7, b]))) := fun b kv => by
        rw [hU, show ∀ a b c : Blk, ∀ u : List Blk, bl ++ (a :: b :: c :: u) = (bl ++ [a]) ++ b :: (c :: u) from fun a b c u => by simp, set_mid _ _ _ _ (by simp)]
        simp
      have hend : ∀ (env' : Nat → AV) (kvs' : List (Nat × Pg)) (b : Blk), ps.foldl putB kvs' = bestsL w → YEnd (bl.length + 3 + ext.length) K2 .nxt ⟨env', ⟨bl ++ (Blk.live [encW w] 5 :: .mp (encKV kvs') .i :: .live [.mp (bl.length + 1)] 1 :: (ext ++ (Blk.lp env0 [10] asg51_0 body51_0 false none) :: (suf ++ [Blk.live [encP p] 7, b]))), []⟩⟩ := fun env' kvs' b hb => by
        refine YEnd_lp (hlp _ _ _) ?_
        dsimp only
        rw [hlps]
        have := hk2 (bl ++ (Blk.live [encW w] 5 :: .mp (encKV kvs') .i :: .live [.mp (bl.length + 1)] 1 :: (ext ++ [.lp env0 [10] asg51_0 body51_0 true none]))) [Blk.live [encP p] 7, b] (by simp; omega) ⟨fun p hp => hok2 p (by simp [hp]), kvs', rfl, hb⟩
        simpa using this
      have hpf := put_find p kvs 0
      have hme := find_enc p.kept kvs 0
      cases hf : findB p.kept kvs 0 with
      | none =>
        rw [hf] at hpf hme
        have hg : mgetL .i (.agg [.int .i64 0, .int .u64 0, .int .u64 0, .int .u64 0, .int .u64 0, .int .u64 0, .int .u64 0]) true (encKV kvs) (U64 p.kept) = some (.tup [.agg [.int .i64 0, .int .u64 0, .int .u64 0, .int .u64 0, .int .u64 0, .int .u64 0, .int .u64 0], .bool false]) := by unfold mgetL; rw [hme]; rfl
        have hp2 : mputL .i (encKV kvs) (U64 p.kept) (encP p) = some (encKV (putB kvs p)) := by unfold mputL; rw [hme, hpf]; simp [encKV]
        simp only [go_sem, Nat.reduceEqDiff, Nat.reduceAdd, Nat.reduceLT, Nat.reduceLeDiff, reduceIte, body51_0, v3, F1, F2, F3, G1, G2, G3, PCells, PEta, hg, hp2]
        rw [hS]
        exact hend _ _ _ hq
      | some y =>
        obtain ⟨jj, q⟩ := y
        rw [hf] at hpf hme
        have hg : mgetL .i (.agg [.int .i64 0, .int .u64 0, .int .u64 0, .int .u64 0, .int .u64 0, .int .u64 0, .int .u64 0]) true (encKV kvs) (U64 p.kept) = some (.tup [encP q, .bool true]) := by unfold mgetL; rw [hme]; rfl
        cases hc : decide (q.tk < p.tk)
        · have hpu : putB kvs p = kvs := by rw [hpf]; simp only []; rw [if_neg (of_decide_eq_false hc)]
          rw [List.foldl_cons, hpu] at hq
          simp only [go_sem, Nat.reduceEqDiff, Nat.reduceAdd, Nat.reduceLT, Nat.reduceLeDiff, reduceIte, body51_0, v3, F1, F2, F3, G1, G2, G3, PCells, PEta, hg, hc]
          rw [hU]
          exact hend _ _ _ hq
        · have hp2 : mputL .i (encKV kvs) (U64 p.kept) (encP p) = some (encKV (putB kvs p)) := by
            unfold mputL; rw [hme, hpf]; simp only []; rw [if_pos (of_decide_eq_true hc)]
            simp [encKV, List.map_set]
          simp only [go_sem, Nat.reduceEqDiff, Nat.reduceAdd, Nat.reduceLT, Nat.reduceLeDiff, reduceIte, body51_0, v3, F1, F2, F3, G1, G2, G3, PCells, PEta, hg, hc, hp2]
          rw [hS]
          exact hend _ _ _ hq
    · rintro pre ext' hlen ⟨_, kvs, rfl, hq⟩
      rw [List.foldl_nil] at hq
      subst hq
      have := hK' ext'
      simpa using this
  have hl3 : (bl ++ [Blk.live [encW w] 5] ++ [Blk.mp [] .i] ++ [Blk.live [AV.mp (bl ++ [Blk.live [encW w] 5]).length] 1] ++ ext).length = bl.length + 3 + ext.length := by simp; omega
  rw [hl3, show ∀ e0 : Blk, bl ++ [Blk.live [encW w] 5] ++ [Blk.mp [] .i] ++ [Blk.live [AV.mp (bl ++ [Blk.live [encW w] 5]).length] 1] ++ ext ++ [e0] = bl ++ (Blk.live [encW w] 5 :: .mp [] .i :: .live [.mp (bl.length + 1)] 1 :: (ext ++ [e0])) from fun e0 => by simp]
  refine hinit _ (by simp only [go_sem, Nat.reduceEqDiff, Nat.reduceAdd, Nat.reduceLT, Nat.reduceLeDiff, reduceIte]; simp) _ fun ext' => ?_
  refine RgEnd_lp (env := _) (by
    rw [show ∀ (kv : List (AV × AV)) (b : Blk), bl ++ (Blk.live [encW w] 5 :: .mp kv .i :: .live [.mp (bl.length + 1)] 1 :: (ext ++ b :: ext')) = (bl ++ (Blk.live [encW w] 5 :: .mp kv .i :: .live [.mp (bl.length + 1)] 1 :: ext)) ++ b :: ext' from fun kv b => by simp]
    exact get_mid _ _ _ (by simp; omega)) ?_
  rw [show ∀ (kv : List (AV × AV)) (b c : Blk), (bl ++ (Blk.live [encW w] 5 :: .mp kv .i :: .live [.mp (bl.length + 1)] 1 :: (ext ++ b :: ext'))).set (bl.length + 3 + ext.length) c = bl ++ (Blk.live [encW w] 5 :: .mp kv .i :: .live [.mp (bl.length + 1)] 1 :: (ext ++ c :: ext')) from fun kv b c => by
    rw [show bl ++ (Blk.live [encW w] 5 :: .mp kv .i :: .live [.mp (bl.length + 1)] 1 :: (ext ++ b :: ext')) = (bl ++ (Blk.live [encW w] 5 :: .mp kv .i :: .live [.mp (bl.length + 1)] 1 :: ext)) ++ b :: ext' by simp, set_mid _ _ _ _ (by simp; omega)]
    simp]
  have g3 : ∀ (u : List Blk), (bl ++ (Blk.live [encW w] 5 :: .mp (encKV (bestsL w)) .i :: .live [.mp (bl.length + 1)] 1 :: u))[bl.length + 2]? = some (.live [.mp (bl.length + 1)] 1) := fun u => by
    rw [show bl ++ (Blk.live [encW w] 5 :: .mp (encKV (bestsL w)) .i :: .live [.mp (bl.length + 1)] 1 :: u) = (bl ++ [Blk.live [encW w] 5, .mp (encKV (bestsL w)) .i]) ++ .live [.mp (bl.length + 1)] 1 :: u by simp]; exact get_mid _ _ _ (by simp)
  have hl2 : (bl ++ [Blk.live [encW w] 5] ++ [Blk.mp [] .i]).length = bl.length + 2 := by simp
  simp only [go_sem, Nat.reduceEqDiff, Nat.reduceAdd, Nat.reduceLT, Nat.reduceLeDiff, reduceIte, hl2, g3]
  exact hK _
end Go.Ab.T
end

section
namespace Go.Ab.T
set_option maxRecDepth 8000
set_option maxHeartbeats 4000000
def stepM (D : Nat) (a : Int × Bool) (x : Nat × Pg) : Int × Bool := if x.1 &&& D = D then (max a.1 x.2.tk, true) else a
/-- The most that one of some programs takes that keep some deals, and whether there is one. -/
def mostM (D : Nat) (l : List (Nat × Pg)) : Int × Bool := l.foldl (stepM D) (0, false)
theorem perm_map {α β : Type} (f : α → β) : ∀ (l : List α) (π : List β), π.Perm (l.map f) → ∃ l' : List α, l'.Perm l ∧ π = l'.map f
  | [], π, h => ⟨[], List.Perm.refl _, by simpa using h⟩
  | a :: l, π, h => by
    obtain ⟨p, q, rfl⟩ := List.append_of_mem (h.mem_iff.2 (by simp : f a ∈ (a :: l).map f))
    have h2 : (p ++ q).Perm (l.map f) := (List.perm_cons (f a)).1 (List.perm_middle.symm.trans h)
    obtain ⟨l', h3, h4⟩ := perm_map f l (p ++ q) h2
    obtain ⟨p', q', rfl, rfl, rfl⟩ := List.map_eq_append_iff.1 h4.symm
    exact ⟨p' ++ a :: q', List.perm_middle.trans (h3.cons a), by simp⟩
theorem mostM_perm (D : Nat) {l l' : List (Nat × Pg)} (h : l'.Perm l) : mostM D l' = mostM D l := by
  unfold mostM
  refine h.foldl_eq' (fun x _ y _ z => ?_) _
  unfold stepM
  by_cases h1 : x.1 &&& D = D
  · by_cases h2 : y.1 &&& D = D
    · simp only [h1, h2, if_true]
      congr 1
      omega
    · simp only [h1, h2, if_true, if_false]
  · simp only [h1, if_false]
def fgM : List Nat := [11, 12, 13, 14, 8, 9, 15, 16, 17, 18, 19, 20, 21, 22, 23, 24]
theorem most_ok (bl : List Blk) (mid : Nat) (l : List (Nat × Pg)) (hm : bl[mid]? = some (.mp (encKV l) .i)) (hl : ∀ x ∈ l, x.1 < 256) (D : Nat) (hD : D < 256) (K : AV → Mem → Prop)
    (hK : K (.tup [I64 (mostM D l).1, .bool (mostM D l).2]) ⟨bl ++ List.replicate (l.length + 1) .dead, []⟩) : WR ft (.f 58) [.mp mid, U64 D] ⟨bl, []⟩ K := by
  rw [WR_f ft58 rfl]
  simp only [c58, r58]
  have hmlt := (List.getElem?_eq_some_iff.1 hm).1
  simp only [go_sem, Nat.reduceEqDiff, Nat.reduceAdd, Nat.reduceLT, Nat.reduceLeDiff, reduceIte]
  refine W_rngm ?_
  simp only [go_sem, Nat.reduceEqDiff, Nat.reduceAdd, Nat.reduceLT, Nat.reduceLeDiff, reduceIte]
  refine ⟨mid, encKV l, .i, .nxt, ⟨fun t => if fgM.contains t = true then .undef else upd (upd (upd (upd (upd (upd (upd (entry [AV.mp mid, U64 D]) 4 (.int .i64 0)) 5 (.bool false)) 6 (.int .i64 0)) 7 (.bool false)) 10 (.mp mid)) 6 (I64 (mostM D l).1)) 7 (.bool (mostM D l).2) t, ⟨bl ++ List.replicate (l.length + 1) .dead, []⟩⟩, rfl, hm, ?_, ?_⟩
  · simp only [go_sem, Nat.reduceEqDiff, Nat.reduceAdd, Nat.reduceLT, Nat.reduceLeDiff, reduceIte, fgM]
    exact hK
  intro π hπ
  obtain ⟨l', hl', rfl⟩ := perm_map _ l π hπ
  let E : List (Nat × Pg) → Nat → AV := fun dn => upd (upd (upd (upd (upd (upd (upd (entry [AV.mp mid, U64 D]) 4 (.int .i64 0)) 5 (.bool false)) 6 (.int .i64 0)) 7 (.bool false)) 10 (.mp mid)) 6 (I64 (mostM D dn).1)) 7 (.bool (mostM D dn).2)
  refine Rw_inv (kvs := encKV l') (fun dn s => ∃ d : List (Nat × Pg), dn = d.map (fun x => (U64 x.1, encP x.2)) ∧ s.env 11 = .itr bl.length ∧ (∀ t, fgM.contains t = false → s.env t = E d t) ∧ ∃ junk, junk.length = d.length ∧ s.mem = ⟨bl.set mid .dead ++ (.dead :: junk), []⟩) ?_ ?_ _ [] _ (List.Perm.refl _) ?_
  · rintro dn p rest ⟨e, m⟩ hp ⟨d, rfl, h11, hE, junk, hj, hmm⟩
    obtain ⟨x, hx, rfl⟩ := List.mem_map.1 (hp.mem_iff.1 (by simp : p ∈ _ ++ p :: rest))
    have hx256 := hl x (hl'.mem_iff.1 hx)
    dsimp only at h11 hE hmm ⊢
    subst hmm
    refine ⟨h11, ?_⟩
    have h1 : e 1 = U64 D := hE 1 rfl
    have h6 : e 6 = I64 (mostM D d).1 := hE 6 rfl
    have h7 : e 7 = .bool (mostM D d).2 := hE 7 rfl
    have hho := holds_ok x.1 D (by omega) (by omega)
    have hsn : mostM D (d ++ [x]) = stepM D (mostM D d) x := by unfold mostM; rw [List.foldl_append]; rfl
    have hfin : ∀ (e' : Nat → AV) (b : Blk), (∀ t, fgM.contains t = false → e' t = E (d ++ [x]) t) → ∃ d' : List (Nat × Pg), d.map (fun x => (U64 x.1, encP x.2)) ++ [(U64 x.1, encP x.2)] = d'.map (fun x => (U64 x.1, encP x.2)) ∧ (∀ t, fgM.contains t = false → e' t = E d' t) ∧ ∃ junk', junk'.length = d'.length ∧ (⟨bl.set mid .dead ++ (.dead :: junk) ++ [b], []⟩ : Mem) = ⟨bl.set mid .dead ++ (.dead :: junk'), []⟩ := fun e' b a2 => ⟨d ++ [x], by simp, a2, junk ++ [b], by simp [hj], by simp⟩
    have hEs : ∀ t, t ≠ 6 → t ≠ 7 → E (d ++ [x]) t = E d t := fun t ht6 ht7 => by
      show upd (upd _ 6 _) 7 _ t = upd (upd _ 6 _) 7 _ t
      simp only [upd, ht6, ht7, if_false]
    have hfg : ∀ t, fgM.contains t = false → t ≠ 11 ∧ t ≠ 12 ∧ t ≠ 13 ∧ t ≠ 14 ∧ t ≠ 8 ∧ t ≠ 9 ∧ t ≠ 15 ∧ t ≠ 16 ∧ t ≠ 17 ∧ t ≠ 18 ∧ t ≠ 19 ∧ t ≠ 20 ∧ t ≠ 21 ∧ t ≠ 22 ∧ t ≠ 23 ∧ t ≠ 24 := fun t ht => by
      refine ⟨?_, ?_, ?_, ?_, ?_, ?_, ?_, ?_, ?_, ?_, ?_, ?_, ?_, ?_, ?_, ?_⟩ <;> rintro rfl <;> exact absurd ht (by decide)
    cases hc : decide (x.1 &&& D = D)
    · have hst : stepM D (mostM D d) x = mostM D d := by unfold stepM; rw [if_neg (of_decide_eq_false hc)]
      simp only [go_sem, Nat.reduceEqDiff, Nat.reduceAdd, Nat.reduceLT, Nat.reduceLeDiff, reduceIte, h11, h1, h6, h7, PCells, PEta, WB82, WVH_eq hho, true_and, hc]
      refine hfin _ _ fun t ht => ?_
      obtain ⟨k11, k12, k13, k14, k8, k9, k15, k16, k17, k18, k19, k20, k21, k22, k23, k24⟩ := hfg t ht
      simp only [upd, k11, k12, k13, k14, k8, k9, k15, k16, k17, k18, k19, k20, k21, k22, k23, k24, if_false]
      rw [hE t ht]
      by_cases ht6 : t = 6
      · subst ht6; show I64 _ = I64 _; rw [hsn, hst]
      by_cases ht7 : t = 7
      · subst ht7; show AV.bool _ = AV.bool _; rw [hsn, hst]
      exact (hEs t ht6 ht7).symm
    · have hst : stepM D (mostM D d) x = (max (mostM D d).1 x.2.tk, true) := by unfold stepM; rw [if_pos (of_decide_eq_true hc)]
      simp only [go_sem, Nat.reduceEqDiff, Nat.reduceAdd, Nat.reduceLT, Nat.reduceLeDiff, reduceIte, h11, h1, h6, h7, PCells, PEta, WB82, WVH_eq hho, true_and, hc]
      refine hfin _ _ fun t ht => ?_
      obtain ⟨k11, k12, k13, k14, k8, k9, k15, k16, k17, k18, k19, k20, k21, k22, k23, k24⟩ := hfg t ht
      by_cases ht7 : t = 7
      · subst ht7; show AV.bool _ = AV.bool _; rw [hsn, hst]
      by_cases ht6 : t = 6
      · subst ht6; show I64 _ = I64 _; rw [hsn, hst]
      simp only [upd, ht6, ht7, k11, k12, k13, k14, k8, k9, k15, k16, k17, k18, k19, k20, k21, k22, k23, k24, if_false]
      rw [hE t ht]
      exact (hEs t ht6 ht7).symm
  · rintro dn ⟨e, m⟩ hp ⟨d, rfl, h11, hE, junk, hj, hmm⟩
    dsimp only at h11 hE hmm ⊢
    subst hmm
    refine ⟨h11, rfl, ?_⟩
    have hdl : mostM D d = mostM D l := by
      obtain ⟨d', hd', he⟩ := perm_map (fun x : Nat × Pg => (U64 x.1, encP x.2)) l' _ hp
      have hinj : ∀ (a b : List (Nat × Pg)), a.map (fun x : Nat × Pg => (U64 x.1, encP x.2)) = b.map (fun x => (U64 x.1, encP x.2)) → a = b := fun a b h => by
        refine (List.map_inj_right (f := fun x : Nat × Pg => (U64 x.1, encP x.2)) ?_).1 h
        rintro ⟨a1, ⟨⟩⟩ ⟨b1, ⟨⟩⟩ hab
        simp only [encP, Prod.mk.injEq, AV.int.injEq, AV.agg.injEq, List.cons.injEq, true_and, and_true] at hab
        obtain ⟨c0, c1, c2, c3, c4, c5, c6, c7⟩ := hab
        simp only [Prod.mk.injEq, Pg.mk.injEq]
        omega
      rw [hinj _ _ he]
      exact mostM_perm D (hd'.trans hl')
    have hlen : d.length = l.length := by
      have h1 := hp.length_eq
      have h2 := hl'.length_eq
      simp [encKV] at h1
      omega
    have hmem : (St.clean ⟨e, ⟨bl.set mid .dead ++ (.dead :: junk), []⟩⟩ bl.length mid (.mp (encKV l) .i) fgM).mem = ⟨bl ++ List.replicate (l.length + 1) .dead, []⟩ := by
      have h1 : (bl.set mid .dead ++ (Blk.dead :: junk)).take bl.length = bl.set mid .dead := by rw [List.take_append_of_le_length (by simp), List.take_of_length_le (by simp)]
      have h2 : (bl.set mid .dead ++ (Blk.dead :: junk)).drop bl.length = Blk.dead :: junk := by rw [List.drop_append_of_le_length (by simp), List.drop_of_length_le (by simp)]; rfl
      have h3 : (bl.set mid .dead).set mid (.mp (encKV l) .i) = bl := by
        rw [List.set_set]
        refine List.ext_getElem? fun i => ?_
        by_cases hi : mid = i
        · subst hi; rw [List.getElem?_set_self hmlt, hm]
        · rw [List.getElem?_set_ne hi]
      have h4 : (Blk.dead :: junk).map (fun _ => Blk.dead) = List.replicate (l.length + 1) Blk.dead := by
        rw [List.map_const', List.length_cons, hj, hlen]
      show Mem.mk (((bl.set mid .dead ++ (Blk.dead :: junk)).take bl.length).set mid (.mp (encKV l) .i) ++ ((bl.set mid .dead ++ (Blk.dead :: junk)).drop bl.length).map fun _ => .dead) [] = _
      rw [h1, h2, h3, h4]
    have henv : (St.clean ⟨e, ⟨bl.set mid .dead ++ (.dead :: junk), []⟩⟩ bl.length mid (.mp (encKV l) .i) fgM).env = fun t => if fgM.contains t = true then .undef else E l t := by
      funext t
      show (if fgM.contains t = true then AV.undef else e t) = _
      cases ht : fgM.contains t
      · rw [if_neg (by decide), if_neg (by decide), hE t ht]
        show upd (upd _ 6 (I64 (mostM D d).1)) 7 (.bool (mostM D d).2) t = _
        rw [hdl]
      · rfl
    exact (fun (s : St) (a : Nat → AV) (b : Mem) (h1 : s.env = a) (h2 : s.mem = b) => (show s = ⟨a, b⟩ by cases s; cases h1; cases h2; rfl)) _ _ _ henv hmem
  · refine ⟨[], rfl, rfl, fun t ht => ?_, [], rfl, rfl⟩
    have hfg : t ≠ 11 ∧ ([12, 13, 14].contains t) = false := by
      refine ⟨?_, ?_⟩
      · rintro rfl; exact absurd ht (by decide)
      · cases h : [12, 13, 14].contains t
        · rfl
        · exfalso
          have h1 : t ∈ [12, 13, 14] := by simpa using h
          simp only [List.mem_cons, List.not_mem_nil, or_false] at h1
          rcases h1 with rfl | rfl | rfl <;> exact absurd ht (by decide)
    show (if t = 11 then AV.itr bl.length else if [12, 13, 14].contains t = true then AV.undef else _) = _
    rw [if_neg hfg.1, if_neg (by rw [hfg.2]; decide)]
    show _ = upd (upd _ 6 (I64 0)) 7 (.bool false) t
    simp only [upd]
    by_cases t7 : t = 7
    · simp [t7]
    by_cases t6 : t = 6
    · simp [t6]
    simp [t6, t7]
end Go.Ab.T
end
