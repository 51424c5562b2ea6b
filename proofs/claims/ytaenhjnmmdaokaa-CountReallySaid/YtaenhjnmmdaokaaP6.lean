/-
  A part of the proofs over this seat.
  (The texts KcK11 KcK12 KcK13, one behind the other.)
-/
import Derived.Test.YtaenhjnmmdaokaaP5
set_option linter.unusedSimpArgs false
set_option linter.unusedVariables false
set_option linter.unusedSectionVars false
section
namespace Go.Ab.T
set_option maxRecDepth 8000
set_option maxHeartbeats 4000000
theorem AppV.lenT {T : Nat} {l : List Ch} {v : AV} {toks : List (Nat × Nat)} (h : AppV T (l.map encCh) v toks) (m : Mem) : lenAt m v = some (I64 l.length) := by
  obtain ⟨tk, rfl⟩ := h.sl
  exact Chs_lenT l tk m
theorem AppV.cells {T : Nat} {es : List AV} {v : AV} {toks : List (Nat × Nat)} (h : AppV T es v toks) : v.cells = [v] ∧ v.solid = true ∧ v.isAgg = false := by
  obtain ⟨tk, rfl⟩ := h.sl; exact ⟨rfl, rfl, rfl⟩
theorem TkK.refl (T : Nat) (toks : List (Nat × Nat)) : TkK T toks toks := fun _ _ _ _ h => h
theorem TkK.trans {T : Nat} {a b c : List (Nat × Nat)} (h : TkK T a b) (k : TkK T b c) : TkK T a c := fun t n T' hn h1 => k t n T' hn (h t n T' hn h1)
theorem WB.lk {k : Nat} {w : WM} (h : WB k w) {x : V3} {g : Int} (hl : lk w x = some g) : 0 ≤ g ∧ g ≤ 2 * k := (h.bd _ (lk_mem hl)).2
theorem likely_W {t : TLs} (ht : ∀ p ∈ t, p.1.length ≤ 100000000 ∧ ∀ c ∈ p.1, ChB c) (hn : t.length ≤ 1000) {s : V3} (hs : s.bd 1000) {i : Nat} {L : List Ch} {tkL : Tk} (hi : t[i]? = some (L, tkL)) {B : List Blk} {tk : List (Nat × Nat)} {id : Nat} (hid : B[id]? = some (.live (encTL t) 1)) {K : AV → Mem → Prop}
    (hK : ∀ v junk toks, AppV 72 ((likS (othG i 0 [(V3.zero, 0)] (t.map Prod.fst)) s L ([], 0)).1.map encCh) v toks → TkK 72 tk toks → K (.tup [v, I64 (likS (othG i 0 [(V3.zero, 0)] (t.map Prod.fst)) s L ([], 0)).2]) ⟨B ++ junk, toks⟩) : WR ft (.f 47) [tAV s id t.length, I64 (i : Int)] ⟨B, tk⟩ K := by
  rw [WR_f ft47 rfl]
  simp only [c47, r47]
  obtain ⟨hLl, hLc⟩ := ht _ (List.mem_of_getElem? hi)
  have hit := (List.getElem?_eq_some_iff.1 hi).1
  dsimp only at hLl hLc
  have tC : (tAV s id t.length).cells = [I64 s.x, I64 s.y, I64 s.z, .ref id 0 t.length] := rfl
  have tA : (tAV s id t.length).isAgg = true := rfl
  have hE : AV.agg [I64 s.x, I64 s.y, I64 s.z, .ref id 0 t.length] = tAV s id t.length := rfl
  simp only [go_sem, Nat.reduceEqDiff, Nat.reduceAdd, Nat.reduceLT, Nat.reduceLeDiff, reduceIte, tC, tA, hE, WB76]
  refine others_W ht hn (getA hid _) fun iw j0 hiw => ?_
  have hw : WB t.length (othG i 0 [(V3.zero, 0)] (t.map Prod.fst)) := by
    have := othG_WB (i : Int) (t.map Prod.fst) 0 0 _ WB0 fun M hM => by
      obtain ⟨p, hp, rfl⟩ := List.mem_map.1 hM
      exact (ht p hp).2
    rwa [List.length_map, Nat.zero_add] at this
  generalize othG i 0 [(V3.zero, 0)] (t.map Prod.fst) = w at hK hiw hw
  obtain ⟨C, hC⟩ : ∃ C, C = B ++ [Blk.live [tAV s id t.length] 4] ++ j0 := ⟨_, rfl⟩
  rw [← hC] at hiw ⊢
  have hCid : C[id]? = some (.live (encTL t) 1) := by rw [hC]; exact getA (getA hid _) _
  have hCt : C[B.length]? = some (.live [tAV s id t.length] 4) := by rw [hC]; exact getA (by simp) _
  have hix : idxAt ⟨C, tk⟩ (.ref id 0 t.length) (I64 (i : Int)) 1 = some (.ptr id i 0) := idx_own hCid hit
  have hlo : loadAt ⟨C, tk⟩ (.ptr id i 0) none = some (.sl (L.map encCh) tkL) := load_own hCid (encTL_get hi) rfl
  simp only [go_sem, Nat.reduceEqDiff, Nat.reduceAdd, Nat.reduceLT, Nat.reduceLeDiff, reduceIte, hCt, tC, tA, hix, hlo, Chs_lenT]
  refine WL_inv (α := Nat × List Ch × (List Ch × Int) × AV × List Blk) (fun q e mm => e 2 = .ptr B.length 0 0 ∧ e 4 = q.2.2.2.1 ∧ e 5 = I64 q.2.2.1.2 ∧ e 6 = .mp iw ∧ e 18 = .sl (L.map encCh) tkL ∧ e 19 = I64 L.length ∧ e 20 = I64 q.1 ∧ L.drop q.1 = q.2.1 ∧ likS w s q.2.1 q.2.2.1 = likS w s L ([], 0) ∧ q.2.2.1.1.length ≤ q.1 ∧ (0 ≤ q.2.2.1.2 ∧ q.2.2.1.2 ≤ 10000) ∧
    ∃ toks, AppV 72 (q.2.2.1.1.map encCh) q.2.2.2.1 toks ∧ TkK 72 tk toks ∧ mm = ⟨C ++ q.2.2.2.2, toks⟩) (fun q => q.2.1.length) (0, L, ([], 0), .sl [] .tight, []) ?_ ?_
  · simp only [go_sem, Nat.reduceEqDiff, Nat.reduceAdd, Nat.reduceLT, Nat.reduceLeDiff, reduceIte]
    exact ⟨trivial, trivial, trivial, trivial, trivial, trivial, rfl, trivial, trivial, trivial, by decide, tk, .inl ⟨rfl, rfl⟩, TkK.refl _ _, rfl⟩
  rintro ⟨k, r, ⟨D, f⟩, A, j⟩ e m ⟨g2, g4, g5, g6, g18, g19, g20, hd, hq, hDk, hf, toks, hA, hT, rfl⟩
  dsimp only at g4 g5 g20 hd hq hDk hf hA
  cases r with
  | nil =>
    have h3 := drop_nil hd
    simp only [likS] at hq
    simp only [go_sem, Nat.reduceEqDiff, Nat.reduceAdd, Nat.reduceLT, Nat.reduceLeDiff, reduceIte, g2, g4, g5, g6, g18, g19, g20, dec_ge h3]
    rw [← hq] at hK
    rw [hC, List.append_assoc, List.append_assoc]
    exact hK A _ toks hA hT
  | cons c r =>
    obtain ⟨hk, hd2, hlt⟩ := drop_cons hd
    have hc := hLc c (List.mem_of_getElem? hk)
    have hc0 := hc.f0
    have hc2 := hc.f2
    have hb1 : s.bd 1000000000 := by simp only [V3.bd] at hs ⊢; omega
    have hb2 : c.t.bd 1000000000 := by have := hc.t; simp only [V3.bd] at this ⊢; omega
    obtain ⟨bl, hbl⟩ : ∃ x, x = C ++ j := ⟨_, rfl⟩
    have ht2 : (bl ++ [Blk.live [encCh c] 5])[B.length]? = some (.live [tAV s id t.length] 4) := by rw [hbl]; exact getA (getA hCt _) _
    have hm2 : (bl ++ [Blk.live [encCh c] 5])[iw]? = some (.mp (encW w) (.n 3)) := by rw [hbl]; exact getA (getA hiw _) _
    rw [← hbl]
    simp only [likS] at hq
    cases hl : lk w (s.sub c.t) with
    | none =>
      have hsc : scr w s c = none := by unfold scr; rw [hl]; rfl
      rw [hsc] at hq
      dsimp only at hq
      simp only [go_sem, Nat.reduceEqDiff, Nat.reduceAdd, Nat.reduceLT, Nat.reduceLeDiff, reduceIte, g2, g4, g5, g6, g18, g19, g20, dec_lt hlt, Chs_idxT hk, ht2, hm2, tC, tA, WB77, WVH_eq (minus_ok hb1 hb2), true_and, sameN3, isKeyV, mgetW hw.srt, hl, Option.getD_none, Option.isSome_none, Bool.not_false, wrap_n1 k (by omega)]
      refine Nx_of (k + 1, r, (D, f), A, j ++ [.live [encCh c] 5]) (by simp) ?_
      simp only [go_sem, Nat.reduceEqDiff, Nat.reduceAdd, Nat.reduceLT, Nat.reduceLeDiff, reduceIte, g2, g4, g5, g6, g18, g19]
      exact ⟨trivial, trivial, trivial, trivial, trivial, trivial, trivial, hd2, hq, by omega, hf, toks, hA, hT, by rw [hbl, List.append_assoc]⟩
    | some g0 =>
      have hg0 := hw.lk hl
      have hsc : scr w s c = some (g0 + c.f) := by unfold scr; rw [hl]; rfl
      rw [hsc] at hq
      dsimp only at hq
      have hlenA := hA.lenT
      obtain ⟨a1, a2, a3⟩ := hA.cells
      have hcD : ∀ e ∈ D.map encCh, e.cells.length = 5 := cellsChs D
      have hlim : ((D.map encCh).length + 1) * (40 + 1) ≤ limit := by rw [List.length_map]; unfold limit; omega
      have new : ∀ (bl' : List Blk) (KK : AV × Mem → Prop), (∀ v' toks', AppV 72 ([c].map encCh) v' toks' → TkK 72 tk toks' → KK (v', ⟨bl', toks'⟩)) → @OptH _ (appendAt ⟨bl', toks⟩ false (.sl [] .tight) (.sl [encCh c] .tight) 72 5 40) ⟨KK⟩ := by
        intro bl' KK h
        refine AppV.app (es := []) (.inl ⟨rfl, rfl⟩) (fun e he => nomatch he) rfl (by unfold limit; simp) fun v' toks' h1 h2 => h v' toks' h1 (hT.trans h2)
      have more : ∀ (bl' : List Blk) (KK : AV × Mem → Prop), (∀ v' toks', AppV 72 ((D ++ [c]).map encCh) v' toks' → TkK 72 tk toks' → KK (v', ⟨bl', toks'⟩)) → @OptH _ (appendAt ⟨bl', toks⟩ false A (.sl [encCh c] .tight) 72 5 40) ⟨KK⟩ := by
        intro bl' KK h
        refine hA.app hcD rfl hlim fun v' toks' h1 h2 => h v' toks' ?_ (hT.trans h2)
        rw [List.map_append]; exact h1
      by_cases hD : D = []
      · rw [if_pos (.inl hD)] at hq
        have hz : ((D.length : Int) == 0) = true := by rw [hD]; rfl
        simp only [go_sem, Nat.reduceEqDiff, Nat.reduceAdd, Nat.reduceLT, Nat.reduceLeDiff, reduceIte, g2, g4, g5, g6, g18, g19, g20, dec_lt hlt, Chs_idxT hk, ht2, hm2, tC, tA, WB77, WVH_eq (minus_ok hb1 hb2), true_and, sameN3, isKeyV, mgetW hw.srt, hl, Option.getD_some, Option.isSome_some, Bool.not_true, wrap_i64 (g0 + c.f) (by omega) (by omega), hlenA, hz]
        refine new _ _ fun A' toks' hA' hT' => ?_
        simp only [go_sem, Nat.reduceEqDiff, Nat.reduceAdd, Nat.reduceLT, Nat.reduceLeDiff, reduceIte, g2, g6, g18, g19, g20, wrap_n1 k (by omega)]
        refine Nx_of (k + 1, r, ([c], g0 + c.f), A', j ++ [.live [encCh c] 5]) (by simp) ?_
        simp only [go_sem, Nat.reduceEqDiff, Nat.reduceAdd, Nat.reduceLT, Nat.reduceLeDiff, reduceIte, g2, g6, g18, g19]
        exact ⟨trivial, trivial, trivial, trivial, trivial, trivial, trivial, hd2, hq, by first | trivial | (show 1 ≤ k + 1; omega), ⟨by omega, by omega⟩, toks', hA', hT', by rw [hbl, List.append_assoc]⟩
      have hz : ((D.length : Int) == 0) = false := by
        rw [beq_eq_false_iff_ne]
        have : D.length ≠ 0 := by simpa using hD
        omega
      by_cases hlt2 : g0 + c.f < f
      · rw [if_pos (.inr hlt2)] at hq
        simp only [go_sem, Nat.reduceEqDiff, Nat.reduceAdd, Nat.reduceLT, Nat.reduceLeDiff, reduceIte, g2, g4, g5, g6, g18, g19, g20, dec_lt hlt, Chs_idxT hk, ht2, hm2, tC, tA, WB77, WVH_eq (minus_ok hb1 hb2), true_and, sameN3, isKeyV, mgetW hw.srt, hl, Option.getD_some, Option.isSome_some, Bool.not_true, wrap_i64 (g0 + c.f) (by omega) (by omega), hlenA, hz, decide_eq_true hlt2]
        refine new _ _ fun A' toks' hA' hT' => ?_
        simp only [go_sem, Nat.reduceEqDiff, Nat.reduceAdd, Nat.reduceLT, Nat.reduceLeDiff, reduceIte, g2, g6, g18, g19, g20, wrap_n1 k (by omega)]
        refine Nx_of (k + 1, r, ([c], g0 + c.f), A', j ++ [.live [encCh c] 5]) (by simp) ?_
        simp only [go_sem, Nat.reduceEqDiff, Nat.reduceAdd, Nat.reduceLT, Nat.reduceLeDiff, reduceIte, g2, g6, g18, g19]
        exact ⟨trivial, trivial, trivial, trivial, trivial, trivial, trivial, hd2, hq, by first | trivial | (show 1 ≤ k + 1; omega), ⟨by omega, by omega⟩, toks', hA', hT', by rw [hbl, List.append_assoc]⟩
      rw [if_neg (fun h => h.elim hD hlt2)] at hq
      by_cases he : g0 + c.f = f
      · rw [if_pos he] at hq
        have hbe : ((g0 + c.f) == f) = true := beq_iff_eq.2 he
        simp only [go_sem, Nat.reduceEqDiff, Nat.reduceAdd, Nat.reduceLT, Nat.reduceLeDiff, reduceIte, g2, g4, g5, g6, g18, g19, g20, dec_lt hlt, Chs_idxT hk, ht2, hm2, tC, tA, WB77, WVH_eq (minus_ok hb1 hb2), true_and, sameN3, isKeyV, mgetW hw.srt, hl, Option.getD_some, Option.isSome_some, Bool.not_true, wrap_i64 (g0 + c.f) (by omega) (by omega), hlenA, hz, decide_eq_false hlt2, hbe]
        refine more _ _ fun A' toks' hA' hT' => ?_
        simp only [go_sem, Nat.reduceEqDiff, Nat.reduceAdd, Nat.reduceLT, Nat.reduceLeDiff, reduceIte, g2, g5, g6, g18, g19, g20, wrap_n1 k (by omega)]
        refine Nx_of (k + 1, r, (D ++ [c], f), A', j ++ [.live [encCh c] 5]) (by simp) ?_
        simp only [go_sem, Nat.reduceEqDiff, Nat.reduceAdd, Nat.reduceLT, Nat.reduceLeDiff, reduceIte, g2, g5, g6, g18, g19]
        exact ⟨trivial, trivial, trivial, trivial, trivial, trivial, trivial, hd2, hq, by rw [List.length_append]; simp; omega, hf, toks', hA', hT', by rw [hbl, List.append_assoc]⟩
      · rw [if_neg he] at hq
        have hbe : ((g0 + c.f) == f) = false := beq_eq_false_iff_ne.2 he
        simp only [go_sem, Nat.reduceEqDiff, Nat.reduceAdd, Nat.reduceLT, Nat.reduceLeDiff, reduceIte, g2, g4, g5, g6, g18, g19, g20, dec_lt hlt, Chs_idxT hk, ht2, hm2, tC, tA, WB77, WVH_eq (minus_ok hb1 hb2), true_and, sameN3, isKeyV, mgetW hw.srt, hl, Option.getD_some, Option.isSome_some, Bool.not_true, wrap_i64 (g0 + c.f) (by omega) (by omega), hlenA, hz, decide_eq_false hlt2, hbe, wrap_n1 k (by omega)]
        refine Nx_of (k + 1, r, (D, f), A, j ++ [.live [encCh c] 5]) (by simp) ?_
        simp only [go_sem, Nat.reduceEqDiff, Nat.reduceAdd, Nat.reduceLT, Nat.reduceLeDiff, reduceIte, g2, g4, g5, g6, g18, g19]
        exact ⟨trivial, trivial, trivial, trivial, trivial, trivial, trivial, hd2, hq, by omega, hf, toks, hA, hT, by rw [hbl, List.append_assoc]⟩
end Go.Ab.T
end

section
namespace Go.Ab.T
set_option maxRecDepth 8000
set_option maxHeartbeats 4000000
/-! ### A slice in memory of one's own that grows -/
def OwnJ (N : Nat) (vals : List AV) (V : AV) (j : List Blk) : Prop := (vals = [] ∧ V = .sl [] .tight) ∨ (vals ≠ [] ∧ ∃ q, V = .ref (N + q) 0 vals.length ∧ j[q]? = some (.live vals 1))
theorem OwnJ.cells {N : Nat} {vals : List AV} {V : AV} {j : List Blk} (h : OwnJ N vals V j) : V.cells = [V] ∧ V.solid = true ∧ V.isAgg = false := by
  rcases h with ⟨_, rfl⟩ | ⟨_, q, rfl, _⟩ <;> exact ⟨rfl, rfl, rfl⟩
theorem OwnJ.ext {N : Nat} {vals : List AV} {V : AV} {j : List Blk} (h : OwnJ N vals V j) (x : List Blk) : OwnJ N vals V (j ++ x) := by
  rcases h with h | ⟨h1, q, h2, h3⟩
  · exact .inl h
  · exact .inr ⟨h1, q, h2, getA h3 x⟩
theorem OwnJ.app {X j : List Blk} {tk : List (Nat × Nat)} {vals : List AV} {V y : AV} (h : OwnJ X.length vals V j) (hy : y.cells.length = 1) (hl : vals.length ≤ 1000) {T bytes : Nat} (hb : bytes ≤ 100) {KK : AV × Mem → Prop}
    (hK : ∀ V' j', OwnJ X.length (vals ++ [y]) V' j' → KK (V', ⟨X ++ j', tk⟩)) : @OptH _ (appendAt ⟨X ++ (j ++ [.live [y] 1]), tk⟩ true V (.ref (X.length + j.length) 0 1) T 1 bytes) ⟨KK⟩ := by
  have hel : (X ++ (j ++ [Blk.live [y] 1]))[X.length + j.length]? = some (.live [y] 1) := by
    rw [List.getElem?_append_right (by omega), show X.length + j.length - X.length = j.length by omega]; simp
  have he : Mem.elems ⟨X ++ (j ++ [Blk.live [y] 1]), tk⟩ (.ref (X.length + j.length) 0 1) = some [y] := by
    simp only [Mem.elems, hel]; rfl
  have hh : hdSz [y] 1 = true := by simp [hdSz, hy]
  rcases h with ⟨rfl, rfl⟩ | ⟨hne, q, rfl, hq⟩
  · have : appendAt ⟨X ++ (j ++ [.live [y] 1]), tk⟩ true (.sl [] .tight) (.ref (X.length + j.length) 0 1) T 1 bytes = some (.ref (X ++ (j ++ [Blk.live [y] 1])).length 0 1, ⟨X ++ (j ++ [.live [y] 1]) ++ [.live [y] 1], tk⟩) := by
      simp only [appendAt, he, hh]
      rw [if_neg (by simp), if_pos ⟨by unfold limit; simp; omega, rfl⟩]
      simp [newBlk]
    rw [this]
    have := hK (.ref (X.length + (j.length + 1)) 0 1) (j ++ [Blk.live [y] 1] ++ [.live [y] 1]) (.inr ⟨by simp, j.length + 1, rfl, by simp⟩)
    show KK _
    rw [show (X ++ (j ++ [Blk.live [y] 1])).length = X.length + (j.length + 1) by simp, List.append_assoc]
    exact this
  · have hql := (List.getElem?_eq_some_iff.1 hq).1
    have hq2 : (X ++ (j ++ [Blk.live [y] 1]))[X.length + q]? = some (.live vals 1) := by
      rw [List.getElem?_append_right (by omega), show X.length + q - X.length = q by omega]; exact getA hq _
    have : appendAt ⟨X ++ (j ++ [.live [y] 1]), tk⟩ true (.ref (X.length + q) 0 vals.length) (.ref (X.length + j.length) 0 1) T 1 bytes = some (.ref (X ++ (j ++ [Blk.live [y] 1])).length 0 (vals.length + 1), ⟨(X ++ (j ++ [Blk.live [y] 1])).set (X.length + q) .dead ++ [.live (vals ++ [y]) 1], tk⟩) := by
      simp only [appendAt, he, hh, hq2]
      rw [if_neg (by simp), if_neg (by simp), if_neg (by simp), if_pos ⟨by simp, by
        unfold limit
        have : (vals.length + 1) * (bytes + 1) ≤ 1001 * 101 := Nat.mul_le_mul (by omega) (by omega)
        simp only [List.length_singleton]; omega⟩]
      simp
    rw [this]
    have hset : (X ++ (j ++ [Blk.live [y] 1])).set (X.length + q) .dead = X ++ (j ++ [Blk.live [y] 1]).set q .dead := by
      rw [List.set_append_right _ _ (by omega), show X.length + q - X.length = q by omega]
    have := hK (.ref (X.length + (j.length + 1)) 0 (vals.length + 1)) ((j ++ [Blk.live [y] 1]).set q .dead ++ [.live (vals ++ [y]) 1]) (.inr ⟨by simp, j.length + 1, by simp, by
      rw [List.getElem?_append_right (by simp)]; simp⟩)
    show KK _
    rw [hset, show (X ++ (j ++ [Blk.live [y] 1])).length = X.length + (j.length + 1) by simp, List.append_assoc]
    exact this
def tillsOf (v : Ev) : List (List Ch) := v.cs.map (chs (toV v.pr) (toV v.se))
theorem EV4.sbd {v : Ev} (h : EV4 v) : (toV v.se).bd 100 ∧ (toV v.se).nn := by
  have := toV_bd h.se (by decide) (by decide)
  simp only [V3.bd, V3.nn]; omega
theorem EV4.ppos {v : Ev} (h : EV4 v) : (toV v.pr).pos := by
  have := toV_bd (lo := 0) (hi := 50) (l := v.pr) (fun n hn => by have := h.pr n hn; omega) (by decide) (by decide)
  simp only [V3.pos]; omega
theorem chs_B {v : Ev} (h : EV4 v) {c : Ctr} (hc : c ∈ v.cs) : (chs (toV v.pr) (toV v.se) c).length ≤ 100000000 ∧ ∀ x ∈ chs (toV v.pr) (toV v.se) c, ChB x := by
  have hb := h.sbd
  have hr := (h.cs c hc).ro
  constructor
  · unfold chs
    rw [List.length_map]
    have := spl_len (roll c) (toV v.se) (by omega) hb.1
    omega
  · intro x hx
    obtain ⟨t, ⟨⟨h1, h2⟩, h3⟩, rfl⟩ := mem_chs.1 hx
    have hf := flw_bd (toV v.pr) c t
    refine ⟨?_, hf.1, hf.2⟩
    show t.bd 1000
    have := hb.1
    simp only [V3.bd, V3.nn, V3.le] at *
    omega
def agT (v : Ev) (V : AV) : AV := .agg [I64 (toV v.se).x, I64 (toV v.se).y, I64 (toV v.se).z, V]
def tX (B : List Blk) (v : Ev) (V : AV) : List Blk := B ++ [.live [encE v] 4, .live [.agg [I64 0, I64 0, I64 0, .sl [] .tight]] 4, .live [agT v V] 4]
theorem tX_len (B : List Blk) (v : Ev) (V : AV) : (tX B v V).length = B.length + 3 := by simp [tX]
theorem tX0 (B : List Blk) (v : Ev) (V : AV) (j : List Blk) : (tX B v V ++ j)[B.length]? = some (.live [encE v] 4) := by simp [tX]
theorem tX1 (B : List Blk) (v : Ev) (V : AV) (j : List Blk) : (tX B v V ++ j)[B.length + 1]? = some (.live [.agg [I64 0, I64 0, I64 0, .sl [] .tight]] 4) := by
  unfold tX
  rw [List.append_assoc, List.getElem?_append_right (by omega), show B.length + 1 - B.length = 1 by omega]; rfl
theorem tX2 (B : List Blk) (v : Ev) (V : AV) (j : List Blk) : (tX B v V ++ j)[B.length + 2]? = some (.live [agT v V] 4) := by
  unfold tX
  rw [List.append_assoc, List.getElem?_append_right (by omega), show B.length + 2 - B.length = 2 by omega]; rfl
theorem tXs (B : List Blk) (v : Ev) (V V' : AV) (j : List Blk) : (tX B v V ++ j).set (B.length + 2) (.live [agT v V'] 4) = tX B v V' ++ j := by
  unfold tX
  rw [List.append_assoc, List.set_append_right _ _ (by omega), show B.length + 2 - B.length = 2 by omega, List.append_assoc]; rfl
theorem agT_solids {v : Ev} {V : AV} (h : V.solid = true) : (agT v V).solids = true := by
  show (true && (true && (true && (V.solid && true)))) = true
  rw [h]; rfl
theorem truthsOf_W {v : Ev} (h : EV4 v) {B : List Blk} {tk : List (Nat × Nat)} {K : AV → Mem → Prop}
    (hK : ∀ id junk, (B ++ junk)[id]? = some (.live (encTL ((tillsOf v).map fun L => (L, .unk))) 1) → K (tAV (toV v.se) id v.cs.length) ⟨B ++ junk, tk⟩) : WR ft (.f 46) [encE v] ⟨B, tk⟩ K := by
  rw [WR_f ft46 rfl]
  simp only [c46, r46]
  have hsl := h.sl
  have hk1 := h.k1
  have hk3 := h.k3
  have hse : RV ft 68 [encIs v.se] (encV (toV v.se)) := tick_ok (by omega) (by omega)
  have hpr : RV ft 68 [encIs v.pr] (encV (toV v.pr)) := tick_ok (by omega) (by omega)
  have hb := h.sbd
  have hn4 := h.n4
  have fill : fillParts [I64 0, I64 0, I64 0, .sl [] .tight] [(0, 3, encV (toV v.se))] = some [I64 (toV v.se).x, I64 (toV v.se).y, I64 (toV v.se).z, .sl [] .tight] := rfl
  have g3 : ∀ x y z : Blk, (B ++ [x] ++ [y] ++ [z])[B.length]? = some x := fun x y z => by simp
  simp only [go_sem, Nat.reduceEqDiff, Nat.reduceAdd, Nat.reduceLT, Nat.reduceLeDiff, reduceIte, WB68, WVH_eq hse, true_and, fill, g3]
  have hX0 : ∀ V, (tX B v V).length = B.length + 3 := tX_len B v
  refine WL_inv (α := Nat × List Ctr × List Ctr × AV × List Blk) (fun q e mm => e 1 = .ptr B.length 0 0 ∧ e 2 = .ptr (B.length + 1) 0 0 ∧ e 3 = .ptr (B.length + 2) 0 0 ∧ e 11 = encCs v.cs ∧ e 12 = I64 v.cs.length ∧ e 13 = I64 q.1 ∧ v.cs.drop q.1 = q.2.1 ∧ q.2.2.1 ++ q.2.1 = v.cs ∧
    OwnJ (B.length + 3) ((q.2.2.1.map (chs (toV v.pr) (toV v.se))).map encChs) q.2.2.2.1 q.2.2.2.2 ∧ mm = ⟨tX B v q.2.2.2.1 ++ q.2.2.2.2, tk⟩) (fun q => q.2.1.length) (0, v.cs, [], .sl [] .tight, []) ?_ ?_
  · simp only [go_sem, Nat.reduceEqDiff, Nat.reduceAdd, Nat.reduceLT, Nat.reduceLeDiff, reduceIte]
    ((repeat' apply And.intro) <;> first | trivial | rfl | assumption | omega | (exact .inl ⟨rfl, rfl⟩) | ((rw [List.append_nil]; simp [tX, agT]; done)) | (simp [tX, agT]))
  rintro ⟨k, r, D, V, j⟩ e m ⟨g1, g2, g3, g11, g12, g13, hd, hq, hO, rfl⟩
  dsimp only at g13 hd hq hO
  obtain ⟨a1, a2, a3⟩ := hO.cells
  have aC : (agT v V).cells = [I64 (toV v.se).x, I64 (toV v.se).y, I64 (toV v.se).z, V] := rfl
  have aA : (agT v V).isAgg = true := rfl
  have aE : AV.agg [I64 (toV v.se).x, I64 (toV v.se).y, I64 (toV v.se).z, V] = agT v V := rfl
  cases r with
  | nil =>
    have h3 := drop_nil hd
    rw [List.append_nil] at hq
    subst hq
    have hs1 : ∀ x, (tX B v V ++ j).set (B.length + 1) (.live [x] 4) = B ++ .live [encE v] 4 :: .live [x] 4 :: .live [agT v V] 4 :: j := fun x => by
      unfold tX
      rw [List.append_assoc, List.set_append_right _ _ (by omega), show B.length + 1 - B.length = 1 by omega]; rfl
    have hg1 : ∀ x, (B ++ .live [encE v] 4 :: .live [x] 4 :: .live [agT v V] 4 :: j)[B.length + 1]? = some (Blk.live [x] 4) := fun x => by
      rw [List.getElem?_append_right (by omega), show B.length + 1 - B.length = 1 by omega]; rfl
    have hsol := agT_solids (v := v) a2
    have hw : writeCells (.agg [I64 0, I64 0, I64 0, .sl [] .tight]) 0 [I64 (toV v.se).x, I64 (toV v.se).y, I64 (toV v.se).z, V] = some (agT v V) := rfl
    simp only [go_sem, Nat.reduceEqDiff, Nat.reduceAdd, Nat.reduceLT, Nat.reduceLeDiff, reduceIte, g1, g2, g3, g11, g12, g13, dec_ge h3, tX0, tX1, tX2, aC, aA, aE, hsol, hw, hs1, hg1]
    rcases hO with ⟨h4, _⟩ | ⟨_, q, rfl, h5⟩
    · have hn1 := h.n1
      have : v.cs = [] := by simpa using h4
      rw [this] at hn1; simp at hn1
    · rw [List.length_map, List.length_map]
      refine hK (B.length + 3 + q) _ ?_
      rw [List.getElem?_append_right (by omega), show B.length + 3 + q - B.length = q + 3 by omega]
      show j[q]? = _
      rw [h5]
      unfold encTL tillsOf
      simp only [List.map_map]
      rfl
  | cons c r =>
    obtain ⟨hk, hd2, hlt⟩ := drop_cons hd
    have hcm := List.mem_of_getElem? hk
    have hCh := choicesOf_ok hk1 hk3 (h.cs c hcm) hb.1 h.ppos
    have hDl : (D.map (chs (toV v.pr) (toV v.se))).length ≤ 1000 := by
      have := congrArg List.length hq
      rw [List.length_append] at this
      rw [List.length_map]; omega
    obtain ⟨bl, hbl⟩ : ∃ x, x = tX B v V ++ j := ⟨_, rfl⟩
    have f0 : ∀ x, (bl ++ [x])[B.length]? = some (.live [encE v] 4) := fun x => by rw [hbl, List.append_assoc]; exact tX0 _ _ _ _
    have f2 : ∀ x, (bl ++ [x])[B.length + 2]? = some (.live [agT v V] 4) := fun x => by rw [hbl, List.append_assoc]; exact tX2 _ _ _ _
    rw [← hbl]
    simp only [go_sem, Nat.reduceEqDiff, Nat.reduceAdd, Nat.reduceLT, Nat.reduceLeDiff, reduceIte, g1, g2, g3, g11, g12, g13, dec_lt hlt, Cs_idx hk, f0, f2, a1, a2, a3, aC, aA, aE, WB68, WVH_eq hpr, true_and, WB75, WVH_eq hCh]
    have e1 : bl ++ [Blk.live [encC c] 6] ++ [Blk.live [encChs (chs (toV v.pr) (toV v.se) c)] 1] = tX B v V ++ ((j ++ [Blk.live [encC c] 6]) ++ [Blk.live [encChs (chs (toV v.pr) (toV v.se) c)] 1]) := by rw [hbl]; simp
    have e2 : (bl ++ [Blk.live [encC c] 6]).length = (tX B v V).length + (j ++ [Blk.live [encC c] 6]).length := by rw [hbl, List.append_assoc, List.length_append]
    rw [e1, e2]
    have hO' : OwnJ (tX B v V).length ((D.map (chs (toV v.pr) (toV v.se))).map encChs) V (j ++ [Blk.live [encC c] 6]) := by rw [hX0]; exact hO.ext _
    refine hO'.app rfl (by rw [List.length_map]; exact hDl) (by decide) fun V' j' hV' => ?_
    rw [hX0] at hV'
    obtain ⟨b1, b2, b3⟩ := hV'.cells
    have wV : writeCells (agT v V) 3 [V'] = some (agT v V') := rfl
    simp only [go_sem, Nat.reduceEqDiff, Nat.reduceAdd, Nat.reduceLT, Nat.reduceLeDiff, reduceIte, g1, g2, g3, g11, g12, g13, tX0, tX2, b1, b2, b3, wV, tXs, wrap_n1 k (by omega)]
    refine Nx_of (k + 1, r, D ++ [c], V', j') (by simp) ?_
    simp only [go_sem, Nat.reduceEqDiff, Nat.reduceAdd, Nat.reduceLT, Nat.reduceLeDiff, reduceIte, g1, g2, g3, g11, g12]
    refine ⟨trivial, trivial, trivial, trivial, trivial, trivial, hd2, by rw [List.append_assoc]; exact hq, ?_, by trivial⟩
    rw [List.map_append, List.map_append]
    exact hV'
end Go.Ab.T
end

section
namespace Go.Ab.T
set_option maxRecDepth 8000
set_option maxHeartbeats 4000000
def hasTr (v : Ev) : Bool := rolls v.cs == (toV v.se).sum
theorem hasTruth_ok {v : Ev} (h : EV4 v) : RV ft 74 [encE v] (.bool (hasTr v)) := by
  refine RV_of ft74 rfl ?_
  simp only [c74, r74]
  have hse : RV ft 68 [encIs v.se] (encV (toV v.se)) := tick_ok (by have := h.k1; have := h.sl; omega) (by have := h.k3; have := h.sl; omega)
  have hb : (toV v.se).bd 1000000 := by have := h.sbd.1; simp only [V3.bd] at this ⊢; omega
  have hn := h.n4
  simp only [go_sem, Nat.reduceEqDiff, Nat.reduceAdd, Nat.reduceLT, Nat.reduceLeDiff, reduceIte]
  refine WL_inv (α := Nat × List Ctr × Int) (fun q e mm => e 1 = .ptr 0 0 0 ∧ e 3 = I64 q.2.2 ∧ e 7 = encCs v.cs ∧ e 8 = I64 v.cs.length ∧ e 9 = I64 q.1 ∧ v.cs.drop q.1 = q.2.1 ∧ q.2.2 + rolls q.2.1 = rolls v.cs ∧ (0 ≤ q.2.2 ∧ q.2.2 ≤ 100 * q.1) ∧ ∃ bl, mm = ⟨.live [encE v] 4 :: bl, []⟩) (fun q => q.2.1.length) (0, v.cs, 0) ?_ ?_
  · simp only [go_sem, Nat.reduceEqDiff, Nat.reduceAdd, Nat.reduceLT, Nat.reduceLeDiff, reduceIte]
    exact ⟨trivial, trivial, trivial, trivial, rfl, trivial, Int.zero_add _, ⟨Int.le_refl _, by simp⟩, _, rfl⟩
  rintro ⟨k, r, n⟩ e m ⟨g1, g3, g7, g8, g9, hd, hq, hb2, bl, rfl⟩
  dsimp only at g3 g9 hd hq hb2
  cases r with
  | nil =>
    have h3 := drop_nil hd
    simp only [rolls, Int.add_zero] at hq
    simp only [go_sem, Nat.reduceEqDiff, Nat.reduceAdd, Nat.reduceLT, Nat.reduceLeDiff, reduceIte, g1, g3, g7, g8, g9, dec_ge h3, WB68, WVH_eq hse, true_and, WB69, WVH_eq (together_ok hb)]
    rw [hq]; rfl
  | cons c r =>
    obtain ⟨hk, hd2, hlt⟩ := drop_cons hd
    have hc := h.cs c (List.mem_of_getElem? hk)
    have hr := hc.ro
    simp only [go_sem, Nat.reduceEqDiff, Nat.reduceAdd, Nat.reduceLT, Nat.reduceLeDiff, reduceIte, g1, g3, g7, g8, g9, dec_lt hlt, Cs_idx hk, WB70, WVH_eq (roll_ok hc.s), true_and, wrap_n1 k (by omega), wrap_i64 (n + roll c) (by omega) (by omega)]
    refine Nx_of (k + 1, r, n + roll c) (by simp) ?_
    simp only [go_sem, Nat.reduceEqDiff, Nat.reduceAdd, Nat.reduceLT, Nat.reduceLeDiff, reduceIte, g1, g7, g8]
    simp only [rolls] at hq
    exact ⟨trivial, trivial, trivial, trivial, trivial, hd2, by omega, ⟨by omega, by omega⟩, _, rfl⟩
def errT (v : Ev) (till sh : Int) : Int := if evOK v = true then (if (inR till 0 ((v.cs.length : Int) - 1) && inR sh 0 ((v.pr.length : Int) - 1)) = true then (if hasTr v = true then 0 else 3) else 1) else 100
theorem checkTruth_ok {v : Ev} (hS : SE v) (till sh : Int) : RV ft 45 [encE v, I64 till, I64 sh] (I64 (errT v till sh)) := by
  refine RV_of ft45 rfl ?_
  simp only [c45, r45]
  unfold errT
  have hn := hS.n
  have hp := hS.p
  cases ho : evOK v
  · simp only [go_sem, Nat.reduceEqDiff, Nat.reduceAdd, Nat.reduceLT, Nat.reduceLeDiff, reduceIte, WB65, WVH_eq (validEvening_ok v hS), true_and, ho, Bool.not_false, Bool.false_eq_true]
  have h := EV4_of.1 ho
  cases h1 : inR till 0 ((v.cs.length : Int) - 1)
  · simp only [go_sem, Nat.reduceEqDiff, Nat.reduceAdd, Nat.reduceLT, Nat.reduceLeDiff, reduceIte, WB65, WVH_eq (validEvening_ok v hS), true_and, ho, Bool.not_true, Bool.not_false, Bool.false_eq_true, wrap_i64 ((v.cs.length : Int) - 1) (by omega) (by omega), WB73, WVH_eq (isWithin_ok _ _ _), h1, Bool.false_and]
  cases h2 : inR sh 0 ((v.pr.length : Int) - 1)
  · simp only [go_sem, Nat.reduceEqDiff, Nat.reduceAdd, Nat.reduceLT, Nat.reduceLeDiff, reduceIte, WB65, WVH_eq (validEvening_ok v hS), true_and, ho, Bool.not_true, Bool.not_false, Bool.false_eq_true, wrap_i64 ((v.cs.length : Int) - 1) (by omega) (by omega), wrap_i64 ((v.pr.length : Int) - 1) (by omega) (by omega), WB73, WVH_eq (isWithin_ok _ _ _), h1, h2, Bool.true_and]
  cases h3 : hasTr v
  · simp only [go_sem, Nat.reduceEqDiff, Nat.reduceAdd, Nat.reduceLT, Nat.reduceLeDiff, reduceIte, WB65, WVH_eq (validEvening_ok v hS), true_and, ho, Bool.not_true, Bool.not_false, Bool.false_eq_true, wrap_i64 ((v.cs.length : Int) - 1) (by omega) (by omega), wrap_i64 ((v.pr.length : Int) - 1) (by omega) (by omega), WB73, WVH_eq (isWithin_ok _ _ _), h1, h2, Bool.true_and, WB74, WVH_eq (hasTruth_ok h), h3]
  · simp only [go_sem, Nat.reduceEqDiff, Nat.reduceAdd, Nat.reduceLT, Nat.reduceLeDiff, reduceIte, WB65, WVH_eq (validEvening_ok v hS), true_and, ho, Bool.not_true, Bool.not_false, Bool.false_eq_true, wrap_i64 ((v.cs.length : Int) - 1) (by omega) (by omega), wrap_i64 ((v.pr.length : Int) - 1) (by omega) (by omega), WB73, WVH_eq (isWithin_ok _ _ _), h1, h2, Bool.true_and, WB74, WVH_eq (hasTruth_ok h), h3]
theorem errT0 {v : Ev} {till sh : Int} (h : errT v till sh = 0) : EV4 v ∧ (0 ≤ till ∧ till < v.cs.length) ∧ (0 ≤ sh ∧ sh < v.pr.length) ∧ hasTr v = true := by
  unfold errT at h
  split at h
  · rename_i h1
    split at h
    · rename_i h2
      split at h
      · rename_i h3
        rw [Bool.and_eq_true, inR_iff, inR_iff] at h2
        exact ⟨EV4_of.1 h1, by omega, by omega, h3⟩
      · cases h
    · cases h
  · cases h
theorem errT_ne {v : Ev} {till sh : Int} : (errT v till sh != 0) = !decide (errT v till sh = 0) := by
  by_cases h : errT v till sh = 0
  · rw [h]; rfl
  · rw [decide_eq_false h, bne_iff_ne.2 h]; rfl
/-! ### What is likely at a till -/
def likV (v : Ev) (i : Nat) : List Ch × Int := match v.cs[i]? with
  | some c => likF (toV v.pr) (toV v.se) v.cs i c
  | none => ([], 0)
theorem likV_bd {v : Ev} (h : EV4 v) (i : Nat) : ∀ x ∈ (likV v i).1, ChB x := by
  unfold likV
  cases hc : v.cs[i]? with
  | none => intro x hx; cases hx
  | some c =>
    have hI : LikI (othersF (toV v.pr) (toV v.se) (v.cs.eraseIdx i)) (toV v.se) (chs (toV v.pr) (toV v.se) c) (likF (toV v.pr) (toV v.se) v.cs i c) := likS_I _ _ (chs (toV v.pr) (toV v.se) c) [] ([], 0) ⟨fun _ => ⟨(fun c hc => nomatch hc), rfl⟩, fun h => absurd rfl h⟩
    intro x hx
    dsimp only at hx
    have hne : (likF (toV v.pr) (toV v.se) v.cs i c).1 ≠ [] := fun e => by rw [e] at hx; cases hx
    exact (chs_B h (List.mem_of_getElem? hc)).2 x (((hI.2 hne).1 x).1 hx).1
theorem likS_len (w : WM) (s : V3) : ∀ (L : List Ch) (q : List Ch × Int), (likS w s L q).1.length ≤ q.1.length + L.length
  | [], q => by simp [likS]
  | c :: L, q => by
    simp only [likS, List.length_cons]
    split
    · have := likS_len w s L q; omega
    · split
      · have := likS_len w s L ([c], ‹Int›); simp at this; omega
      · split
        · have := likS_len w s L (q.1 ++ [c], q.2); simp at this; omega
        · have := likS_len w s L q; omega
theorem likV_len {v : Ev} (h : EV4 v) (i : Nat) : (likV v i).1.length ≤ 100000000 := by
  unfold likV
  cases hc : v.cs[i]? with
  | none => simp
  | some c =>
    have h1 := likS_len (othersF (toV v.pr) (toV v.se) (v.cs.eraseIdx i)) (toV v.se) (chs (toV v.pr) (toV v.se) c) ([], 0)
    have h2 := (chs_B h (List.mem_of_getElem? hc)).1
    dsimp only
    unfold likF
    simp only [List.length_nil, Nat.zero_add] at h1
    omega
/-- likely of an evening's truths. -/
theorem likeV_W {v : Ev} (h : EV4 v) {i : Nat} (hi : i < v.cs.length) {B : List Blk} {tk : List (Nat × Nat)} {id : Nat} (hid : B[id]? = some (.live (encTL ((tillsOf v).map fun L => (L, .unk))) 1)) {K : AV → Mem → Prop}
    (hK : ∀ w junk toks, AppV 72 ((likV v i).1.map encCh) w toks → TkK 72 tk toks → K (.tup [w, I64 (likV v i).2]) ⟨B ++ junk, toks⟩) : WR ft (.f 47) [tAV (toV v.se) id v.cs.length, I64 (i : Int)] ⟨B, tk⟩ K := by
  have hlen : ((tillsOf v).map fun L => (L, Tk.unk)).length = v.cs.length := by simp [tillsOf]
  rw [← hlen]
  have hc : v.cs[i]? = some v.cs[i] := List.getElem?_eq_getElem hi
  have hb : (toV v.se).bd 1000 := by have := h.sbd.1; simp only [V3.bd] at this ⊢; omega
  have hmap : ((tillsOf v).map fun L => (L, Tk.unk)).map Prod.fst = v.cs.map (chs (toV v.pr) (toV v.se)) := by
    unfold tillsOf
    simp only [List.map_map]
    rfl
  have hlk : likS (othG i 0 [(V3.zero, 0)] (((tillsOf v).map fun L => (L, Tk.unk)).map Prod.fst)) (toV v.se) (chs (toV v.pr) (toV v.se) v.cs[i]) ([], 0) = likV v i := by
    rw [hmap]
    have := othG_eq (toV v.pr) (toV v.se) v.cs 0 i [(V3.zero, 0)]
    rw [Nat.zero_add] at this
    rw [this]
    unfold likV
    rw [hc]
    rfl
  refine likely_W (fun p hp => ?_) (by rw [hlen]; have := h.n4; omega) hb (L := chs (toV v.pr) (toV v.se) v.cs[i]) (tkL := .unk) ?_ hid ?_
  · obtain ⟨L, hL, rfl⟩ := List.mem_map.1 hp
    obtain ⟨c, hc', rfl⟩ := List.mem_map.1 hL
    exact chs_B h hc'
  · unfold tillsOf
    rw [List.getElem?_map, List.getElem?_map, hc]; rfl
  · rw [hlk]; exact hK
theorem Fewest_ok {v : Ev} (hS : SE v) : RV ft 15 [encE v] (.tup [I64 (if errT v 0 0 = 0 then (likV v 0).2 else 0), I64 (errT v 0 0)]) := by
  refine RV_of ft15 rfl ?_
  simp only [c15, r15]
  by_cases he : errT v 0 0 = 0
  · obtain ⟨h, ⟨_, h1⟩, _, _⟩ := errT0 he
    rw [if_pos he]
    have hc := checkTruth_ok hS 0 0
    rw [he] at hc ⊢
    simp only [go_sem, Nat.reduceEqDiff, Nat.reduceAdd, Nat.reduceLT, Nat.reduceLeDiff, reduceIte, WB45, WVH_eq hc, true_and, show ((0 : Int) != 0) = false from rfl, WB46]
    refine truthsOf_W h fun id junk hid => ?_
    simp only [go_sem, Nat.reduceEqDiff, Nat.reduceAdd, Nat.reduceLT, Nat.reduceLeDiff, reduceIte, WB47]
    refine likeV_W h (i := 0) (by omega) hid fun w junk2 toks hw _ => ?_
    simp only [go_sem, Nat.reduceEqDiff, Nat.reduceAdd, Nat.reduceLT, Nat.reduceLeDiff, reduceIte]
  · rw [if_neg he]
    have hne : (errT v 0 0 != 0) = true := bne_iff_ne.2 he
    simp only [go_sem, Nat.reduceEqDiff, Nat.reduceAdd, Nat.reduceLT, Nat.reduceLeDiff, reduceIte, WB45, WVH_eq (checkTruth_ok hS 0 0), true_and, hne]
end Go.Ab.T
end
